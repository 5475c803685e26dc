/- Unquote. -/
import Derived.Test.YtbhhakobkpdadaaQUnq
import Derived.Lib.IndexAny
namespace Go.Proofs.Ytbhhakobkpdadaa
open Go.RowKit Go.Shelf

theorem index_mem (l : List UInt8) (c : UInt8) : decide (0 ≤ Lib.indexByte l c) = decide (c.toNat ∈ l.map UInt8.toNat) := by
  rw [← Lib.contains_iff_indexByte, Bool.eq_iff_iff, List.contains_iff_mem, decide_eq_true_eq, List.mem_map]
  exact ⟨fun h => ⟨c, h, rfl⟩, fun ⟨x, hx, e⟩ => by rw [← UInt8.toNat_inj.1 e]; exact hx⟩
theorem contains_any (I : ByteArray) (w : World) : Calls Try.prog 23 #[.string I, .string ⟨#[96]⟩] w fun e w' => e = .returned (.bool (decide (96 ∈ bl I))) ∧ w' = w := by
  have := Try.strings_Contains_one I 96 w
  rw [index_mem] at this
  exact this
set_option maxRecDepth 100000 in
set_option maxHeartbeats 4000000 in
theorem Unquote_any (s : ByteArray) (hs : s.size ≤ 100000) (w : World) : Calls Try.prog 18 #[.string s] w (UnOut w (unqL (bl s))) := by
  by_cases h2 : s.size < 2
  · have HF : Hid (unqL (bl s) = none) := Lib.hid (by rw [unqL, if_pos (Or.inl (by rw [bl_len]; exact h2))])
    have d1 : decide ((s.size : Int) < 2) = true := decide_eq_true (by omega)
    have d2 : decide (s.size < 2) = true := decide_eq_true h2
    clear h2
    go_enter Try.func18, Try.ntmps18
    go_wp2_with fail
    go_quiet (fail)
    go_wp2
    go_ret2
    rw [HF.out]
    exact bad_out (Below.dn (Below.refl _ _) _)
  · obtain ⟨q, hq⟩ : ∃ q, s.size - 1 = q := ⟨_, rfl⟩
    have hqs : q < s.size := by omega
    obtain ⟨a, ha⟩ : ∃ a, (bl s).getD 0 0 = a := ⟨_, rfl⟩
    obtain ⟨z, hz⟩ : ∃ z, (bl s).getD q 0 = z := ⟨_, rfl⟩
    have h00 : 0 < s.size := by omega
    have g0 : (s[0]'h00).toNat = a := by rw [bl_get, ha]
    have gq : (s[q]'hqs).toNat = z := by rw [bl_get, hz]
    have d1 : decide ((s.size : Int) < 2) = false := decide_eq_false (by omega)
    have d2 : decide (s.size < 2) = false := decide_eq_false h2
    have hs0 : (0 : Int) < (s.size : Int) := by omega
    have hq0 : (0 : Int) ≤ (q : Int) := by omega
    have hq1 : (1 : Int) ≤ (q : Int) := by omega
    have hq2 : (q : Int) < (s.size : Int) := by omega
    have hq3 : (q : Int) ≤ (s.size : Int) := by omega
    have hwq : IntKind.i64.wrap ((s.size : Int) - 1) = (q : Int) := by rw [IntKind.wrap_i64]; omega
    have hlq : (bl s).length - 1 = q := by rw [bl_len, hq]
    by_cases haz : a = z
    · have hneq : ((a : Int) != (z : Int)) = false := by simp [haz]
      have hI0 : unqL (bl s) = if a = 96 then (if 96 ∈ ((bl s).take q).drop 1 then none else some (((bl s).take q).drop 1)) else if a = 34 then unL (((bl s).take q).drop 1) else none := by
        rw [unqL, hlq, ha, hz, if_neg (by rw [bl_len]; omega)]
      obtain ⟨I, hI⟩ : ∃ I, s.extract 1 q = I := ⟨_, rfl⟩
      have hbI : bl I = ((bl s).take q).drop 1 := by rw [← hI, bl_extract]
      rw [← hbI] at hI0
      have HI0 := Lib.hid hI0
      have hIs : I.size ≤ 100000 := by rw [← bl_len, hbI, List.length_drop, List.length_take, bl_len]; omega
      have HCt := Lib.hid (fun w => contains_any I w)
      have HUn := Lib.hid (fun w => unescape_any I hIs w)
      clear hI0 hbI hIs h2 ha hz hlq haz hq
      by_cases q96 : a = 96
      · have f96 : ((a : Int) == 96) = true := by simp; omega
        by_cases hm : 96 ∈ bl I
        · have HF : Hid (unqL (bl s) = none) := Lib.hid (by rw [HI0.out, if_pos q96, if_pos hm])
          rw [decide_eq_true hm] at HCt
          clear q96 hm
          go_enter Try.func18, Try.ntmps18
          go_wp2_with fail
          go_quiet (fail)
          go_wp2_with fail
          with_reducible refine (HCt.out _).mono ?_
          rintro e w2 ⟨rfl, rfl⟩
          go_wp2_with fail
          go_ret2
          rw [HF.out]
          exact bad_out (Below.dn (Below.refl _ _) _)
        · have HF : Hid (unqL (bl s) = some (bl I)) := Lib.hid (by rw [HI0.out, if_pos q96, if_neg hm])
          rw [decide_eq_false hm] at HCt
          clear q96 hm
          go_enter Try.func18, Try.ntmps18
          go_wp2_with fail
          go_quiet (fail)
          go_wp2_with fail
          with_reducible refine (HCt.out _).mono ?_
          rintro e w2 ⟨rfl, rfl⟩
          go_wp2_with fail
          go_ret2
          rw [HF.out]
          exact ⟨_, rfl, rfl, Below.dn (Below.refl _ _) _⟩
      · have f96 : ((a : Int) == 96) = false := by simp; omega
        by_cases q34 : a = 34
        · have f34 : ((a : Int) == 34) = true := by simp; omega
          have hF : unqL (bl s) = unL (bl I) := by rw [HI0.out, if_neg q96, if_pos q34]
          obtain ⟨o, ho⟩ : ∃ o, unL (bl I) = o := ⟨_, rfl⟩
          rw [ho] at HUn hF
          have HF := Lib.hid hF
          clear q96 q34 ho HI0 hF
          cases o with
          | none =>
            go_enter Try.func18, Try.ntmps18
            go_wp2_with fail
            go_quiet (fail)
            go_wp2_with fail
            with_reducible refine (HUn.out _).mono ?_
            rintro e w2 ⟨T, rfl, hT, b2⟩
            go_wp2_with fail
            go_ret2
            rw [HF.out]
            exact ⟨T, rfl, hT, (Below.dn (Below.refl _ _) _).trans b2⟩
          | some t =>
            go_enter Try.func18, Try.ntmps18
            go_wp2_with fail
            go_quiet (fail)
            go_wp2_with fail
            with_reducible refine (HUn.out _).mono ?_
            rintro e w2 ⟨T, rfl, hT, b2⟩
            go_wp2_with fail
            go_ret2
            rw [HF.out]
            exact ⟨T, rfl, hT, (Below.dn (Below.refl _ _) _).trans b2⟩
        · have f34 : ((a : Int) == 34) = false := by simp; omega
          have HF : Hid (unqL (bl s) = none) := Lib.hid (by rw [HI0.out, if_neg q96, if_neg q34])
          clear q96 q34
          go_enter Try.func18, Try.ntmps18
          go_wp2_with fail
          go_quiet (fail)
          go_wp2
          go_ret2
          rw [HF.out]
          exact bad_out (Below.dn (Below.refl _ _) _)
    · have hneq : ((a : Int) != (z : Int)) = true := by simp; omega
      have HF : Hid (unqL (bl s) = none) := Lib.hid (by rw [unqL, hlq, ha, hz, if_pos (Or.inr haz)])
      clear h2 ha hz hlq haz hq
      go_enter Try.func18, Try.ntmps18
      go_wp2_with fail
      go_quiet (fail)
      go_wp2
      go_ret2
      rw [HF.out]
      exact bad_out (Below.dn (Below.refl _ _) _)
end Go.Proofs.Ytbhhakobkpdadaa
