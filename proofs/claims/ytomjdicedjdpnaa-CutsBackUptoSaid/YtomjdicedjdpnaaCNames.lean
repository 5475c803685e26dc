/- The program's Names. -/
import Derived.Test.YtomjdicedjdpnaaCRNames
namespace Go.Proofs.Ytomjdicedjdpnaa
open Go.RowKit

set_option maxRecDepth 100000 in
set_option maxHeartbeats 4000000 in
theorem Names_any (b : Nat) (A : ByteArray) (l : List Lb) (w : World) (h : CAt w b A l) (hl : l.length ≤ 1000000) :
    Calls Try.prog 15 #[.pointer (some ⟨b, 0, none⟩)] w (SOut w (nmsL l)) := by
  obtain ⟨i0, hi0, hz0, hz1, hz2⟩ := info_parts1 str_info1
  obtain ⟨a, n, c, hbw, hc0, hc1, hr⟩ := h
  have HR := Lib.hid hr
  have hn := hr.1
  have HC := Lib.hid (And.intro hbw hc1)
  have HN := Lib.hid hn
  clear hr hc0
  go_enter Try.func15, Try.ntmps15
  go_wp2_with fail
  go_loopw [3, 13] (fun o p wr => ∃ k : Nat, k ≤ n ∧ p = .int .i64 (k : Int) ∧ Hid (wr.ownsRow w.heap.size 9 1 o (nmsL (l.take k)).length (strs (nmsL (l.take k)))) ∧ Hid (Below w.heap.size w wr)) (fun _ p _ => n - (intOf p).toNat)
  case atStart => exact ⟨0, by omega, rfl, Lib.hid (World.ownsRow_nil _ _ _ _), Lib.hid (Below.refl _ _)⟩
  case round =>
    obtain ⟨k, hk, rfl, HO, HB⟩ := hrel
    obtain ⟨m, hm⟩ : ∃ m, (nmsL (l.take k)).length = m := ⟨_, rfl⟩
    rw [hm] at HO
    have HM := Lib.hid hm
    obtain ⟨Ao, co, ho⟩ := own_sliceS HO.out
    subst ho
    by_cases hlt : k < n
    · obtain ⟨g, off, rfl, hgB, hc⟩ := HR.out.2 (by omega)
      have a1 := (HB.out.cell (p := ⟨g, off + k * 2, none⟩) hgB).trans (hc k hlt).1
      have a2 := (HB.out.cell (p := ⟨g, off + k * 2 + 1, none⟩) hgB).trans (hc k hlt).2
      have hkl : k < l.length := by omega
      have hsn := nmsL_snoc (l.take k) (l.getD k noL)
      rw [← take_snocL hkl] at hsn
      have hnk := nmsL_len (l.take k)
      have hlk : (l.take k).length ≤ 1000000 := by rw [List.length_take]; omega
      obtain ⟨x, hx⟩ : ∃ x, (l.getD k noL).1 = x := ⟨_, rfl⟩
      obtain ⟨x2, hx2⟩ : ∃ x, (l.getD k noL).2 = x := ⟨_, rfl⟩
      rw [hx] at a1 hsn
      rw [hx2] at a2
      have HBa := Lib.hid (HB.out.alloc HB.out.size (.cells #[.string x, .string x2] 62))
      have HOa := Lib.hid (HO.out.alloc (.cells #[.string x, .string x2] 62))
      have g0 : (0 : Int) ≤ (k : Int) := by omega
      have g1 : (k : Int) < (n : Int) := by omega
      have f1 : decide ((k : Int) < (n : Int)) = true := decide_eq_true g1
      have HK := Lib.hid hlt
      rw [hm] at hnk
      by_cases hu : x = ⟨#[95]⟩
      · have t1 : (x.toList == [95]) = true := (lit_eq x [95]).trans (decide_eq_true hu)
        rw [if_pos hu, List.append_nil] at hsn
        have HO2 : Hid ((wr.alloc (.cells #[.string x, .string x2] 62)).ownsRow w.heap.size 9 1 (.slice Ao m co) (nmsL (l.take (k + 1))).length (strs (nmsL (l.take (k + 1))))) := Lib.hid (by rw [hsn, hm]; exact HOa.out)
        clear hu hsn hx hx2 hc hlt hkl hnk hm
        go_wp2_with fail
        exact ⟨⟨k + 1, HK.out, by go_num, HO2, HBa⟩, by have := HK.out; simp [intOf]; omega⟩
      · have t1 : (x.toList == [95]) = false := (lit_eq x [95]).trans (decide_eq_false hu)
        rw [if_neg hu] at hsn
        have HSN := Lib.hid hsn
        have hsz := HBa.out.size
        have hrow1 := Row.oneS (wr.alloc (.cells #[.string x, .string x2] 62)) 9 x
        simp only [World.size_alloc] at hrow1
        clear hu hsn hx hx2 hc hlt hkl hm
        go_wp2_with (at_builtin; refine wpList_app _ rfl _ _ 22 rfl w.heap.size 9 i0 (.string ByteArray.empty) 16 Try.underlying22 hi0 hz0 hz1 hz2 rfl _ m _ rfl (HOa.out.alloc _) _ _ 1 1 _ rfl hrow1 (strs_one1 [x]) (by unfold maxLen; omega) (by omega) (by rw [World.size_alloc]; omega) ?_)
        intro v' w' ho _ hb
        have HO2 : Hid (w'.ownsRow w.heap.size 9 1 v' (nmsL (l.take (k + 1))).length (strs (nmsL (l.take (k + 1))))) := Lib.hid (by
          rw [HSN.out, List.length_append, HM.out]
          simpa [strs] using ho)
        have HB2 := Lib.hid ((HBa.out.alloc hsz (.cells #[.string x] 9)).trans hb)
        obtain ⟨A2, c2, e2⟩ := own_sliceS ho
        subst e2
        clear ho hb hsz hrow1
        go_wp2_with fail
        exact ⟨⟨k + 1, HK.out, by go_num, HO2, HB2⟩, by have := HK.out; simp [intOf]; omega⟩
    · obtain rfl : k = n := by omega
      have f1 : decide ((k : Int) < (k : Int)) = false := decide_eq_false (by omega)
      have HF : Hid (l.take k = l) := Lib.hid (List.take_of_length_le (by rw [HN.out]; exact Nat.le_refl _))
      go_wp2_with fail
      go_ret
      have hO := HO.out
      have hM := HM.out
      rw [HF.out] at hO hM
      subst hM
      exact ⟨Ao, co, rfl, hO, HB.out⟩
end Go.Proofs.Ytomjdicedjdpnaa
