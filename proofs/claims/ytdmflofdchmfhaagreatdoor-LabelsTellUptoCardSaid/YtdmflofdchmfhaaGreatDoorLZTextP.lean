/- The program's Text, with great parts; it is the document's. -/
import Derived.Test.YtdmflofdchmfhaaGreatDoorLZText
namespace Go.Proofs.YtdmflofdchmfhaaGreatDoor
open Go.RowKit Go.Shelf Go.Lib

theorem quoteLZ_len (s : ByteArray) : (quoteL (bl s)).length ≤ 5 * s.size + 2 := by
  have := (quote_len (bl_byt s)).2
  rw [bl_len] at this
  omega
theorem partTZ_len {x : Lb} (h : x.1.size ≤ 2000000 ∧ x.2.size ≤ 2000000) : (partT x).size ≤ 12000003 := by
  have := quoteLZ_len x.2
  rw [partT, ByteArray.size_append, ByteArray.size_append, ofl_size]
  show x.1.size + 1 + _ ≤ _
  omega
theorem joinZ_small {l : List Lb} (h : ∀ x ∈ l, x.1.size ≤ 2000000 ∧ x.2.size ≤ 2000000) : (Lib.join ((l.map partT).map (·.data.toList)) [44, 32]).length ≤ l.length * 12000005 := by
  cases l with
  | nil => simp [Lib.join]
  | cons x r =>
    rw [List.map_cons, List.map_cons, Lib.join_length]
    have hl : ∀ r : List Lb, (∀ x ∈ r, x.1.size ≤ 2000000 ∧ x.2.size ≤ 2000000) → Lib.lens ((r.map partT).map (·.data.toList)) ≤ r.length * 12000003 := by
      intro r hr
      induction r with
      | nil => simp [Lib.lens]
      | cons y r ih =>
        have h1 := ih fun z hz => hr z (List.mem_cons_of_mem _ hz)
        have h2 := partTZ_len (hr y List.mem_cons_self)
        have h3 : (partT y).data.toList.length = (partT y).size := by rw [Array.length_toList]; rfl
        simp only [Lib.lens, List.map_cons, List.sum_cons, List.length_cons] at h1 ⊢
        omega
    have := hl (x :: r) h
    rw [List.map_cons, List.map_cons] at this
    simp only [List.length_cons, List.length_nil, List.length_map] at this ⊢
    omega
set_option maxRecDepth 100000 in
set_option maxHeartbeats 4000000 in
theorem TextW_any (A : Option Addr) (n c : Nat) (l : List Lb) (w : World) (hr : RowL w w.heap.size A n l) (hn : n ≤ 40) (hsz : ∀ x ∈ l, x.1.size ≤ 2000000 ∧ x.2.size ≤ 2000000) :
    Calls Tryz.prog 20 #[.slice A n c] w fun e w' => e = .returned (.string (textS l)) ∧ Below w.heap.size w w' := by
  obtain ⟨i0, hi0, hz0, hz1, hz2⟩ := info_parts str_info
  have HR := Lib.hid hr
  have HL := Lib.hid hr.1
  have HZ := Lib.hid hsz
  obtain ⟨w1, hrun, hown, hg⟩ := run_make_full (P := Tryz.prog) w w.heap.size 51 9 i0 (.string ByteArray.empty) 1 Tryz.underlying51 hi0 hz0 hz1 .i64 .i64 n (by rw [hz2]; omega) (by unfold maxLen; omega) (Nat.le_refl _)
  rw [Nat.mul_one, show (Value.string ByteArray.empty).cells = #[.string ByteArray.empty] from rfl, made_str] at hown
  have HB1 := Lib.hid (grown_below hg)
  have HO1 : Hid (w1.ownsRow w.heap.size 9 1 (.slice (some ⟨w.heap.size, 0, none⟩) n n) n (strs (rowT l n 0))) := Lib.hid (by
    have e : rowT l n 0 = List.replicate n ByteArray.empty := by simp [rowT]
    rw [e]; exact hown)
  clear hr hsz hown hg hz0 hz1 hz2
  go_enter Tryz.func20, Tryz.ntmps20
  go_wp2_with fail
  clear hrun
  go_loopw [11] (fun p wr => ∃ k : Nat, k ≤ n ∧ p = .int .i64 (k : Int) ∧ Hid (wr.ownsRow w.heap.size 9 1 (.slice (some ⟨w.heap.size, 0, none⟩) n n) n (strs (rowT l n k))) ∧ Hid (Below w.heap.size w wr)) (fun p _ => n - (intOf p).toNat)
  case atStart => exact ⟨0, by omega, rfl, HO1, HB1⟩
  case round =>
    obtain ⟨k, hk, rfl, HO, HBw⟩ := hrel
    by_cases hlt : k < n
    · obtain ⟨b, off, hA, hbB, hc⟩ := HR.out.2 (by omega)
      subst hA
      have c1 := (HBw.out.cell (p := ⟨b, off + k * 2, none⟩) hbB).trans (hc k hlt).1
      have c2 := (HBw.out.cell (p := ⟨b, off + k * 2 + 1, none⟩) hbB).trans (hc k hlt).2
      obtain ⟨x, hx⟩ : ∃ x, l.getD k noL = x := ⟨_, rfl⟩
      rw [hx] at c1 c2
      have HX := Lib.hid hx
      have HXs : Hid (x.1.size ≤ 2000000 ∧ x.2.size ≤ 2000000) := Lib.hid (HZ.out x (by
        rw [← hx, List.getD_eq_getElem?_getD, List.getElem?_eq_getElem (by rw [HL.out]; exact hlt)]
        exact List.getElem_mem _))
      obtain ⟨x1, x2⟩ := x
      dsimp only at c1 c2
      have g0 : (0 : Int) ≤ (k : Int) := by omega
      have g1 : (k : Int) < (n : Int) := by omega
      have f1 : decide ((k : Int) < (n : Int)) = true := decide_eq_true g1
      have HK := Lib.hid hlt
      have HQ := Lib.hid (fun v : World => Quote_any x2 (by have := HXs.out.2; dsimp only at this; omega) v)
      have hba := HBw.out.alloc HBw.out.size (.cells #[.string x1, .string x2] 29)
      have HTa : Hid (TSt w wr n k l (x1, x2) (wr.alloc (.cells #[.string x1, .string x2] 29)).drew) := Lib.hid
        ⟨hba.drew, (HO.out.alloc _), by show wr.heap.size < (wr.alloc _).heap.size; rw [World.size_alloc]; exact Nat.lt_succ_self _,
          by show (wr.alloc _).cell? _ = _; rw [World.cell?_alloc_at _ _ _ _ (by simp)]; rfl, by show (wr.alloc _).cell? _ = _; rw [World.cell?_alloc_at _ _ _ _ (by simp)]; rfl⟩
      have HNe : Hid (w.heap.size ≠ wr.heap.size) := Lib.hid (by have := (HO.out.lt w.heap.size rfl).2; omega)
      clear hx hlt hc hba
      go_wp2_with fail
      obtain ⟨wa, hwa⟩ : ∃ v, (wr.alloc (.cells #[.string x1, .string x2] 29)) = v := ⟨_, rfl⟩
      rw [hwa] at HTa
      rw [hwa]
      have m1 : ¬ 9223372036854775807 < x1.size + 1 := by have := HXs.out.1; omega
      clear hwa
      go_region_held3 (fun w' => w'.cell? ⟨wr.heap.size, 0, none⟩ = some (.string x1) ∧ w'.cell? ⟨wr.heap.size, 1, none⟩ = some (.string x2))
        (first | exact ⟨HTa.out.2.2.2.1, HTa.out.2.2.2.2⟩ | exact hP.out _ | assumption)
        ((first
          | (go_at_call 43
             with_reducible refine (HQ.out _).mono ?_
             rintro e v ⟨S, rfl, hS, hb⟩
             have hT := HTa.out.on hb
             have hT2 : v.cell? ⟨wr.heap.size, 0, none⟩ = some (.string x1) ∧ v.cell? ⟨wr.heap.size, 1, none⟩ = some (.string x2) := ⟨hT.2.2.2.1, hT.2.2.2.2⟩
             have hP := Lib.hid (fun u => hT.others HNe.out u)
             have zS : S.size ≤ 10000002 := by
               have h1 := quoteLZ_len x2
               have h2 := HXs.out.2
               rw [← hS, bl_len] at h1
               omega
             have m2 : ¬ 9223372036854775807 < x1.size + 1 + S.size := by have := HXs.out.1; omega
             have sp1 := (hT.spot HL.out HK.out).1
             have sp2 := (hT.spot HL.out HK.out).2
             have HT := Lib.hid hT
             clear hT)))
      all_goals
        have hSS : S = ofl (quoteL (bl x2)) := by rw [← hS, ofl_bl]
        have hF := HT.out.put HL.out HK.out HX.out
        have hpt : partT (x1, x2) = x1 ++ ⟨#[61]⟩ ++ S := by rw [hSS]; rfl
        rw [hpt] at hF
        have HF1 := Lib.hid hF.1
        have HF2 := Lib.hid hF.2
        clear hSS hF hpt hS hb hT2 hP sp1 sp2 HT
        go_wp2_with fail
        exact ⟨⟨k + 1, HK.out, by go_num, HF1, HF2⟩, by have := HK.out; simp [intOf]; omega⟩
    · obtain rfl : k = n := by omega
      have f1 : decide ((k : Int) < (k : Int)) = false := decide_eq_false (by omega)
      have hl := HL.out
      have hrow : rowT l k k = l.map partT := by
        unfold rowT
        rw [List.take_of_length_le (by omega), Nat.sub_self]; simp
      have hO := HO.out
      rw [hrow] at hO
      have hjl := joinZ_small HZ.out
      have hxl : (l.map partT).length = k := by rw [List.length_map]; exact hl
      have hJ := Tryz.strings_Join w.heap.size 0 k (l.map partT) ⟨#[44, 32]⟩ wr (fun j x hj => by
          have hjk : j < k := by rw [← hxl]; exact (List.getElem?_eq_some_iff.1 hj).1
          rw [Nat.zero_add]
          refine (hO.cellAt j (by omega)).trans ?_
          rw [strs, List.getElem?_map, hj]; rfl) (hO.lt w.heap.size rfl).2 (by omega) (by omega) (by show (Lib.join _ [44, 32]).length ≤ _; omega)
      rw [hxl] at hJ
      have HJ := Lib.hid hJ
      have hz : (Lib.join ((l.map partT).map (·.data.toList)) [44, 32]).length ≤ 480000200 := by rw [hl] at hjl; omega
      have HTx : Hid (textS l = (⟨#[123]⟩ ++ ⟨(Lib.join ((l.map partT).map (·.data.toList)) [44, 32]).toArray⟩) ++ ⟨#[125]⟩) := Lib.hid rfl
      have hsep : (ByteArray.mk #[44, 32]).data.toList = [44, 32] := rfl
      generalize hjj : Lib.join ((l.map partT).map (·.data.toList)) [44, 32] = J at *
      clear hjl hxl hO hrow hJ
      go_wp2_with fail
      with_reducible refine HJ.out.mono ?_
      rintro e v ⟨rfl, b2⟩
      have HBe := Lib.hid (HBw.out.trans (b2.mono HBw.out.size))
      have m1 : ¬ 9223372036854775807 < 1 + J.length := by omega
      have m2 : ¬ 9223372036854775807 < 1 + J.length + 1 := by omega
      clear b2
      go_wp2_with fail
      go_ret
      rw [HTx.out]
      exact ⟨rfl, HBe.out⟩
end Go.Proofs.YtdmflofdchmfhaaGreatDoor
