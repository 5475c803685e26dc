/- QuoteNames, walked. -/
import Derived.Test.YtbhhakobkpdadaaQUtf
import Derived.Test.YtbhhakobkpdadaaQWhole
namespace Go.Proofs.Ytbhhakobkpdadaa
open Go.RowKit Go.Shelf

/-- Where the k-th part begins. -/
def posOf (P : List (List Nat × Nat)) (k : Nat) : Nat := ((P.take k).flatMap Prod.fst).length
theorem parts_at : ∀ (k : Nat) (L : List Nat), k ≤ (parts L).length → parts (L.drop (posOf (parts L) k)) = (parts L).drop k ∧ (k < (parts L).length → L.drop (posOf (parts L) k) ≠ [] ∧ dec (L.drop (posOf (parts L) k)) = (((parts L).getD k ([], 0)).2, posOf (parts L) (k + 1) - posOf (parts L) k) ∧ posOf (parts L) k < posOf (parts L) (k + 1)) := by
  intro k
  induction k with
  | zero =>
    intro L h
    refine ⟨by simp [posOf], fun h0 => ?_⟩
    have hL : L ≠ [] := by intro e; rw [e] at h0; simp [parts_nil] at h0
    have hd := dec_size hL
    have hp := parts_cons hL
    have e0 : posOf (parts L) 0 = 0 := by simp [posOf]
    have e1 : posOf (parts L) 1 = (dec L).2 := by
      rw [hp, posOf]
      simp only [List.take_succ_cons, List.take_zero, List.flatMap_cons, List.flatMap_nil, List.append_nil, List.length_take]
      omega
    rw [e0, e1, List.drop_zero]
    refine ⟨hL, ?_, by omega⟩
    rw [hp]
    rfl
  | succ k ih =>
    intro L h
    have hL : L ≠ [] := by intro e; rw [e] at h; simp [parts_nil] at h
    have hd := dec_size hL
    have hp := parts_cons hL
    have hlen : (parts L).length = (parts (L.drop (dec L).2)).length + 1 := by rw [hp, List.length_cons]
    have hpos : ∀ j, posOf (parts L) (j + 1) = (dec L).2 + posOf (parts (L.drop (dec L).2)) j := fun j => by
      rw [posOf, hp]
      simp only [List.take_succ_cons, List.flatMap_cons, List.length_append, List.length_take, posOf]
      omega
    obtain ⟨h1, h2⟩ := ih (L.drop (dec L).2) (by omega)
    rw [List.drop_drop, ← hpos] at h1 h2
    refine ⟨by rw [h1, hp]; rfl, fun hk => ?_⟩
    obtain ⟨g1, g2, g3⟩ := h2 (by omega)
    refine ⟨g1, ?_, by rw [hpos, hpos]; omega⟩
    rw [g2, hpos, hpos, hp]
    simp only [List.getD_cons_succ]
    congr 1
    omega
theorem posOf_le (L : List Nat) (k : Nat) (h : k ≤ (parts L).length) : posOf (parts L) k ≤ L.length := by
  have hb := parts_bytes _ L (Nat.le_refl _)
  have : ((parts L).take k ++ (parts L).drop k).flatMap Prod.fst = L := by rw [List.take_append_drop, hb]
  rw [List.flatMap_append] at this
  have h2 := congrArg List.length this
  rw [List.length_append] at h2
  unfold posOf
  omega
set_option maxRecDepth 100000 in
set_option maxHeartbeats 8000000 in
theorem QuoteNames_in (s0 : ByteArray) (hs9 : s0.size ≤ 140737488351232) (w : World) : Calls Try.prog 8 #[.string s0] w (YesOut w true) := by
  obtain ⟨p0, hp0⟩ : ∃ p, min s0.size 2000 = p := ⟨_, rfl⟩
  have i0 : min (s0.size : Int) 2000 = (p0 : Int) := by omega
  have j0 : (p0 : Int) ≤ (s0.size : Int) := by omega
  have k0 : (0 : Int) ≤ (p0 : Int) := by omega
  obtain ⟨s, hs⟩ : ∃ x, s0.extract 0 p0 = x := ⟨_, rfl⟩
  have hss : s.size ≤ 2000 := by
    rw [← hs, ← bl_len, bl_extract]
    simp only [List.drop_zero, List.length_take]; omega
  have HQ := Lib.hid (fun w => Runes_any s (by omega) w)
  have HW := Lib.hid (fun w => works_true w)
  obtain ⟨P, hP⟩ : ∃ P, parts (bl s) = P := ⟨_, rfl⟩
  have hPl := parts_len (bl s)
  rw [bl_len, hP] at hPl
  have HAt : Hid (∀ k, k ≤ P.length → (k < P.length → posOf P k < s.size ∧ Utf8.decode s (posOf P k) = ((P.getD k ([], 0)).2, posOf P (k + 1) - posOf P k) ∧ posOf P k < posOf P (k + 1)) ∧ (k = P.length → ¬ posOf P k < s.size)) := Lib.hid (fun k hk => by
    have h := parts_at k (bl s) (by rw [hP]; exact hk)
    rw [hP] at h
    refine ⟨fun hlt => ?_, fun he => ?_⟩
    · obtain ⟨g1, g2, g3⟩ := h.2 hlt
      have hlt2 : posOf P k < s.size := by
        rcases Nat.lt_or_ge (posOf P k) s.size with q | q
        · exact q
        · exact absurd (List.drop_of_length_le (by rw [bl_len]; exact q)) g1
      exact ⟨hlt2, by rw [utf_dec s _ hlt2, g2], g3⟩
    · have hb := parts_bytes _ (bl s) (Nat.le_refl _)
      rw [hP] at hb
      rw [he, posOf, List.take_length, hb, bl_len]
      omega)
  obtain ⟨m, hm⟩ : ∃ m, P.length = m := ⟨_, rfl⟩
  have HQ2 : Hid (∀ w, Calls Try.prog 13 #[.string s] w fun e W' => ∃ A c, e = .returned (.slice A m c) ∧ Row W' W'.heap.size A m (P.map rEnc) ∧ Below w.heap.size w W') := Lib.hid (fun w => by
    refine (HQ.out w).mono ?_
    rintro e w' ⟨v, rfl, o, b⟩
    obtain ⟨A, c, rfl⟩ := own_form o
    rw [hP, hm] at o ⊢
    exact ⟨A, c, rfl, Row.own o, b⟩)
  rw [hm] at HAt hPl
  have HM := Lib.hid hm
  clear hp0 hP hm HQ
  go_enter Try.func8, Try.ntmps8
  go_wp2_with fail
  with_reducible refine (HW.out _).mono ?_
  rintro e w1 ⟨rfl, b1⟩
  go_wp2_with fail
  with_reducible refine (HQ2.out _).mono ?_
  rintro e w2 ⟨A, c, rfl, r2, b2⟩
  have HB := Lib.hid (next b1 b2)
  have HR := Lib.hid r2
  clear b1 b2 r2 HQ2 HW
  go_wp2_with fail
  go_loopw [4] (fun i wr => ∃ k : Nat, k ≤ m ∧ i = .int .i64 k ∧ wr = w2.iter s (posOf P k)) (fun i _ => m - (intOf i).toNat)
  case atStart => exact ⟨0, Nat.zero_le _, rfl, by simp [posOf]⟩
  case round =>
    obtain ⟨k, hk, rfl, rfl⟩ := hrel
    by_cases hlt : k < m
    · obtain ⟨h1, h2, h3⟩ := (HAt.out k hk).1 hlt
      have hk0 : (0 : Int) ≤ (k : Int) := by omega
      have hk1 : (k : Int) < (m : Int) := by omega
      have d1 : decide ((m : Int) ≤ (k : Int)) = false := decide_eq_false (by omega)
      have d2 : decide (m ≤ k) = false := decide_eq_false (by omega)
      obtain ⟨g, off, hA, hgb, -⟩ := HR.out.2 (by omega)
      subst hA
      obtain ⟨v, hv⟩ : ∃ v, (P.getD k ([], 0)).2 = v := ⟨_, rfl⟩
      have hcell : (w2.iter s (posOf P (k + 1))).cell? ⟨g, off + k, none⟩ = some (.int .i32 (v : Int)) := by
        have hc := HR.out.cell hlt
        have hP : (P.map rEnc)[k]? = some (.int .i32 (v : Int)) := by
          rw [List.getElem?_map, List.getElem?_eq_getElem (by rw [HM.out]; exact hlt)]
          rw [← hv, List.getD_eq_getElem?_getD, List.getElem?_eq_getElem (by rw [HM.out]; exact hlt)]
          rfl
        exact (World.cell?_alloc_lt w2 _ _ hgb).trans (hc.trans hP)
      rw [hv] at h2
      have hnx : ∀ ty, (Instr.next (.pointer (some ⟨w2.heap.size, 0, none⟩)) true ty).run Try.prog (w2.iter s (posOf P k)) = .ok (.tuple #[.bool true, .int .i64 (posOf P k : Nat), .int .i32 (v : Int)]) (w2.iter s (posOf P (k + 1))) := fun ty => by
        have := run_next_any (P := Try.prog) w2 s (posOf P k) ty h1
        rw [h2] at this
        rw [this]
        simp only
        rw [show posOf P k + (posOf P (k + 1) - posOf P k) = posOf P (k + 1) by omega]
      have vv : ((v : Int) != (v : Int)) = false := by simp
      obtain ⟨W3, hW3⟩ : ∃ W, w2.iter s (posOf P (k + 1)) = W := ⟨_, rfl⟩
      rw [hW3] at hnx hcell
      have HW3 := Lib.hid hW3
      clear h1 h2 h3 hv hgb hW3
      go_wp2_with fail
      exact ⟨⟨k + 1, hlt, by go_num, HW3.out.symm⟩, by simp [intOf]; omega⟩
    · have hkm : k = m := by omega
      subst hkm
      have hend := (HAt.out k hk).2 rfl
      have hnx : ∀ ty, (Instr.next (.pointer (some ⟨w2.heap.size, 0, none⟩)) true ty).run Try.prog (w2.iter s (posOf P k)) = .ok (.tuple #[.bool false]) (w2.iter s (posOf P k)) := fun ty => run_next_end (P := Try.prog) w2 s (posOf P k) ty hend
      have vv : ((k : Int) == (k : Int)) = true := by simp
      have HF : Hid (Below w.heap.size w (w2.iter s (posOf P k))) := Lib.hid (HB.out.alloc HB.out.size _)
      clear hend hlt
      go_wp2_with fail
      go_ret
      exact ⟨rfl, HF.out⟩
theorem QuoteNames_walk (s : ByteArray) (w : World) (hs9 : s.size ≤ 140737488351232) : Calls Try.prog 8 #[.string s] w fun e w' => e = .returned (.bool true) ∧ Below w.heap.size w w' := QuoteNames_in s hs9 w
end Go.Proofs.Ytbhhakobkpdadaa
