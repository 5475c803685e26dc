/- The document's Clean. -/
import Derived.Test.YtdmflofdchmfhaaGreatDoorLZName
import Derived.Test.YtdmflofdchmfhaaGreatDoorLClean
import Derived.ArgAppend
import Derived.Lib.SmallJoins
namespace Go.Proofs.YtdmflofdchmfhaaGreatDoor
open Go.RowKit Go.Shelf Go.Lib

theorem cleanB_map (L : List Nat) : cleanB L = (if L.map fC = [] ∨ digC ((L.map fC).headD 0) = true then 95 :: L.map fC else L.map fC).take 64 := rfl
theorem BRow.row {B g cap : Nat} {l : List Nat} {v : World} (h : BRow B g cap l v) : Row v v.heap.size (some ⟨g, 0, none⟩) l.length (ints .u8 (nums l)) := by
  refine ⟨by rw [ints_len, nums_len], fun _ => ⟨g, 0, rfl, h.lt, fun j hj => ?_⟩⟩
  rw [Nat.zero_add, h.cell j hj, nums_get _ _ hj]
theorem app_cells {w : World} {base n : Nat} {e : TypeId} {v : Value} {M : List Nat} (h : w.ownsRow base e 1 v (1 + n) ([.int .u8 95] ++ ints .u8 (nums M))) :
    ∃ g c, v = .slice (some ⟨g, 0, none⟩) (1 + n) c ∧ 1 + n ≤ c ∧ ∀ j, j < 1 + n → w.cell? ⟨g, j, none⟩ = some (.int .u8 (((95 :: M).getD j 0 : Nat) : Int)) := by
  have hl : M.length = n := by have := h.1; simp [ints, nums] at this; omega
  rcases h.2 with ⟨_, h0⟩ | ⟨g, cap, cur, rfl, _, _, hc, _⟩
  · omega
  · refine ⟨g, cap, rfl, hc, fun j hj => ?_⟩
    rw [h.cellAt j (by omega)]
    exact nums_get (95 :: M) j (by simp; omega)
set_option maxRecDepth 100000 in
set_option maxHeartbeats 8000000 in
theorem rClean_any (s : ByteArray) (hs : s.size ≤ 2000000) (w : World) : Calls Tryz.prog 15 #[.string s] w fun e w' => e = .returned (.string (ofl (cleanB (bl s)))) ∧ Below w.heap.size w w' := by
  obtain ⟨i0, hi0, hz0, hz1, hz2⟩ := info_parts u8_info
  obtain ⟨cap, hcap⟩ : ∃ cap, cap = grownCap w s.size 0 5 := ⟨_, rfl⟩
  have hcg : s.size ≤ cap := by rw [hcap]; exact grownCap_ge w _ _ _
  have hcm : cap ≤ 9223372036854775807 := by
    have := grownCap_le_maxLen w s.size 0 5 (by unfold maxLen; omega)
    rw [← hcap] at this
    unfold maxLen at this
    omega
  have hcv := run_bytes_of_string (P := Tryz.prog) w 9 45 5 s Tryz.underlying9 Tryz.underlying45 Tryz.underlying5
  rw [← hcap] at hcv
  have hrs : (bytesRow s cap).size = cap := by
    have : s.data.size = s.size := rfl
    simp [bytesRow]; omega
  rw [hrs] at hcv
  have HB0 := Lib.hid (BRow.made w s cap hcg hcm)
  have HBl := Lib.hid (((Below.refl w.heap.size w).alloc (Nat.le_refl _) (.cells (bytesRow s cap) 5 (cap, cap + 1))).drew)
  have HN := Lib.hid (fun c (v : World) => rPart_any c v)
  have HD := Lib.hid (fun c (v : World) => rDigit_any c v)
  clear hcap hrs
  go_enter Tryz.func15, Tryz.ntmps15
  go_wp2_with fail
  clear hcv
  go_loopw [4] (fun p wr => ∃ i : Nat, i ≤ s.size ∧ p = .int .i64 (i : Int) ∧ Hid (BRow w.heap.size w.heap.size cap (rowC (bl s) i) wr) ∧ Hid (Below w.heap.size w wr)) (fun p _ => s.size - (intOf p).toNat)
  case atStart => exact ⟨0, by omega, rfl, by simpa [rowC] using HB0, HBl⟩
  case round =>
    obtain ⟨i, hi, rfl, HBr, HBw⟩ := hrel
    by_cases hlt : i < s.size
    · have hib : i < (bl s).length := by rw [bl_len]; exact hlt
      have d1 := HBr.out.cell i (by rw [rowC_len]; exact hib)
      rw [rowC_at _ hib] at d1
      have hc8 : (bl s).getD i 0 < 256 := bl_byt s _ (by rw [List.getD_eq_getElem?_getD, List.getElem?_eq_getElem hib]; exact List.getElem_mem _)
      have HNx := Lib.hid (rowC_next (bl s) hib)
      have HSm := Lib.hid (rowC_same (bl s) hib)
      have d2 := HBr.out.free i (by omega)
      have HPt := Lib.hid (HBr.out.put i 95 (by rw [rowC_len]; exact hib))
      have HBs := Lib.hid (HBw.out.setCell (p := ⟨w.heap.size, i, none⟩) (Nat.le_refl _) (.int .u8 95))
      obtain ⟨x, hx⟩ : ∃ x, (bl s).getD i 0 = x := ⟨_, rfl⟩
      rw [hx] at d1 hc8 HNx HSm
      have HNp := Lib.hid (HN.out x)
      have g0 : (0 : Int) ≤ (i : Int) := by omega
      have g1 : (i : Int) < (s.size : Int) := by omega
      have f1 : decide ((i : Int) < (s.size : Int)) = true := decide_eq_true g1
      have HK := Lib.hid hlt
      clear hx hib hlt
      rcases hp : prtC x with _ | _
      · rw [hp] at HNp
        have HB2 : Hid (rowC (bl s) (i + 1) = (rowC (bl s) i).set i 95) := Lib.hid (by rw [HNx.out]; unfold fC; rw [hp]; rfl)
        clear hp
        go_wp2_with fail
        with_reducible refine (HNp.out _).mono ?_
        rintro e v ⟨rfl, rfl⟩
        go_wp2_with fail
        exact ⟨⟨i + 1, HK.out, by go_num, Lib.hid (by rw [HB2.out]; exact HPt.out), HBs⟩, by have := HK.out; simp [intOf]; omega⟩
      · rw [hp] at HNp
        have HB2 : Hid (rowC (bl s) (i + 1) = rowC (bl s) i) := Lib.hid (HSm.out hp)
        clear hp
        go_wp2_with fail
        with_reducible refine (HNp.out _).mono ?_
        rintro e v ⟨rfl, rfl⟩
        go_wp2_with fail
        exact ⟨⟨i + 1, HK.out, by go_num, Lib.hid (by rw [HB2.out]; exact HBr.out), HBw⟩, by have := HK.out; simp [intOf]; omega⟩
    · obtain rfl : i = s.size := by omega
      have f1 : decide ((s.size : Int) < (s.size : Int)) = false := decide_eq_false (by omega)
      have hre : rowC (bl s) s.size = (bl s).map fC := by rw [← bl_len, rowC_end]
      rw [hre] at HBr
      have hC := cleanB_map (bl s)
      obtain ⟨M, hM⟩ : ∃ M, (bl s).map fC = M := ⟨_, rfl⟩
      rw [hM] at HBr hC
      have hMl : M.length = s.size := by rw [← hM, List.length_map, bl_len]
      have hMb : Byt M := by
        intro x hx
        rw [← hM] at hx
        obtain ⟨y, hy, rfl⟩ := List.mem_map.1 hx
        exact fC_lt (bl_byt s y hy)
      have HMb := Lib.hid hMb
      have HC := Lib.hid hC
      obtain ⟨n, hn⟩ : ∃ n, s.size = n := ⟨_, rfl⟩
      rw [hn] at hMl hs f1 ⊢
      have HMl := Lib.hid hMl
      clear hre hM hMb hC hlt hi hcg hn
      by_cases hz : n = 0
      · subst hz
        obtain rfl : M = [] := List.eq_nil_of_length_eq_zero hMl
        have HF : Hid (cleanB (bl s) = [95]) := Lib.hid (by rw [HC.out, if_pos (.inl rfl)]; rfl)
        have hbA := HBw.out.alloc HBw.out.size (.cells #[.int .u8 95] 5 (1, 2))
        have hcc := Go.Joins.run_convert_bytes_const_at (P := Tryz.prog) wr 45 5 #[.int .u8 95] 1 1 wr.heap.size rfl Tryz.underlying45 Tryz.underlying5
        have hcv : (convert 45 9 (.slice (some ⟨wr.heap.size, 0, none⟩) 1 1)).run Tryz.prog (wr.alloc (.cells #[.int .u8 95] 5 (1, 2))) = .ok (.string (ofl [95])) (wr.alloc (.cells #[.int .u8 95] 5 (1, 2))) := conv_row (P := Tryz.prog) (wr.alloc (.cells #[.int .u8 95] 5 (1, 2))) 45 9 5 wr.heap.size 1 [95] Tryz.underlying45 Tryz.underlying5 Tryz.underlying9 (Byt.cons (by omega) Byt.nil) (fun j hj => by
          have hj0 : j = 0 := by simpa using hj
          subst hj0
          rw [World.cell?_alloc_mark]; rfl)
        have hmn : min (1 : Int) 64 = 1 := by omega
        have HB5 := Lib.hid hbA
        clear hMl hbA
        go_wp2_with fail
        go_ret
        rw [HF.out]
        exact ⟨rfl, HB5.out⟩
      · have z1 : ((n : Int) == 0) = false := beq_eq_false_iff_ne.2 (by omega)
        have d1 := HBr.out.cell 0 (by omega)
        obtain ⟨x, hx⟩ : ∃ x, M.getD 0 0 = x := ⟨_, rfl⟩
        rw [hx] at d1
        have hh : M.headD 0 = x := by
          cases M with
          | nil => simp at hMl; omega
          | cons a r => simpa using hx
        have hM0 : M ≠ [] := fun h => by rw [h] at hMl; simp at hMl; omega
        have HDp := Lib.hid (HD.out x)
        have g0 : (0 : Int) < (n : Int) := by omega
        rcases hdg : digC x with _ | _
        · rw [hdg] at HDp
          have HF : Hid (cleanB (bl s) = M.take 64) := Lib.hid (by rw [HC.out, if_neg (fun h => h.elim hM0 (fun h => by rw [hh, hdg] at h; cases h))])
          obtain ⟨k, hk⟩ : ∃ k : Nat, min (n : Int) 64 = (k : Int) := ⟨min n 64, by omega⟩
          have hkl : (M.take 64).length = k := by rw [List.length_take, hMl]; omega
          have hcv := conv_row (P := Tryz.prog) wr 45 9 5 w.heap.size cap (M.take 64) Tryz.underlying45 Tryz.underlying5 Tryz.underlying9 (Byt.take HMb.out 64) (fun j hj => by
            rw [hkl] at hj
            rw [HBr.out.cell j (by omega), List.getD_eq_getElem?_getD, List.getD_eq_getElem?_getD, List.getElem?_take_of_lt (by omega)])
          rw [hkl] at hcv
          have hnc : n ≤ cap := by rw [← hMl]; exact HBr.out.2.1
          have g2 : (0 : Int) ≤ (k : Int) := by omega
          have g3 : (k : Int) ≤ (cap : Int) := by omega
          clear hdg hh hM0 hx hMl hkl hz
          go_wp2_with fail
          with_reducible refine (HDp.out _).mono ?_
          rintro e v ⟨rfl, rfl⟩
          go_wp2_with fail
          go_ret
          rw [HF.out]
          exact ⟨rfl, HBw.out⟩
        · rw [hdg] at HDp
          have HF : Hid (cleanB (bl s) = (95 :: M).take 64) := Lib.hid (by rw [HC.out, if_pos (.inr (by rw [hh]; exact hdg))])
          clear hdg hh hM0 hx hMl hz
          go_wp2_with fail
          with_reducible refine (HDp.out _).mono ?_
          rintro e v ⟨rfl, rfl⟩
          have hbA := HBw.out.alloc HBw.out.size (.cells #[.int .u8 95] 5 (1, 2))
          have hBA := HBr.out.on ((Below.refl v.heap.size v).alloc (Nat.le_refl _) (.cells #[.int .u8 95] 5 (1, 2)))
          have hcc := Go.Joins.run_convert_bytes_const_at (P := Tryz.prog) v 45 5 #[.int .u8 95] 1 1 v.heap.size rfl Tryz.underlying45 Tryz.underlying5
          have hll : (ints .u8 (nums M)).length = n := by rw [ints_len, nums_len, HMl.out]
          go_wp2_with (at_builtin; refine wpList_append_grows _ rfl (.tmp 32) (.tmp 33) 45 rfl 5 i0 (.int .u8 0) 1 1 Tryz.underlying45 hi0 hz0 hz1 hz2 rfl (by omega) (some ⟨v.heap.size, 0, none⟩) 1 1 [.int .u8 95] rfl (fun h => by cases h) rfl ?_ ⟨w.heap.size, 0, none⟩ n cap (ints .u8 (nums M)) rfl (by rw [hll, Nat.mul_one]) ?_ (ints_one _ _) (by omega) (by unfold maxLen; omega) (by omega) ?_)
          · intro b hb j u hu
            injection hb with hb
            subst hb
            have hj : j = 0 := by have := (List.getElem?_eq_some_iff.1 hu).1; simpa using this
            subst hj
            rw [addr_addL, Nat.zero_add, World.cell?_alloc_mark]
            exact hu
          · intro j u hu
            have hj : j < M.length := by have := (List.getElem?_eq_some_iff.1 hu).1; rw [hll, ← HMl.out] at this; exact this
            rw [addr_addL, Nat.zero_add, hBA.cell j hj, ← nums_get _ _ hj]
            exact hu
          intro v' w5 o5 g5
          obtain ⟨g, c5, rfl, hc5, hcells⟩ := app_cells o5
          have HB5 := Lib.hid (hbA.trans ((grown_below g5).mono hbA.size))
          obtain ⟨k, hk⟩ : ∃ k : Nat, min (1 + (n : Int)) 64 = (k : Int) := ⟨min (1 + n) 64, by omega⟩
          have hk1 : k ≤ 1 + n := by omega
          have hkl : ((95 :: M).take 64).length = k := by rw [List.length_take, List.length_cons, HMl.out]; omega
          have hcv := conv_row (P := Tryz.prog) w5 45 9 5 g c5 ((95 :: M).take 64) Tryz.underlying45 Tryz.underlying5 Tryz.underlying9 (Byt.take (Byt.cons (by omega) HMb.out) 64) (fun j hj => by
            rw [hkl] at hj
            rw [hcells j (by omega), List.getD_eq_getElem?_getD, List.getD_eq_getElem?_getD, List.getElem?_take_of_lt (by omega)])
          rw [hkl] at hcv
          have g2 : (0 : Int) ≤ (k : Int) := by omega
          have g3 : (k : Int) ≤ (c5 : Int) := by omega
          clear hcells hkl hk1 hbA hBA hcc hll o5 g5
          go_wp2_with fail
          go_ret
          rw [HF.out]
          exact ⟨rfl, HB5.out⟩
end Go.Proofs.YtdmflofdchmfhaaGreatDoor
