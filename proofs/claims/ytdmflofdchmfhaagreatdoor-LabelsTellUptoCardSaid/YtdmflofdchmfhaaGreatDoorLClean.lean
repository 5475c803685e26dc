/- Clean. -/
import Derived.Test.YtdmflofdchmfhaaGreatDoorLIns2
namespace Go.Proofs.YtdmflofdchmfhaaGreatDoor
open Go.RowKit Go.Shelf Go.Lib

/-- One byte of a name. -/
def fC (c : Nat) : Nat := if prtC c then c else 95
/-- The row when i bytes are looked at. -/
def rowC (l : List Nat) (i : Nat) : List Nat := (l.take i).map fC ++ l.drop i
theorem rowC_len (l : List Nat) (i : Nat) : (rowC l i).length = l.length := by
  unfold rowC
  rw [List.length_append, List.length_map, List.length_take, List.length_drop]
  omega
theorem rowC_at (l : List Nat) {i : Nat} (h : i < l.length) : (rowC l i).getD i 0 = l.getD i 0 := by
  unfold rowC
  have hk : ((l.take i).map fC).length = i := by rw [List.length_map, List.length_take]; omega
  rw [List.getD_eq_getElem?_getD, List.getElem?_append_right (by omega), hk, Nat.sub_self, List.getElem?_drop, List.getD_eq_getElem?_getD]
  rfl
theorem rowC_next (l : List Nat) {i : Nat} (h : i < l.length) : rowC l (i + 1) = (rowC l i).set i (fC (l.getD i 0)) := by
  have hk : ((l.take i).map fC).length = i := by rw [List.length_map, List.length_take]; omega
  unfold rowC
  have hd : l.drop i = l[i] :: l.drop (i + 1) := List.drop_eq_getElem_cons h
  rw [List.set_append_right _ _ (by omega), hk, Nat.sub_self, hd, List.take_add_one, List.getElem?_eq_getElem h, List.map_append]
  rw [List.getD_eq_getElem?_getD, List.getElem?_eq_getElem h]
  simp
  rw [hd, List.set_cons_zero]
theorem rowC_same (l : List Nat) {i : Nat} (h : i < l.length) (hp : prtC (l.getD i 0) = true) : rowC l (i + 1) = rowC l i := by
  rw [rowC_next l h]
  have e : fC (l.getD i 0) = l.getD i 0 := by unfold fC; rw [if_pos hp]
  rw [e]
  apply List.ext_getElem?
  intro j
  by_cases hj : i = j
  · subst hj
    have h2 := rowC_at l h
    have hl : i < (rowC l i).length := by rw [rowC_len]; exact h
    rw [List.getElem?_set_self hl, List.getElem?_eq_getElem hl]
    rw [List.getD_eq_getElem?_getD, List.getElem?_eq_getElem hl] at h2
    simp only [Option.getD_some] at h2
    rw [h2]
  · rw [List.getElem?_set_ne hj]
theorem rowC_end (l : List Nat) : rowC l l.length = l.map fC := by simp [rowC]
theorem fC_lt {c : Nat} (h : c < 256) : fC c < 256 := by unfold fC; split <;> omega
/-- A row of bytes made a text. -/
theorem conv_row {P : Program} (v : World) (src dst e : TypeId) (b c : Nat) (l : List Nat) (hs : P.underlying src = some (.slice e)) (he : P.underlying e = some (.int .u8)) (hd : P.underlying dst = some .string) (hb : Byt l)
    (hc : ∀ j, j < l.length → v.cell? ⟨b, j, none⟩ = some (.int .u8 ((l.getD j 0 : Nat) : Int))) : (convert src dst (.slice (some ⟨b, 0, none⟩) l.length c)).run P v = .ok (.string (ofl l)) v := by
  have h := run_convert_bytes_back v src dst e ⟨b, 0, none⟩ c (l.map UInt8.ofNat) hs he hd (fun j hj => by
    rw [List.length_map] at hj
    rw [Addr.add_lit, Nat.zero_add, hc j hj]
    have hx := hb (l[j]) (List.getElem_mem hj)
    simp only [List.getElem_map, UInt8.toNat_ofNat', List.getD_eq_getElem?_getD, List.getElem?_eq_getElem hj, Option.getD_some]
    rw [Nat.mod_eq_of_lt (by omega)])
  rw [List.length_map] at h
  exact h
set_option maxRecDepth 100000 in
set_option maxHeartbeats 8000000 in
theorem Clean_any (s : ByteArray) (w : World) : Calls Tryz.prog 14 #[.string s] w fun e w' => e = .returned (.string (ofl (cleanB (bl s)))) ∧ Below w.heap.size w w' := by
  by_cases h0 : s = ByteArray.empty
  · subst h0
    go_enter Tryz.func14, Tryz.ntmps14
    go_wp2_with fail
    go_ret
    refine ⟨?_, Below.refl _ _⟩
    rw [show cleanB (bl ByteArray.empty) = [95] by rfl]
    rfl
  · have e1 := emp_no h0
    have hs0 : bl s ≠ [] := fun h => h0 (bl_nil.2 h)
    have hlen := bl_len s
    have hcut : ∃ t : ByteArray, bl t = (bl s).take 64 ∧ (¬ (64 : Int) < (s.size : Int) → t = s) ∧ ((64 : Int) < (s.size : Int) → s.extract 0 64 = t) := by
      by_cases h : (64 : Int) < (s.size : Int)
      · exact ⟨s.extract 0 64, by rw [bl_extract]; simp, fun k => absurd h k, fun _ => rfl⟩
      · exact ⟨s, by rw [List.take_of_length_le (by omega)], fun _ => rfl, fun k => absurd k h⟩
    obtain ⟨t, ht, hA, hB⟩ := hcut
    have HC : Hid (cleanB (bl s) = cleanB (bl t)) := Lib.hid (by rw [ht]; exact cleanB_cut _ hs0)
    have hts : t.size ≤ 64 := by rw [← bl_len, ht, List.length_take]; omega
    have ht0 : 0 < t.size := by
      have := List.length_pos_iff.2 hs0
      rw [← bl_len, ht, List.length_take]; omega
    obtain ⟨cap, hcap⟩ : ∃ cap, cap = grownCap w t.size 0 5 := ⟨_, rfl⟩
    have hcg : t.size ≤ cap := by rw [hcap]; exact grownCap_ge w _ _ _
    have hcm : cap ≤ 9223372036854775807 := by
      have := grownCap_le_maxLen w t.size 0 5 (by unfold maxLen; omega)
      rw [← hcap] at this
      unfold maxLen at this
      omega
    have hcv := run_bytes_of_string (P := Tryz.prog) w 9 45 5 t Tryz.underlying9 Tryz.underlying45 Tryz.underlying5
    rw [← hcap] at hcv
    have hrs : (bytesRow t cap).size = cap := by
      have : t.data.size = t.size := rfl
      simp [bytesRow]; omega
    rw [hrs] at hcv
    have HB0 := Lib.hid (BRow.made w t cap hcg hcm)
    have hb0 : Below w.heap.size w ((w.alloc (.cells (bytesRow t cap) 5 (cap, cap + 1))).drew) := ((Below.refl w.heap.size w).alloc (Nat.le_refl _) _).drew
    have HBl := Lib.hid hb0
    have HN := Lib.hid (fun c (v : World) => isNamePart_any c v)
    have HD := Lib.hid (fun c (v : World) => isDigit_any c v)
    clear hs0 hlen ht hcap hrs hb0
    rcases Decidable.em ((64 : Int) < (s.size : Int)) with h64 | h64
    all_goals first
      | (have f0 : decide ((64 : Int) < (s.size : Int)) = true := decide_eq_true h64
         have hx := hB h64
         have g64 : (64 : Int) ≤ (s.size : Int) := by omega
         clear hA hB
         go_enter Tryz.func14, Tryz.ntmps14
         go_wp2_with fail)
      | (have f0 : decide ((64 : Int) < (s.size : Int)) = false := decide_eq_false h64
         have hx := hA h64
         clear hA hB
         subst hx
         go_enter Tryz.func14, Tryz.ntmps14
         go_wp2_with fail)
    all_goals
      clear hcv
      go_loopw [17] (fun p wr => ∃ i : Nat, i ≤ t.size ∧ p = .int .i64 (i : Int) ∧ Hid (BRow w.heap.size w.heap.size cap (rowC (bl t) i) wr) ∧ Hid (Below w.heap.size w wr)) (fun p _ => t.size - (intOf p).toNat)
      case atStart => exact ⟨0, by omega, rfl, by simpa [rowC] using HB0, HBl⟩
      case round =>
        obtain ⟨i, hi, rfl, HBr, HBw⟩ := hrel
        by_cases hlt : i < t.size
        · have hib : i < (bl t).length := by rw [bl_len]; exact hlt
          have d1 := HBr.out.cell i (by rw [rowC_len]; exact hib)
          rw [rowC_at _ hib] at d1
          have hc8 : (bl t).getD i 0 < 256 := bl_byt t _ (by rw [List.getD_eq_getElem?_getD, List.getElem?_eq_getElem hib]; exact List.getElem_mem _)
          have HNx := Lib.hid (rowC_next (bl t) hib)
          have HSm := Lib.hid (rowC_same (bl t) hib)
          have d2 := HBr.out.free i (by omega)
          have HPt := Lib.hid (HBr.out.put i 95 (by rw [rowC_len]; exact hib))
          obtain ⟨x, hx⟩ : ∃ x, (bl t).getD i 0 = x := ⟨_, rfl⟩
          rw [hx] at d1 hc8 HNx HSm
          have w32 : IntKind.i32.wrap (x : Int) = (x : Int) := i32_wrap x (by omega)
          have HNp := Lib.hid (HN.out x)
          have g0 : (0 : Int) ≤ (i : Int) := by omega
          have g1 : (i : Int) < (t.size : Int) := by omega
          have f1 : decide ((i : Int) < (t.size : Int)) = true := decide_eq_true g1
          have HK := Lib.hid hlt
          clear hx hib hc8 hlt
          go_wp2_with fail
          with_reducible refine (HNp.out _).mono ?_
          rintro e v ⟨rfl, rfl⟩
          rcases hp : prtC x with _ | _
          · have hf : fC x = 95 := by unfold fC; rw [hp]; rfl
            rw [hf] at HNx
            have HB2 : Hid (BRow w.heap.size w.heap.size cap (rowC (bl t) (i + 1)) (v.setCell ⟨w.heap.size, i, none⟩ (.int .u8 ((95 : Nat) : Int)))) := Lib.hid (by rw [HNx.out]; exact HPt.out)
            have HBl2 : Hid (Below w.heap.size w (v.setCell ⟨w.heap.size, i, none⟩ (.int .u8 ((95 : Nat) : Int)))) := Lib.hid (HBw.out.setCell (p := ⟨w.heap.size, i, none⟩) (Nat.le_refl _) _)
            clear hp hf
            go_wp2_with fail
            exact ⟨⟨i + 1, HK.out, by go_num, HB2, HBl2⟩, by have := HK.out; simp [intOf]; omega⟩
          · have HB2 : Hid (BRow w.heap.size w.heap.size cap (rowC (bl t) (i + 1)) v) := Lib.hid (by rw [HSm.out hp]; exact HBr.out)
            clear hp
            go_wp2_with fail
            exact ⟨⟨i + 1, HK.out, by go_num, HB2, HBw⟩, by have := HK.out; simp [intOf]; omega⟩
        · obtain rfl : i = t.size := by omega
          have f1 : decide ((t.size : Int) < (t.size : Int)) = false := decide_eq_false (by omega)
          have hre : rowC (bl t) t.size = (bl t).map fC := by rw [← bl_len, rowC_end]
          rw [hre] at HBr
          obtain ⟨M, hM⟩ : ∃ M, (bl t).map fC = M := ⟨_, rfl⟩
          rw [hM] at HBr
          have hMl : M.length = t.size := by rw [← hM, List.length_map, bl_len]
          have hMb : Byt M := by
            intro x hx
            rw [← hM] at hx
            obtain ⟨y, hy, rfl⟩ := List.mem_map.1 hx
            exact fC_lt (bl_byt t y hy)
          have hCl : cleanB (bl t) = (if digC (M.getD 0 0) = true then 95 :: M else M).take 64 := by
            have e : (bl t).map (fun c => if prtC c then c else 95) = M := hM
            unfold cleanB
            rw [e]
            cases M with
            | nil => simp at hMl; omega
            | cons a r => simp
          have HCl := Lib.hid hCl
          have HMl := Lib.hid hMl
          have HMb := Lib.hid hMb
          have d1 := HBr.out.cell 0 (by omega)
          have hx8 : M.getD 0 0 < 256 := hMb _ (by rw [List.getD_eq_getElem?_getD, List.getElem?_eq_getElem (by omega)]; exact List.getElem_mem _)
          obtain ⟨x, hx⟩ : ∃ x, M.getD 0 0 = x := ⟨_, rfl⟩
          rw [hx] at d1 hx8 HCl
          have w32 : IntKind.i32.wrap (x : Int) = (x : Int) := i32_wrap x (by omega)
          have HDp := Lib.hid (HD.out x)
          have g0 : (0 : Int) < (t.size : Int) := by omega
          have HT := Lib.hid (And.intro ht0 hts)
          clear hre hM hMl hMb hCl hx hx8 hlt
          go_wp2_with fail
          with_reducible refine (HDp.out _).mono ?_
          rintro e v ⟨rfl, rfl⟩
          rcases hdg : digC x with _ | _
          · have HF : Hid (cleanB (bl t) = M) := Lib.hid (by rw [HCl.out, hdg]; exact List.take_of_length_le (by have := HT.out.2; have := HMl.out; simp; omega))
            have hmn : min (t.size : Int) 64 = (t.size : Int) := by have := HT.out.2; omega
            have hcv := conv_row (P := Tryz.prog) v 45 9 5 w.heap.size cap M Tryz.underlying45 Tryz.underlying5 Tryz.underlying9 HMb.out (fun j hj => HBr.out.cell j hj)
            rw [HMl.out] at hcv
            clear hdg
            go_wp2_with fail
            go_ret
            first | rw [HC.out, HF.out] | rw [HF.out]
            exact ⟨rfl, HBw.out⟩
          · have HF : Hid (cleanB (bl t) = (95 :: M).take 64) := Lib.hid (by rw [HCl.out, hdg]; rfl)
            have hI := Ins_any w.heap.size w.heap.size cap M v HBr.out HBw.out.size (by have := HT.out.1; have := HMl.out; omega) (by have := HT.out.2; have := HMl.out; omega)
            rw [HMl.out] at hI
            have HI := Lib.hid hI
            clear hdg hI
            go_wp2_with fail
            with_reducible refine HI.out.mono ?_
            rintro e v2 ⟨b2, c2, rfl, hc1, hc2, hcells, b2w⟩
            obtain ⟨k, hk⟩ : ∃ k : Nat, min ((t.size : Int) + 1) 64 = (k : Int) := ⟨min (t.size + 1) 64, by omega⟩
            have hk1 : k ≤ t.size + 1 := by omega
            have hk64 : k = min (t.size + 1) 64 := by omega
            have hkl : ((95 :: M).take 64).length = k := by rw [List.length_take, List.length_cons, HMl.out]; omega
            have hcv := conv_row (P := Tryz.prog) v2 45 9 5 b2 c2 ((95 :: M).take 64) Tryz.underlying45 Tryz.underlying5 Tryz.underlying9 (Byt.take (Byt.cons (by omega) HMb.out) 64) (fun j hj => by
              rw [hkl] at hj
              rw [hcells j (by omega)]
              rw [List.getD_eq_getElem?_getD, List.getD_eq_getElem?_getD, List.getElem?_take_of_lt (by omega)])
            rw [hkl] at hcv
            have g2 : (0 : Int) ≤ (k : Int) := by omega
            have g3 : (k : Int) ≤ (c2 : Int) := by omega
            have HBe := Lib.hid (HBw.out.trans b2w)
            clear hcells hc1 hc2 hkl hk64 b2w hk1
            go_wp2_with fail
            go_ret
            first | rw [HC.out, HF.out] | rw [HF.out]
            exact ⟨rfl, HBe.out⟩
end Go.Proofs.YtdmflofdchmfhaaGreatDoor
