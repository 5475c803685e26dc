/- The program's New, walked. -/
import Derived.Test.YtomjdicedjdpnaaCNewR
import Derived.Sort.MapsRangeIn
namespace Go.Proofs.Ytomjdicedjdpnaa
open Go.RowKit Go.Shelf Go.Maps Go.WideMaps

attribute [local go_sem] Oper.semAt_some

/-- The world in which New begins to range. -/
def NewW (w : World) (s : ByteArray) : World := ((((((w.alloc (.cells #[.pointer none] 23)).alloc (.cells #[.int .i64 0] 24)).alloc (.cells #[.string ⟨#[]⟩, .slice none 0 0] 56)).alloc (.cells #[.pointer (some ⟨w.heap.size + 2, 0, none⟩)] 23)).alloc (.map #[] 0)).alloc (.cells #[.map (some (w.heap.size + 4))] 58)).alloc (.cells #[.string s] 9)
theorem newW_size (w : World) (s : ByteArray) : (NewW w s).heap.size = w.heap.size + 7 := by simp [NewW]
theorem newW_below (w : World) (s : ByteArray) : Below w.heap.size w (NewW w s) := by
  unfold NewW
  repeat (first | exact Below.refl _ _ | refine Below.alloc ?_ (by first | exact Nat.le_refl _ | (simp only [World.size_alloc]; omega)) _)
theorem newW_at (w : World) (s : ByteArray) : ∀ k, k < 7 → (NewW w s).heap[w.heap.size + k]? = ([.cells #[.pointer none] 23, .cells #[.int .i64 0] 24, .cells #[.string ⟨#[]⟩, .slice none 0 0] 56, .cells #[.pointer (some ⟨w.heap.size + 2, 0, none⟩)] 23, .map #[] 0, .cells #[.map (some (w.heap.size + 4))] 58, .cells #[.string s] 9] : List Obj)[k]? := by
  intro k hk
  have h : (NewW w s).heap = w.heap ++ #[.cells #[.pointer none] 23, .cells #[.int .i64 0] 24, .cells #[.string ⟨#[]⟩, .slice none 0 0] 56, .cells #[.pointer (some ⟨w.heap.size + 2, 0, none⟩)] 23, .map #[] 0, .cells #[.map (some (w.heap.size + 4))] 58, .cells #[.string s] 9] := by
    show ((((((w.heap.push _).push _).push _).push _).push _).push _).push _ = _
    rfl
  rw [h, Array.getElem?_append_right (by omega), Nat.add_sub_cancel_left]
  exact List.getElem?_toArray
theorem NSt.start (w : World) (s : ByteArray) : NSt w ByteArray.empty none 0 0 [] 0 (NewW w s) := by
  have h := newW_at w s
  have hm : (NewW w s).heap[w.heap.size + 4]? = some (.map #[] 0) := h 4 (by omega)
  refine ⟨⟨h 0 (by omega), h 1 (by omega)⟩, h 2 (by omega), h 3 (by omega), ?_, h 5 (by omega), World.ownsRow_nil _ _ _ _, newW_below w s, by rw [newW_size]; exact Nat.le_refl _⟩
  obtain ⟨es, clock, h1, h2, h3, h4⟩ := World.ownsMap_made (H := Unit) w Try.prog 9 (unitElem (H := Unit))
  have h5 := heap_alloc_new w (.map #[] 0)
  rw [h5] at h1
  injection h1 with h1
  injection h1 with e1 e2
  subst e1
  subst e2
  exact ⟨_, _, hm, h2, h3, h4⟩
set_option maxRecDepth 100000 in
set_option maxHeartbeats 8000000 in
theorem New_in (n : Nat) (hn : 3 ≤ n) (s : ByteArray) (hs : s.size ≤ 1000000) (w : World) (hM : MX w) : CallsIn Fence.wide n Try.prog 8 #[.string s] w (NewOut w (bl s)) := by
  have h1 : 1 ≤ n := by omega
  by_cases h256 : s.size ≤ 256
  · have f0 : decide ((256 : Int) < (s.size : Int)) = false := decide_eq_false (by omega)
    have hmm := fun W => run_makeMap (P := Try.prog) 58 W
    refine callsIn_of_wp_marks Try.func8 rfl trivial ?_ rfl
    simp only [Try.ntmps8, List.size_toArray, List.length_cons, List.length_nil, Nat.reduceAdd, Nat.reduceSub, Array.replicate_succ, Array.replicate_zero, List.push_toArray, List.append_toArray, List.nil_append, List.cons_append]
    gi_wp2_with (refine ⟨trivial, ?_⟩; gi_at_call 28; refine (parts_in (n - 1) _ _).mono ?_; rintro e w' ⟨rfl, rfl⟩)
    simp only [Nat.add_assoc, Nat.reduceAdd]
    have hW := newW_size w s
    have hA := newW_at w s
    have HS0 := NSt.start w s
    have hb0 := newW_below w s
    unfold NewW at hW hA HS0 hb0
    obtain ⟨V, hV⟩ : ∃ V, ((((((w.alloc (.cells #[.pointer none] 23)).alloc (.cells #[.int .i64 0] 24)).alloc (.cells #[.string ⟨#[]⟩, .slice none 0 0] 56)).alloc (.cells #[.pointer (some ⟨w.heap.size + 2, 0, none⟩)] 23)).alloc (.map #[] 0)).alloc (.cells #[.map (some (w.heap.size + 4))] 58)).alloc (.cells #[.string s] 9) = V := ⟨_, rfl⟩
    rw [hV] at hW hA HS0 hb0 ⊢
    clear hV
    have hc6 : V.cell? ⟨w.heap.size + 6, 0, none⟩ = some (.string s) := by simp [World.cell?, hA 6 (by omega)]
    clear hA
    refine wpIn_rangeFunc_ownG rfl h1 (gf := 45) (lb := #[.pointer (some ⟨w.heap.size + 6, 0, none⟩)]) rfl trivial (enters_of Try.func45 (by kernel_rfl) rfl)
      (parts_stops (n - 1) (by omega) (w.heap.size + 6) s hs V (by omega) hc6 (hM.on hb0)) (fun h k => ⟨k.1.trans h.1, k.2.trans h.2⟩)
      (fun W l o o' hl ho _ _ => ?_) (Below.refl _ _) (fun _ => rfl)
      (fun pre W => ∃ A a nn c l m, foldP (pre.map (·.1)) = some (A, l) ∧ m ≤ pre.length ∧ nn ≤ pre.length ∧ NSt w A a nn c l m W)
      (fun c pre W => c = .ret ∧ foldP (pre.map (·.1)) = none ∧ Left5 w W)
      (fun pre W W' row h hg hr => ?_) (fun c pre W W' row h hg hr => ?_) ⟨_, _, _, _, _, _, rfl, Nat.le_refl _, Nat.le_refl _, HS0⟩ ?a1 ?assign ?body ?done ?stop
    case assign =>
      intro l x W K hK
      simp only [pcE]
      gi_wp2
      exact hK
    case body =>
      rintro lp pre x W ⟨A, a, nn, c, cl, m, hf, hm, hnn, hS⟩ hlt
      obtain ⟨⟨nm, V2⟩, hnz, hvz⟩ := x
      have hnz2 : nm.size ≤ 1000000 := hnz
      have hfs : foldP ((pre ++ [(⟨(nm, V2), hnz, hvz⟩ : Pc)]).map (·.1)) = stepP (some (A, cl)) (nm, V2) := by
        rw [List.map_append, List.map_cons, List.map_nil, foldP_snoc, hf]
      have HF := Lib.hid hfs
      have HS := Lib.hid hS
      have hn := hS.len
      obtain ⟨q1, q2, q3, q4⟩ := hS.c0
      have qc := hS.2.2.1.cell
      have qk := hS.2.2.2.2.1.cell
      have r1 := hS.1.1.cell
      have r2 := hS.1.2.cell
      have r1f := hS.1.1.frozen
      have r2f := hS.1.2.frozen
      have hpl : pre.length < 1000000 := by
        have h := segs_len 0 (bl s)
        have h2 : (yieldL (bl s) 0 0 []).length = (segs 0 (bl s)).2.length + 1 := by rw [yield_all, List.length_cons]
        rw [bl_len] at h
        omega
      have h0 := hM.pos
      have HKs := Lib.hid (fun (u : Value) (j : Nat) (hj : j < 7) (hj6 : j ≠ 6) (off : Nat) (W1 : World) => (show KpC (w.heap.size + 6) W1 (W1.setCell ⟨w.heap.size + j, off, none⟩ u) from ⟨World.cell?_setCell_far _ _ _ _ (by show w.heap.size + j ≠ w.heap.size + 6; omega), World.cell?_setCell_far _ _ _ _ (by show w.heap.size + j ≠ 0; omega)⟩))
      by_cases hne : nm = ByteArray.empty
      · have t1 : nm.toList.isEmpty = true := by rw [hne, ByteArray.toList_eq]; rfl
        have HFn : Hid (foldP ((pre ++ [(⟨(nm, V2), hnz, hvz⟩ : Pc)]).map (·.1)) = some (V2, cl)) := Lib.hid (by rw [HF.out, stepP, if_pos hne])
        clear hne hf hfs hS hn
        gi_wp2_with fail
        exact ⟨(KeepsOthers.setCell _ _ _).from _, HKs.out _ 2 (by omega) (by omega) 0 W, ⟨V2, a, nn, c, cl, m, HFn.out, by rw [List.length_append]; omega, by rw [List.length_append]; omega, HS.out.ahead V2⟩⟩
      · have t1 : nm.toList.isEmpty = false := by
          cases hyl : bl nm with
          | nil => exact absurd (bl_nil.2 hyl) hne
          | cons c t => exact isEmpty_no hyl
        have hkey : keyOf Try.prog 9 (.string nm) = some (.string nm.data.toList) := keyOf_string_mk Try.underlying9 (by unfold maxLen; omega)
        have HSn := Lib.hid (has_Sn (nmsL cl) nm)
        have hst := HF.out
        rw [stepP, if_neg hne] at hst
        have HNE := Lib.hid hne
        rcases List.eq_nil_or_concat cl with el | ⟨l0, y, el⟩
        · subst el
          obtain rfl : nn = 0 := hn.symm
          rw [if_neg (fun k => k.1 rfl)] at hst
          clear hne hf hfs hS hn
          have hown := HS.out.2.2.2.1
          cases hd : decide (nm ∈ nmsL ([] : List Lb)) with
          | true =>
            exact absurd (of_decide_eq_true hd) (by simp [nmsL])
          | false =>
            have hst2 : stepP (some (A, ([] : List Lb))) (nm, V2) = some (A, ([] : List Lb) ++ [(nm, V2)]) := by rw [stepP, if_neg HNE.out, if_neg (fun k => k.1 rfl), if_neg (of_decide_eq_false hd)]
            have HFn : Hid (foldP ((pre ++ [(⟨(nm, V2), hnz, hvz⟩ : Pc)]).map (·.1)) = some (A, ([] : List Lb) ++ [(nm, V2)])) := Lib.hid (by rw [HF.out, hst2])
            have hhas := HSn.out.trans hd
            have HSa := Lib.hid (HS.out.kept (World.grownBy_alloc W (.cells #[] 63) none) (fun r e => by cases e))
            have hownA := HSa.out.2.2.2.1
            have qk2 := HSa.out.2.2.2.2.1.cell
            have hm9 : m ≤ 1000000 := by omega
            have hnn9 : 0 ≤ 1000000 := by omega
            have hmx : m < maxLen := by unfold maxLen; omega
            have hl1 : m ≤ (pre ++ [(⟨(nm, V2), hnz, hvz⟩ : Pc)]).length := by rw [List.length_append, List.length_singleton]; omega
            have hl2 : m + 1 ≤ (pre ++ [(⟨(nm, V2), hnz, hvz⟩ : Pc)]).length := by rw [List.length_append, List.length_singleton]; omega
            have hl3 : 0 + 1 ≤ (pre ++ [(⟨(nm, V2), hnz, hvz⟩ : Pc)]).length := by rw [List.length_append, List.length_singleton]; omega
            have HKa : Hid (KeepsFrom (w.heap.size + 7) W (W.alloc (.cells #[] 63)) ∧ KpC (w.heap.size + 6) W (W.alloc (.cells #[] 63))) := Lib.hid ⟨(KeepsOthers.alloc _ _).from _, by
              have hsz := HS.out.2.2.2.2.2.2.2
              exact ⟨World.cell?_alloc_old W _ ⟨w.heap.size + 6, 0, none⟩ (by show w.heap.size + 6 ≠ W.heap.size; omega), World.cell?_alloc_old W _ ⟨0, 0, none⟩ (by show 0 ≠ W.heap.size; omega)⟩⟩
            clear hd hst2 hst
            by_cases hu : nm = ⟨#[95]⟩
            · have t2 : (nm.toList == [95]) = true := (lit_eq nm [95]).trans (decide_eq_true hu)
              have HD : Hid (Sn (nmsL ([] : List Lb)) = Sn (nmsL (([] : List Lb) ++ [(nm, V2)]))) := Lib.hid (by rw [nmsL_snoc ([] : List Lb) (nm, V2), if_pos hu, List.append_nil])
              obtain ⟨a', c', w2, hrun, hc3, hc2, hfin, hkf, hkp⟩ := HSa.out.region hownA ⟨rfl, rfl, rfl, Nat.le_refl _, fun _ _ _ => rfl⟩ nm V2 HD.out hnn9 h0
              have HFin := Lib.hid hfin
              have HRun := Lib.hid hrun
              have HC3 := Lib.hid hc3
              have HC2 := Lib.hid hc2
              have HK2 := Lib.hid (And.intro (HKa.out.1.trans hkf) (show KpC (w.heap.size + 6) W _ from ⟨hkp.1.trans HKa.out.2.1, hkp.2.trans HKa.out.2.2⟩))
              clear hu hrun hc3 hc2 hfin hkf hkp hownA
              skip
              gi_wp2_with (first
                | (gi_at_lookup; refine wpListIn_lookup_own_unit _ rfl _ _ 58 rfl 9 63 keyS Try.underlying58 (zeroS _) (w.heap.size + 4) m _ rfl hown _ _ rfl hkey ?_)
                | fail)
              refine cap_region lp (n - 1 - 1) w.heap.size nm V2 _ _ w2 _ (by kernel_rfl) _ _ a' 0 (0 + 1) c c' rfl HRun.out HC3.out.1 HC3.out.2.1 HC3.out.2.2 HC2.out.1 HC2.out.2.1 HC2.out.2.2.1 HC2.out.2.2.2 ?_ _ _ _ _ _ _ _ _ _ _ _ _ _ _ _ _ _ _ _ _ _ _ _ _ _ _ _ _ _ _ _ _ _ _ _ _ _ _ _ _ _ _ _ _ _ _ _ _ _ _ _ _ _ _ _ _ _ _ _ _ _ _ _ _ _ _ _ _ _ _ _
              intro u
              gi_wp2
              exact ⟨by rw [hW]; exact HK2.out.1, HK2.out.2, ⟨A, a', 0 + 1, c', ([] : List Lb) ++ [(nm, V2)], m, HFn.out, by rw [List.length_append]; omega, by rw [List.length_append, List.length_singleton]; omega, HFin.out⟩⟩
            · have t2 : (nm.toList == [95]) = false := (lit_eq nm [95]).trans (decide_eq_false hu)
              have HD : Hid ((Sn (nmsL ([] : List Lb))).put (.string nm.data.toList) (.agg []) = Sn (nmsL (([] : List Lb) ++ [(nm, V2)]))) := Lib.hid (by rw [nmsL_snoc ([] : List Lb) (nm, V2), if_neg hu, Sn_snoc])
              clear hu
              skip
              gi_wp2_with (first
                | (gi_at_lookup; refine wpListIn_lookup_own_unit _ rfl _ _ 58 rfl 9 63 keyS Try.underlying58 (zeroS _) (w.heap.size + 4) m _ rfl hown _ _ rfl hkey ?_)
                | (gi_at_mapUpdate; refine wpListIn_mapUpdate_own _ rfl _ _ _ 58 rfl 9 63 keyS Try.underlying58 (unitElem (H := Unit)) (w.heap.size + 4) m _ rfl hownA hmx _ _ _ rfl rfl hkey _ [] unitElem_mk ?_; intro w1 hown1 hgrow1)
                | fail)
              obtain ⟨a', c', w2, hrun, hc3, hc2, hfin, hkf, hkp⟩ := HSa.out.region hown1 hgrow1 nm V2 HD.out hnn9 h0
              refine cap_region lp (n - 1 - 1) w.heap.size nm V2 _ _ w2 _ (by kernel_rfl) _ _ a' 0 (0 + 1) c c' rfl hrun hc3.1 hc3.2.1 hc3.2.2 hc2.1 hc2.2.1 hc2.2.2.1 hc2.2.2.2 ?_ _ _ _ _ _ _ _ _ _ _ _ _ _ _ _ _ _ _ _ _ _ _ _ _ _ _ _ _ _ _ _ _ _ _ _ _ _ _ _ _ _ _ _ _ _ _ _ _ _ _ _ _ _ _ _ _ _ _ _ _ _ _ _ _ _ _ _ _ _ _ _
              intro u
              gi_wp2
              exact ⟨by rw [hW]; exact HKa.out.1.trans hkf, ⟨hkp.1.trans HKa.out.2.1, hkp.2.trans HKa.out.2.2⟩, ⟨A, a', 0 + 1, c', ([] : List Lb) ++ [(nm, V2)], m + 1, HFn.out, hl2, hl3, hfin⟩⟩
        · rw [List.concat_eq_append] at el
          subst el
          have hn2 : l0.length + 1 = nn := by have h := hn; simp only [List.length_append, List.length_singleton] at h; exact h
          obtain ⟨g, rfl, b2⟩ := hS.last
          obtain ⟨k, hk⟩ : ∃ k, l0.length = k := ⟨_, rfl⟩
          rw [hk] at b2
          have hnk : nn = k + 1 := by omega
          have i1 : (nn : Int) - 1 = (k : Int) := by omega
          have HI2 : Hid (IntKind.i64.wrap (k : Int) = (k : Int)) := Lib.hid (by rw [IntKind.wrap_i64]; omega)
          have i3 : (0 : Int) ≤ (k : Int) := by omega
          have i4 : (k : Int) < (nn : Int) := by omega
          have i5 : decide ((0 : Int) ≤ (k : Int)) = true := decide_eq_true i3
          obtain ⟨y1, y2⟩ := y
          dsimp only at b2
          by_cases hy : y2 = ByteArray.empty
          · have t3 : y2.toList.isEmpty = true := by rw [hy, ByteArray.toList_eq]; rfl
            have HFn : Hid (foldP ((pre ++ [(⟨(nm, V2), hnz, hvz⟩ : Pc)]).map (·.1)) = none) := Lib.hid (by rw [HF.out, stepP, if_neg HNE.out, if_pos ⟨by simp, by rw [List.getLastD_concat]; exact hy⟩])
            clear hne hf hfs hS hn hn2 hk hnk hst hy
            have i2 := HI2.out
            gi_wp2_with fail
            exact ⟨((KeepsOthers.setCell _ _ _).trans (KeepsOthers.setCell _ _ _)).from _, rfl, HFn.out, HS.out.left⟩
          · have t3 : y2.toList.isEmpty = false := by
              cases hyl : bl y2 with
              | nil => exact absurd (bl_nil.2 hyl) hy
              | cons c t => exact isEmpty_no hyl
            have HC1 : Hid (¬ (l0 ++ [(y1, y2)] ≠ [] ∧ ((l0 ++ [(y1, y2)]).getLastD noL).2 = ByteArray.empty)) := Lib.hid (fun k => hy (by have := k.2; rwa [List.getLastD_concat] at this))
            clear hne hf hfs hS hn hn2 hk hnk hy
            have hown := HS.out.2.2.2.1
            cases hd : decide (nm ∈ nmsL (l0 ++ [(y1, y2)])) with
            | true =>
              have HFn : Hid (foldP ((pre ++ [(⟨(nm, V2), hnz, hvz⟩ : Pc)]).map (·.1)) = none) := Lib.hid (by rw [HF.out, stepP, if_neg HNE.out, if_neg HC1.out, if_pos (of_decide_eq_true hd)])
              have hhas := HSn.out.trans hd
              have HSa := Lib.hid (HS.out.kept (World.grownBy_alloc W (.cells #[] 63) none) (fun r e => by cases e))
              have r1a := HSa.out.1.1.cell
              have r2a := HSa.out.1.2.cell
              have r1af := HSa.out.1.1.frozen
              have r2af := HSa.out.1.2.frozen
              clear hd hst
              have i2 := HI2.out
              gi_wp2_with (first
                | (gi_at_lookup; refine wpListIn_lookup_own_unit _ rfl _ _ 58 rfl 9 63 keyS Try.underlying58 (zeroS _) (w.heap.size + 4) m _ rfl hown _ _ rfl hkey ?_)
                | fail)
              exact ⟨((KeepsOthers.alloc _ _).trans ((KeepsOthers.setCell _ _ _).trans (KeepsOthers.setCell _ _ _))).from _, rfl, HFn.out, HSa.out.left⟩
            | false =>
              have hst2 : stepP (some (A, (l0 ++ [(y1, y2)]))) (nm, V2) = some (A, (l0 ++ [(y1, y2)]) ++ [(nm, V2)]) := by rw [stepP, if_neg HNE.out, if_neg HC1.out, if_neg (of_decide_eq_false hd)]
              have HFn : Hid (foldP ((pre ++ [(⟨(nm, V2), hnz, hvz⟩ : Pc)]).map (·.1)) = some (A, (l0 ++ [(y1, y2)]) ++ [(nm, V2)])) := Lib.hid (by rw [HF.out, hst2])
              have hhas := HSn.out.trans hd
              have HSa := Lib.hid (HS.out.kept (World.grownBy_alloc W (.cells #[] 63) none) (fun r e => by cases e))
              have hownA := HSa.out.2.2.2.1
              have qk2 := HSa.out.2.2.2.2.1.cell
              have hm9 : m ≤ 1000000 := by omega
              have hnn9 : nn ≤ 1000000 := by omega
              have hmx : m < maxLen := by unfold maxLen; omega
              have hl1 : m ≤ (pre ++ [(⟨(nm, V2), hnz, hvz⟩ : Pc)]).length := by rw [List.length_append, List.length_singleton]; omega
              have hl2 : m + 1 ≤ (pre ++ [(⟨(nm, V2), hnz, hvz⟩ : Pc)]).length := by rw [List.length_append, List.length_singleton]; omega
              have hl3 : nn + 1 ≤ (pre ++ [(⟨(nm, V2), hnz, hvz⟩ : Pc)]).length := by rw [List.length_append, List.length_singleton]; omega
              have HKa : Hid (KeepsFrom (w.heap.size + 7) W (W.alloc (.cells #[] 63)) ∧ KpC (w.heap.size + 6) W (W.alloc (.cells #[] 63))) := Lib.hid ⟨(KeepsOthers.alloc _ _).from _, by
                have hsz := HS.out.2.2.2.2.2.2.2
                exact ⟨World.cell?_alloc_old W _ ⟨w.heap.size + 6, 0, none⟩ (by show w.heap.size + 6 ≠ W.heap.size; omega), World.cell?_alloc_old W _ ⟨0, 0, none⟩ (by show 0 ≠ W.heap.size; omega)⟩⟩
              clear hd hst2 hst
              by_cases hu : nm = ⟨#[95]⟩
              · have t2 : (nm.toList == [95]) = true := (lit_eq nm [95]).trans (decide_eq_true hu)
                have HD : Hid (Sn (nmsL (l0 ++ [(y1, y2)])) = Sn (nmsL ((l0 ++ [(y1, y2)]) ++ [(nm, V2)]))) := Lib.hid (by rw [nmsL_snoc (l0 ++ [(y1, y2)]) (nm, V2), if_pos hu, List.append_nil])
                obtain ⟨a', c', w2, hrun, hc3, hc2, hfin, hkf, hkp⟩ := HSa.out.region hownA ⟨rfl, rfl, rfl, Nat.le_refl _, fun _ _ _ => rfl⟩ nm V2 HD.out hnn9 h0
                have HFin := Lib.hid hfin
                have HRun := Lib.hid hrun
                have HC3 := Lib.hid hc3
                have HC2 := Lib.hid hc2
                have HK2 := Lib.hid (And.intro (HKa.out.1.trans hkf) (show KpC (w.heap.size + 6) W _ from ⟨hkp.1.trans HKa.out.2.1, hkp.2.trans HKa.out.2.2⟩))
                clear hu hrun hc3 hc2 hfin hkf hkp hownA
                have i2 := HI2.out
                gi_wp2_with (first
                  | (gi_at_lookup; refine wpListIn_lookup_own_unit _ rfl _ _ 58 rfl 9 63 keyS Try.underlying58 (zeroS _) (w.heap.size + 4) m _ rfl hown _ _ rfl hkey ?_)
                  | fail)
                refine cap_region lp (n - 1 - 1) w.heap.size nm V2 _ _ w2 _ (by kernel_rfl) _ _ a' nn (nn + 1) c c' rfl HRun.out HC3.out.1 HC3.out.2.1 HC3.out.2.2 HC2.out.1 HC2.out.2.1 HC2.out.2.2.1 HC2.out.2.2.2 ?_ _ _ _ _ _ _ _ _ _ _ _ _ _ _ _ _ _ _ _ _ _ _ _ _ _ _ _ _ _ _ _ _ _ _ _ _ _ _ _ _ _ _ _ _ _ _ _ _ _ _ _ _ _ _ _ _ _ _ _ _ _ _ _ _ _ _ _ _ _ _ _
                intro u
                gi_wp2
                exact ⟨by rw [hW]; exact HK2.out.1, HK2.out.2, ⟨A, a', nn + 1, c', (l0 ++ [(y1, y2)]) ++ [(nm, V2)], m, HFn.out, by rw [List.length_append]; omega, by rw [List.length_append, List.length_singleton]; omega, HFin.out⟩⟩
              · have t2 : (nm.toList == [95]) = false := (lit_eq nm [95]).trans (decide_eq_false hu)
                have HD : Hid ((Sn (nmsL (l0 ++ [(y1, y2)]))).put (.string nm.data.toList) (.agg []) = Sn (nmsL ((l0 ++ [(y1, y2)]) ++ [(nm, V2)]))) := Lib.hid (by rw [nmsL_snoc (l0 ++ [(y1, y2)]) (nm, V2), if_neg hu, Sn_snoc])
                clear hu
                have i2 := HI2.out
                gi_wp2_with (first
                  | (gi_at_lookup; refine wpListIn_lookup_own_unit _ rfl _ _ 58 rfl 9 63 keyS Try.underlying58 (zeroS _) (w.heap.size + 4) m _ rfl hown _ _ rfl hkey ?_)
                  | (gi_at_mapUpdate; refine wpListIn_mapUpdate_own _ rfl _ _ _ 58 rfl 9 63 keyS Try.underlying58 (unitElem (H := Unit)) (w.heap.size + 4) m _ rfl hownA hmx _ _ _ rfl rfl hkey _ [] unitElem_mk ?_; intro w1 hown1 hgrow1)
                  | fail)
                obtain ⟨a', c', w2, hrun, hc3, hc2, hfin, hkf, hkp⟩ := HSa.out.region hown1 hgrow1 nm V2 HD.out hnn9 h0
                refine cap_region lp (n - 1 - 1) w.heap.size nm V2 _ _ w2 _ (by kernel_rfl) _ _ a' nn (nn + 1) c c' rfl hrun hc3.1 hc3.2.1 hc3.2.2 hc2.1 hc2.2.1 hc2.2.2.1 hc2.2.2.2 ?_ _ _ _ _ _ _ _ _ _ _ _ _ _ _ _ _ _ _ _ _ _ _ _ _ _ _ _ _ _ _ _ _ _ _ _ _ _ _ _ _ _ _ _ _ _ _ _ _ _ _ _ _ _ _ _ _ _ _ _ _ _ _ _ _ _ _ _ _ _ _ _
                intro u
                gi_wp2
                exact ⟨by rw [hW]; exact HKa.out.1.trans hkf, ⟨hkp.1.trans HKa.out.2.1, hkp.2.trans HKa.out.2.2⟩, ⟨A, a', nn + 1, c', (l0 ++ [(y1, y2)]) ++ [(nm, V2)], m + 1, HFn.out, hl2, hl3, hfin⟩⟩
    case refine_1 =>
      exact ⟨World.cell?_of_block (World.putObj_heap_other (by show w.heap.size + 6 ≠ l; omega)), World.cell?_of_block (World.putObj_heap_other (by show 0 ≠ l; have := hM.pos; omega))⟩
    case refine_2 =>
      obtain ⟨A, a, nn, c, l, m, h1, h2, h3, h4⟩ := h
      exact ⟨A, a, nn, c, l, m, h1, h2, h3, h4.kept hg (fun r e => ⟨by have := (hr r e).1; omega, (hr r e).2⟩)⟩
    case refine_3 => exact ⟨h.1, h.2.1, h.2.2.kept hg (fun r e => ⟨by have := (hr r e).1; omega, (hr r e).2⟩)⟩
    case done =>
      rintro D xs W hD hxs ⟨A, a, nn, c, l, m, hf, _, _, hS⟩ hK
      have hfa := fold_all s (xs.map (·.1)) hxs
      rw [hf] at hfa
      by_cases hfine : fineC (segs 0 (bl s)).2
      · rw [if_pos hfine] at hfa
        injection hfa with hfa
        injection hfa with hA hl
        have hown := hS.2.2.2.1
        have qk := hS.2.2.2.2.1.cell
        have qc := hS.2.2.1.cell
        have r1 := hS.1.1.cell
        have r2 := hS.1.2.cell
        have r1f := hS.1.1.frozen
        have r2f := hS.1.2.frozen
        have HS := Lib.hid hS
        have HAl := Lib.hid (And.intro hA hl)
        have hnames : namesC (segs 0 (bl s)).2 ≠ [] ↔ nmsL l ≠ [] := by
          have e : namesC (segs 0 (bl s)).2 = (nmsL l).map bl := by rw [hl, nmsL_names, capsL_toC (bl s) (bl_byt s)]
          rw [e]
          simp
        have hok : okC (bl s) ↔ nmsL l ≠ [] := by
          unfold okC
          rw [hnames]
          exact ⟨fun h => h.2.2, fun h => ⟨by rw [bl_len]; exact h256, hfine, h⟩⟩
        by_cases hz : nmsL l = []
        · have hsz : Maps.size (Sn (nmsL l)) = 0 := by rw [hz]; rfl
          have HNo : Hid (¬ okC (bl s)) := Lib.hid (fun h => hok.1 h hz)
          clear hA hl hnames hok hz hf hS
          gi_wp2_with (first
            | (gi_at_len; refine wpListIn_len_own _ rfl _ 58 rfl 9 63 Try.underlying58 (unitElem (H := Unit)) (w.heap.size + 4) m _ rfl hown ?_)
            | fail)
          have hnD : D ≠ w.heap.size ∧ D ≠ w.heap.size + 1 := by constructor <;> omega
          have hK2 : ((W.setCell ⟨w.heap.size, 0, none⟩ (.pointer none)).setCell ⟨w.heap.size + 1, 0, none⟩ (.int .i64 180)).heap[D]? = some (.deferred (some [])) := (Below.heap_setCell _ _ _ _ hnD.2).trans ((Below.heap_setCell _ _ _ _ hnD.1).trans hK)
          have hsz2 : w.heap.size ≤ ((W.setCell ⟨w.heap.size, 0, none⟩ (.pointer none)).setCell ⟨w.heap.size + 1, 0, none⟩ (.int .i64 180)).heap.size := by rw [World.size_setCell, World.size_setCell]; exact HS.out.2.2.2.2.2.2.1.size
          have hbl : Below w.heap.size w (((W.setCell ⟨w.heap.size, 0, none⟩ (.pointer none)).setCell ⟨w.heap.size + 1, 0, none⟩ (.int .i64 180)).putObj D (.deferred none)) := below_put ((HS.out.2.2.2.2.2.2.1.setCell (p := ⟨w.heap.size, 0, none⟩) (Nat.le_refl _) _).setCell (p := ⟨w.heap.size + 1, 0, none⟩) (by show w.heap.size ≤ w.heap.size + 1; omega) _) D _ (by omega) hsz2
          have hcc : ∀ j, j ≠ D → (((W.setCell ⟨w.heap.size, 0, none⟩ (.pointer none)).setCell ⟨w.heap.size + 1, 0, none⟩ (.int .i64 180)).putObj D (.deferred none)).heap[j]? = ((W.setCell ⟨w.heap.size, 0, none⟩ (.pointer none)).setCell ⟨w.heap.size + 1, 0, none⟩ (.int .i64 180)).heap[j]? := fun j hj => World.putObj_heap_other hj
          have k1 : (((W.setCell ⟨w.heap.size, 0, none⟩ (.pointer none)).setCell ⟨w.heap.size + 1, 0, none⟩ (.int .i64 180)).putObj D (.deferred none)).cell? ⟨w.heap.size, 0, none⟩ = some (.pointer none) := by
            rw [World.cell?_of_block (w := (W.setCell ⟨w.heap.size, 0, none⟩ (.pointer none)).setCell ⟨w.heap.size + 1, 0, none⟩ (.int .i64 180)) (hcc w.heap.size (Ne.symm hnD.1)), World.cell?_setCell_far _ _ _ _ (by show w.heap.size + 1 ≠ w.heap.size; omega)]
            exact World.cell?_setCell_same _ _ _ r1
          have k2 : (((W.setCell ⟨w.heap.size, 0, none⟩ (.pointer none)).setCell ⟨w.heap.size + 1, 0, none⟩ (.int .i64 180)).putObj D (.deferred none)).cell? ⟨w.heap.size + 1, 0, none⟩ = some (.int .i64 180) := by
            rw [World.cell?_of_block (w := (W.setCell ⟨w.heap.size, 0, none⟩ (.pointer none)).setCell ⟨w.heap.size + 1, 0, none⟩ (.int .i64 180)) (hcc (w.heap.size + 1) (Ne.symm hnD.2))]
            exact World.cell?_setCell_same _ _ _ ((World.cell?_setCell_far _ _ _ _ (by show w.heap.size ≠ w.heap.size + 1; omega)).trans r2)
          refine ⟨by simp, .inl ⟨_, _, rfl, run_takeDeferred hK2, ?_⟩⟩
          skip
          generalize ((W.setCell ⟨w.heap.size, 0, none⟩ (.pointer none)).setCell ⟨w.heap.size + 1, 0, none⟩ (.int .i64 180)).putObj D (.deferred none) = W9 at *
          refine ⟨.tuple #[(.pointer none), .int .i64 180], ?_, ⟨hbl, .inr ⟨HNo.out, rfl⟩⟩⟩
          rw [results_cell2 rfl]
          go_simp
        · have hsz : Maps.size (Sn (nmsL l)) ≠ 0 := by
            intro h0
            obtain ⟨x, t, ht⟩ : ∃ x t, nmsL l = x :: t := by
              cases hh : nmsL l with
              | nil => exact absurd hh hz
              | cons x t => exact ⟨x, t, rfl⟩
            have hh := has_Sn (nmsL l) x
            rw [decide_eq_true (by rw [ht]; simp)] at hh
            obtain ⟨es, clock, _, _, _, hD4⟩ := hown
            rw [hD4] at hh h0
            unfold Maps.size at h0
            rw [List.length_eq_zero_iff.1 h0] at hh
            cases hh
          have t1 : ((Maps.size (Sn (nmsL l)) : Int) == 0) = false := by rw [beq_eq_false_iff_ne]; omega
          have HYes : Hid (okC (bl s)) := Lib.hid (hok.2 hz)
          clear hA hl hnames hok hz hf hS hsz
          gi_wp2_with (first
            | (gi_at_len; refine wpListIn_len_own _ rfl _ 58 rfl 9 63 Try.underlying58 (unitElem (H := Unit)) (w.heap.size + 4) m _ rfl hown ?_)
            | fail)
          have hnD : D ≠ w.heap.size ∧ D ≠ w.heap.size + 1 := by constructor <;> omega
          have hK2 : ((W.setCell ⟨w.heap.size, 0, none⟩ (.pointer (some ⟨w.heap.size + 2, 0, none⟩))).setCell ⟨w.heap.size + 1, 0, none⟩ (.int .i64 0)).heap[D]? = some (.deferred (some [])) := (Below.heap_setCell _ _ _ _ hnD.2).trans ((Below.heap_setCell _ _ _ _ hnD.1).trans hK)
          have hsz2 : w.heap.size ≤ ((W.setCell ⟨w.heap.size, 0, none⟩ (.pointer (some ⟨w.heap.size + 2, 0, none⟩))).setCell ⟨w.heap.size + 1, 0, none⟩ (.int .i64 0)).heap.size := by rw [World.size_setCell, World.size_setCell]; exact HS.out.2.2.2.2.2.2.1.size
          have hbl : Below w.heap.size w (((W.setCell ⟨w.heap.size, 0, none⟩ (.pointer (some ⟨w.heap.size + 2, 0, none⟩))).setCell ⟨w.heap.size + 1, 0, none⟩ (.int .i64 0)).putObj D (.deferred none)) := below_put ((HS.out.2.2.2.2.2.2.1.setCell (p := ⟨w.heap.size, 0, none⟩) (Nat.le_refl _) _).setCell (p := ⟨w.heap.size + 1, 0, none⟩) (by show w.heap.size ≤ w.heap.size + 1; omega) _) D _ (by omega) hsz2
          have hcc : ∀ j, j ≠ D → (((W.setCell ⟨w.heap.size, 0, none⟩ (.pointer (some ⟨w.heap.size + 2, 0, none⟩))).setCell ⟨w.heap.size + 1, 0, none⟩ (.int .i64 0)).putObj D (.deferred none)).heap[j]? = ((W.setCell ⟨w.heap.size, 0, none⟩ (.pointer (some ⟨w.heap.size + 2, 0, none⟩))).setCell ⟨w.heap.size + 1, 0, none⟩ (.int .i64 0)).heap[j]? := fun j hj => World.putObj_heap_other hj
          have k1 : (((W.setCell ⟨w.heap.size, 0, none⟩ (.pointer (some ⟨w.heap.size + 2, 0, none⟩))).setCell ⟨w.heap.size + 1, 0, none⟩ (.int .i64 0)).putObj D (.deferred none)).cell? ⟨w.heap.size, 0, none⟩ = some (.pointer (some ⟨w.heap.size + 2, 0, none⟩)) := by
            rw [World.cell?_of_block (w := (W.setCell ⟨w.heap.size, 0, none⟩ (.pointer (some ⟨w.heap.size + 2, 0, none⟩))).setCell ⟨w.heap.size + 1, 0, none⟩ (.int .i64 0)) (hcc w.heap.size (Ne.symm hnD.1)), World.cell?_setCell_far _ _ _ _ (by show w.heap.size + 1 ≠ w.heap.size; omega)]
            exact World.cell?_setCell_same _ _ _ r1
          have k2 : (((W.setCell ⟨w.heap.size, 0, none⟩ (.pointer (some ⟨w.heap.size + 2, 0, none⟩))).setCell ⟨w.heap.size + 1, 0, none⟩ (.int .i64 0)).putObj D (.deferred none)).cell? ⟨w.heap.size + 1, 0, none⟩ = some (.int .i64 0) := by
            rw [World.cell?_of_block (w := (W.setCell ⟨w.heap.size, 0, none⟩ (.pointer (some ⟨w.heap.size + 2, 0, none⟩))).setCell ⟨w.heap.size + 1, 0, none⟩ (.int .i64 0)) (hcc (w.heap.size + 1) (Ne.symm hnD.2))]
            exact World.cell?_setCell_same _ _ _ ((World.cell?_setCell_far _ _ _ _ (by show w.heap.size ≠ w.heap.size + 1; omega)).trans r2)
          refine ⟨by simp, .inl ⟨_, _, rfl, run_takeDeferred hK2, ?_⟩⟩
          have hat := HS.out.fin (W9 := ((W.setCell ⟨w.heap.size, 0, none⟩ (.pointer (some ⟨w.heap.size + 2, 0, none⟩))).setCell ⟨w.heap.size + 1, 0, none⟩ (.int .i64 0)).putObj D (.deferred none)) (fun j o ho hc h1 h2 => by rw [hcc j (fun e => by subst e; rw [hK] at ho; injection ho with ho; rw [← ho] at hc; cases hc)]; exact (Below.heap_setCell _ _ _ _ (by exact h2)).trans ((Below.heap_setCell _ _ _ _ (by exact h1)).trans ho)) (Nat.le_trans (by rw [World.size_setCell, World.size_setCell]; exact Nat.le_refl _) (grownBy_putObj' ((W.setCell ⟨w.heap.size, 0, none⟩ (.pointer (some ⟨w.heap.size + 2, 0, none⟩))).setCell ⟨w.heap.size + 1, 0, none⟩ (.int .i64 0)) D (.deferred none)).size)
          generalize ((W.setCell ⟨w.heap.size, 0, none⟩ (.pointer (some ⟨w.heap.size + 2, 0, none⟩))).setCell ⟨w.heap.size + 1, 0, none⟩ (.int .i64 0)).putObj D (.deferred none) = W9 at *
          refine ⟨.tuple #[(.pointer (some ⟨w.heap.size + 2, 0, none⟩)), .int .i64 0], ?_, ⟨hbl, .inl ⟨HYes.out, _, rfl, by rw [← HAl.out.1, ← HAl.out.2]; exact hat⟩⟩⟩
          rw [results_cell2 rfl]
          go_simp
      · rw [if_neg hfine] at hfa
        cases hfa
    case stop =>
      rintro D c pre W hD hpre ⟨rfl, hf, hL⟩ hK
      have HNo : Hid (¬ okC (bl s)) := Lib.hid (fun h => by
        obtain ⟨t, ht⟩ := hpre
        have hfa := fold_all s (pre.map (·.1) ++ ofC t) (by
          rw [← ht]
          have e : ∀ x y : List Lb, toC (x ++ y) = toC x ++ toC y := fun x y => by simp [toC]
          rw [e]
          refine congrArg (fun z => toC (pre.map (·.1)) ++ z) ?_
          have hby : ∀ x ∈ t, Byt x.1 ∧ Byt x.2 := fun x hx => yield_byt s x (by rw [← ht]; exact List.mem_append_right _ hx)
          unfold toC ofC
          rw [List.map_map]
          conv => rhs; rw [← List.map_id t]
          refine List.map_congr_left fun x hx => ?_
          show (bl (ofl x.1), bl (ofl x.2)) = x
          rw [bl_ofl (hby x hx).1, bl_ofl (hby x hx).2])
        rw [foldP_pre hf, if_pos h.2.1] at hfa
        cases hfa)
      have r1 := hL.1.cell
      have r2 := hL.2.1.cell
      have r1f := hL.1.frozen
      have r2f := hL.2.1.frozen
      have HL := Lib.hid hL
      clear hf hpre hL
      gi_wp2
      have hbl := below_put HL.out.2.2.1 D (.deferred none) (by omega) HL.out.2.2.1.size
      have k1 : (W.putObj D (.deferred none)).cell? ⟨w.heap.size, 0, none⟩ = some (.pointer none) := (World.cell?_of_block (w := W) (World.putObj_heap_other (by show w.heap.size ≠ D; omega))).trans r1
      have k2 : (W.putObj D (.deferred none)).cell? ⟨w.heap.size + 1, 0, none⟩ = some (.int .i64 180) := (World.cell?_of_block (w := W) (World.putObj_heap_other (by show w.heap.size + 1 ≠ D; omega))).trans r2
      refine ⟨by simp, .inl ⟨_, _, rfl, run_takeDeferred hK, ?_⟩⟩
      generalize W.putObj D (.deferred none) = W9 at *
      refine ⟨.tuple #[.pointer none, .int .i64 180], ?_, ⟨hbl, .inr ⟨HNo.out, rfl⟩⟩⟩
      rw [results_cell2 rfl]
      go_simp
  · have f0 : decide ((256 : Int) < (s.size : Int)) = true := decide_eq_true (by omega)
    have hno : ¬ okC (bl s) := fun k => by have := k.1; rw [bl_len] at this; omega
    have HN := Lib.hid hno
    clear hno
    refine callsIn_of_wp_marks Try.func8 rfl trivial ?_ rfl
    simp only [Try.ntmps8, List.size_toArray, List.length_cons, List.length_nil, Nat.reduceAdd, Nat.reduceSub, Array.replicate_succ, Array.replicate_zero, List.push_toArray, List.append_toArray, List.nil_append, List.cons_append]
    gi_wp2_with fail
    refine ⟨.tuple #[.pointer none, .int .i64 180], ?_, ⟨((Below.refl w.heap.size w).alloc (Nat.le_refl _) _).alloc (by rw [World.size_alloc]; omega) _, .inr ⟨HN.out, rfl⟩⟩⟩
    rw [results_cell2 rfl]
    go_simp
theorem New_any (s : ByteArray) (hs : s.size ≤ 1000000) (w : World) (hM : MX w) : Calls Try.prog 8 #[.string s] w (NewOut w (bl s)) := callsIn_wide.1 (New_in 3 (by omega) s hs w hM)
end Go.Proofs.Ytomjdicedjdpnaa
