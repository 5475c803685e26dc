/- Of. -/
import Derived.Test.YtjnnaafkdgoflaaREq
import Derived.StillTailTactics
namespace Go.Proofs.Ytjnnaafkdgoflaa
open Go.RowKit

theorem pg_info : (Try.prog.info? 47).map (fun i => (i.zero, i.size, i.bytes)) = some (some (.agg #[.int .i64 0, .int .i64 0]), 2, 16) := by kernel_rfl
theorem RowR.one2 (w : World) (o : Obj) (e : TypeId) (x y : Int) : RowR ((w.alloc o).alloc (.cells #[.int .i64 x, .int .i64 y] e)) (w.heap.size + 1 + 1) (some ⟨w.heap.size + 1, 0, none⟩) 1 [(x, y)] := by
  have := RowR.one (w.alloc o) e x y
  rwa [World.size_alloc] at this
theorem RowR.one3 (w : World) (o : Obj) (q : Nat) (e : TypeId) (x y : Int) : RowR (((w.alloc o).drewN q).alloc (.cells #[.int .i64 x, .int .i64 y] e)) (w.heap.size + 1 + 1) (some ⟨w.heap.size + 1, 0, none⟩) 1 [(x, y)] := by
  have := RowR.one ((w.alloc o).drewN q) e x y
  rwa [show ((w.alloc o).drewN q).heap.size = w.heap.size + 1 from World.size_alloc _ _] at this
theorem own_dn {w : World} {base n : Nat} {e : TypeId} {v : Value} {xs : List Value} (h : w.ownsRow base e 2 v n xs) (q : Nat) : (w.drewN q).ownsRow base e 2 v n xs := h
theorem clip_take {l : List Rg} {j : Nat} {x1 x2 y1 y2 : Int} (h : j < l.length) (hx : l.getD j (0, 0) = (x1, x2)) (h1 : (if x1 < 0 then (0 : Int) else x1) = y1) (h2 : (if 1114111 < x2 then (1114111 : Int) else x2) = y2) :
    clipL (l.take (j + 1)) = clipL (l.take j) ++ (if y1 ≤ y2 then [(y1, y2)] else []) := by
  have e1 : max x1 0 = y1 := by rw [← h1]; split <;> omega
  have e2 : min x2 1114111 = y2 := by rw [← h2]; split <;> omega
  rw [take_snocR h, hx, clipL_snoc]
  simp only [clipR, e1, e2]
theorem MSt.begin {pre : List Rg} {x : Rg} (h : MSt pre []) (hx : 0 ≤ x.1 ∧ x.1 ≤ x.2 ∧ x.2 ≤ 1114111) : MSt (pre ++ [x]) [x] :=
  ⟨(MSt.first hx).1, fun n => by
    rw [inR_snoc, ← h.2]
    constructor
    · rintro k
      rcases (inR_cons _ _ _).1 k with k | k
      · exact .inr k
      · exact absurd k (inR_nil n)
    · rintro (k | k)
      · exact absurd k (inR_nil n)
      · exact (inR_cons _ _ _).2 (.inl k)⟩
theorem cR_set (o : List Rg) (a : Rg) (z : Int) : (cR (o ++ [a])).set (o.length * 2 + 1) (.int .i64 z) = cR (o ++ [(a.1, z)]) := by
  rw [cR_app, cR_app, List.set_append_right _ _ (by rw [cR_len]; omega), cR_len]
  rw [show o.length * 2 + 1 - o.length * 2 = 1 by omega]
  rfl
/-- What the library's sort does with a row that the call owns. -/
def SortSays : Prop := ∀ (A : Option Addr) (m c base : Nat) (l : List Rg) (W : World), W.ownsRow base 47 2 (.slice A m c) m (cR l) → m ≤ 100000000 →
  Calls Try.prog 28 #[.slice A m c, .func (.func 29) #[] #[]] W fun e w' =>
    e = .returned (.tuple #[]) ∧ ∃ l' : List Rg, (∀ x, x ∈ l' ↔ x ∈ l) ∧ l'.length = m ∧ (l'.Pairwise fun x y => x.1 ≤ y.1) ∧ w'.ownsRow base 47 2 (.slice A m c) m (cR l') ∧ Below base W w'
theorem pair_at {l : List Rg} (h : l.Pairwise fun x y => x.1 ≤ y.1) {i j : Nat} (hij : i < j) (hj : j < l.length) : (l.getD i (0, 0)).1 ≤ (l.getD j (0, 0)).1 := by
  rw [List.getD_eq_getElem?_getD, List.getD_eq_getElem?_getD, List.getElem?_eq_getElem hj, List.getElem?_eq_getElem (Nat.lt_trans hij hj)]
  exact List.pairwise_iff_getElem.1 h i j (Nat.lt_trans hij hj) hj hij
set_option maxRecDepth 100000 in
set_option maxHeartbeats 8000000 in
theorem Of_sort (HSo : SortSays) (A : Option Addr) (n c : Nat) (l : List Rg) (w : World) (hr : RowR w w.heap.size A n l) (hn : n ≤ 100000000) :
    Calls Try.prog 12 #[.slice A n c] w (OutR 47 w (has l)) := by
  obtain ⟨i0, hi0, hz0, hz1, hz2⟩ := info_parts pg_info
  have HR := Lib.hid hr
  have hl := hr.1
  clear hr
  go_enter Try.func12, Try.ntmps12
  go_wp2_with fail
  go_loopw [3, 12] (fun o p wr => ∃ i : Nat, i ≤ n ∧ p = .int .i64 (i : Int) ∧ wr.ownsRow w.heap.size 47 2 o (clipL (l.take i)).length (cR (clipL (l.take i))) ∧ Below w.heap.size w wr) (fun _ p _ => n - (intOf p).toNat)
  case atStart => exact ⟨0, by omega, rfl, World.ownsRow_nil _ _ _ _, Below.refl _ _⟩
  case round =>
    obtain ⟨i, hi', rfl, hown, hb⟩ := hrel
    by_cases hlt : i < n
    · obtain ⟨b, off, rfl, hbB, hc⟩ := HR.out.2 (by omega)
      obtain ⟨c1, c2⟩ := hc i hlt
      replace c1 := (hb.cell (p := ⟨b, off + i * 2, none⟩) hbB).trans c1
      replace c2 := (hb.cell (p := ⟨b, off + i * 2 + 1, none⟩) hbB).trans c2
      obtain ⟨⟨x1, x2⟩, hx⟩ : ∃ x, l.getD i (0, 0) = x := ⟨_, rfl⟩
      rw [hx] at c1 c2
      dsimp only at c1 c2
      obtain ⟨y1, hy1⟩ : ∃ y, (if x1 < 0 then (0 : Int) else x1) = y := ⟨_, rfl⟩
      obtain ⟨y2, hy2⟩ : ∃ y, (if 1114111 < x2 then (1114111 : Int) else x2) = y := ⟨_, rfl⟩
      have HC := Lib.hid (clip_take (l := l) (j := i) (by omega) hx hy1 hy2)
      have hcl := clipL_len (l.take i)
      rw [List.length_take] at hcl
      have g0 : (0 : Int) ≤ (i : Int) := by omega
      have g1 : (i : Int) < (n : Int) := by omega
      have HO := Lib.hid hown
      have HB := Lib.hid hb
      clear hc hx hown hb
      by_cases k1 : y1 ≤ y2
      · have f2 : decide (y1 ≤ y2) = true := decide_eq_true k1
        rw [if_pos k1] at HC
        clear k1
        have hown := HO.out
        have hb := HB.out
        go_wp2_with (at_builtin; refine wpList_appR _ rfl (.tmp 28) (.tmp 30) 23 rfl w.heap.size 47 i0 Try.underlying23 hi0 hz0 hz1 hz2 _ _ _ rfl ((hown.alloc _).alloc _) _ _ 1 1 _ rfl (RowR.one2 _ _ _ _ _) (by omega) (by simp; have := hb.size; omega) ?_)
        intro v' w' hown' _ hb'
        have hb2 : Below w.heap.size w w' := ((hb.alloc hb.size _).alloc (by have := hb.size; simp; omega) _).trans hb'
        rw [show (clipL (l.take i)).length + 1 = (clipL (l.take (i + 1))).length by rw [HC.out, List.length_append]; rfl, ← cR_app, ← HC.out] at hown'
        clear hb hb' hown
        go_wp2_with fail
        exact ⟨⟨i + 1, by omega, by go_num, hown', hb2⟩, by simp [intOf]; omega⟩
      · have f2 : decide (y1 ≤ y2) = false := decide_eq_false k1
        rw [if_neg k1, List.append_nil] at HC
        clear k1
        have hown := HO.out
        have hb := HB.out
        rw [← HC.out] at hown
        go_wp2_with fail
        exact ⟨⟨i + 1, by omega, by go_num, hown.alloc _, hb.alloc hb.size _⟩, by simp [intOf]; omega⟩
    · have hin : i = n := by omega
      have f1 : decide ((i : Int) < (n : Int)) = false := decide_eq_false (by omega)
      rw [List.take_of_length_le (by omega)] at hown
      obtain ⟨m, hm⟩ : ∃ m, (clipL l).length = m := ⟨_, rfl⟩
      have hml := clipL_len l
      rw [hm] at hown hml
      obtain ⟨A1, c1, rfl⟩ := ownR_slice hown
      have HS := Lib.hid (HSo A1 m c1 w.heap.size (clipL l) wr hown (by omega))
      have HB := Lib.hid hb
      have hm9 : m ≤ 100000000 := by omega
      clear hown hb hin hm hml
      go_wp2_with fail
      with_reducible refine HS.out.mono ?_
      rintro e w2 ⟨rfl, P, hP1, hP2, hP3, hP4, hP5⟩
      have hB2 := HB.out.trans hP5
      have HP : Hid ((∀ x ∈ P, 0 ≤ x.1 ∧ x.1 ≤ x.2 ∧ x.2 ≤ 1114111) ∧ P.length = m ∧ (P.Pairwise fun x y => x.1 ≤ y.1) ∧ ∀ r, inR P r ↔ has l r) :=
        Lib.hid ⟨fun x hx => clipL_in ((hP1 x).1 hx), hP2, hP3, fun r => (inR_perm hP1 r).trans (clipL_has l r)⟩
      have HR2 := Lib.hid (RowR.own hP4)
      have HB2 := Lib.hid hB2
      clear HS HB hP1 hP2 hP3 hP4 hP5 hB2
      go_wp2_with fail
      go_loopw [6, 37] (fun o p wr => ∃ (i : Nat) (out : List Rg), i ≤ m ∧ p = .int .i64 (i : Int) ∧ Hid (MSt (P.take i) out) ∧ Hid (∀ y ∈ out, ∀ j, i ≤ j → j < m → y.1 ≤ (P.getD j (0, 0)).1) ∧ wr.ownsRow w2.heap.size 47 2 o out.length (cR out) ∧ Below w2.heap.size w2 wr) (fun _ p _ => m - (intOf p).toNat)
      case atStart => exact ⟨0, [], by omega, rfl, Lib.hid MSt.nil, Lib.hid (fun y hy => by cases hy), World.ownsRow_nil _ _ _ _, Below.refl _ _⟩
      case round =>
        obtain ⟨i, out, hi, rfl, HM, HLo, hown, hb⟩ := hrel
        by_cases hlt : i < m
        · have hxv := HP.out.1 _ (getD_mem (l := P) (j := i) (by rw [HP.out.2.1]; exact hlt))
          obtain ⟨b, off, rfl, hbB, hc⟩ := HR2.out.2 (by omega)
          obtain ⟨c1, c2⟩ := hc i hlt
          replace c1 := (hb.cell (p := ⟨b, off + i * 2, none⟩) hbB).trans c1
          replace c2 := (hb.cell (p := ⟨b, off + i * 2 + 1, none⟩) hbB).trans c2
          obtain ⟨⟨x1, x2⟩, hx⟩ : ∃ x, P.getD i (0, 0) = x := ⟨_, rfl⟩
          have HT : Hid (P.take (i + 1) = P.take i ++ [(x1, x2)]) := Lib.hid (by rw [take_snocR (by rw [HP.out.2.1]; exact hlt), hx])
          have HLx : Hid (∀ j, i + 1 ≤ j → j < m → x1 ≤ (P.getD j (0, 0)).1) := Lib.hid (fun j h1 h2 => by
            have := pair_at HP.out.2.2.1 (i := i) (j := j) (by omega) (by rw [HP.out.2.1]; exact h2)
            rwa [hx] at this)
          have HLi : Hid (∀ y ∈ out, y.1 ≤ x1) := Lib.hid (fun y hy => by
            have := HLo.out y hy i (Nat.le_refl _) hlt
            rwa [hx] at this)
          rw [hx] at c1 c2 hxv
          dsimp only at c1 c2 hxv
          have HV := Lib.hid hxv
          have g0 : (0 : Int) ≤ (i : Int) := by omega
          have g1 : (i : Int) < (m : Int) := by omega
          have f2 : decide ((i : Int) < (m : Int)) = true := decide_eq_true g1
          clear hc hx hxv
          rcases List.eq_nil_or_concat out with h | ⟨o, a, h⟩
          · subst h
            obtain ⟨A3, c3, rfl⟩ := ownR_slice hown
            have HM2 : Hid (MSt (P.take (i + 1)) [(x1, x2)]) := Lib.hid (by rw [HT.out]; exact HM.out.begin HV.out)
            have HL2 : Hid (∀ y ∈ [((x1, x2) : Rg)], ∀ j, i + 1 ≤ j → j < m → y.1 ≤ (P.getD j (0, 0)).1) := Lib.hid (fun y hy j h1 h2 => by
              rw [List.mem_singleton.1 hy]; exact HLx.out j h1 h2)
            have hown0 : wr.ownsRow w2.heap.size 47 2 (.slice A3 0 c3) 0 [] := hown
            have HO := Lib.hid hown0
            have HBr := Lib.hid hb
            clear hown hown0 hb
            go_wp2_with fail
            go_quiet (fail)
            have hown0 := HO.out
            have hb := HBr.out
            go_wp2_with (at_builtin; refine wpList_appR _ rfl (.tmp 69) (.tmp 71) 24 rfl w2.heap.size 47 i0 Try.underlying24 hi0 hz0 hz1 hz2 _ 0 [] rfl ((own_dn (hown0.alloc _) _).alloc _) _ _ 1 1 _ rfl (RowR.one3 _ _ _ _ _ _) (by omega) (by simp; have := hb.size; omega) ?_)
            intro v' w' hown' _ hb'
            have hb2 : Below w2.heap.size w2 w' := ((Below.dn (hb.alloc hb.size _) _).alloc (by have := hb.size; simp; omega) _).trans hb'
            clear hb hb' hown0
            go_wp2_with fail
            exact ⟨⟨i + 1, [(x1, x2)], by omega, by go_num, HM2, HL2, hown', hb2⟩, by simp [intOf]; omega⟩
          · rw [List.concat_eq_append] at h
            subst h
            obtain ⟨a1, a2⟩ := a
            obtain ⟨k, hk⟩ : ∃ k, o.length = k := ⟨_, rfl⟩
            obtain ⟨K, hK⟩ : ∃ K, (o ++ [((a1, a2) : Rg)]).length = K := ⟨_, rfl⟩
            have hKk : K = k + 1 := by rw [← hK, List.length_append, hk]; rfl
            rw [hK] at hown
            obtain ⟨g, cap, hv, hgB, hgl⟩ := hown.form (by omega)
            subst hv
            have hav := HM.out.1.front.2.1
            dsimp only at hav
            have hLa := HLi.out (a1, a2) (by simp)
            dsimp only at hLa
            have hKs := HM.out.1.short
            rw [hK] at hKs
            have hgd : (o ++ [((a1, a2) : Rg)]).getD k (0, 0) = (a1, a2) := by rw [← hk]; simp [List.getD_eq_getElem?_getD]
            have hcg := cR_get (o ++ [((a1, a2) : Rg)]) k (by rw [hK]; omega)
            rw [hgd] at hcg
            have hoa := hown.alloc (.cells #[.int .i64 x1, .int .i64 x2] 47)
            have e2 := (hoa.cellAt (k * 2 + 1) (by omega)).trans hcg.2
            have e3 := hoa.frozenAt (k * 2 + 1)
            dsimp only at e2
            have hwk : IntKind.i64.wrap ((K : Int) - 1) = (k : Int) := by rw [IntKind.wrap_i64]; omega
            have wa : IntKind.i64.wrap (a2 + 1) = a2 + 1 := wrap_ok (by omega) (by omega)
            have f4 : decide ((0 : Int) ≤ (k : Int)) = true := decide_eq_true (by omega)
            have g2 : (0 : Int) ≤ (k : Int) := by omega
            have g3 : (k : Int) < (K : Int) := by omega
            have HKk := Lib.hid hKk
            have HO := Lib.hid hown
            have HBr := Lib.hid hb
            have HgB := Lib.hid hgB
            by_cases k1 : x1 ≤ a2 + 1
            · have f3 : decide (x1 ≤ a2 + 1) = true := decide_eq_true k1
              obtain ⟨z, hz⟩ : ∃ z, (if a2 < x2 then x2 else a2) = z := ⟨_, rfl⟩
              have hzm : max a2 x2 = z := by rw [← hz]; split <;> omega
              have HM2 : Hid (MSt (P.take (i + 1)) (o ++ [(a1, z)])) := Lib.hid (by rw [HT.out, ← hzm]; exact HM.out.join HV.out hLa k1)
              have HL2 : Hid (∀ y ∈ o ++ [((a1, z) : Rg)], ∀ j, i + 1 ≤ j → j < m → y.1 ≤ (P.getD j (0, 0)).1) := Lib.hid (fun y hy j h1 h2 => by
                rcases List.mem_append.1 hy with hy | hy
                · exact HLo.out y (List.mem_append_left _ hy) j (by omega) h2
                · rw [List.mem_singleton.1 hy]; exact HLo.out (a1, a2) (by simp) j (by omega) h2)
              have HFin : Hid (∀ V : World, V.ownsRow w2.heap.size 47 2 (.slice (some ⟨g, 0, none⟩) K cap) K (cR (o ++ [(a1, a2)])) → Below w2.heap.size w2 V →
                  (V.setCell ⟨g, k * 2 + 1, none⟩ (.int .i64 z)).ownsRow w2.heap.size 47 2 (.slice (some ⟨g, 0, none⟩) K cap) (o ++ [((a1, z) : Rg)]).length (cR (o ++ [(a1, z)])) ∧ Below w2.heap.size w2 (V.setCell ⟨g, k * 2 + 1, none⟩ (.int .i64 z))) := Lib.hid (fun V hV hbV => by
                have h1 := (hV.stored (k * 2 + 1) (.int .i64 z)).1
                rw [← hk, cR_set, hk] at h1
                rw [show (o ++ [((a1, z) : Rg)]).length = K by rw [← hK]; simp]
                exact ⟨h1, hbV.setCell hgB _⟩)
              clear k1 hzm hk hK hKk hav hLa hKs hgd hcg hoa hown hb hgB hgl
              go_wp2_with fail
              go_quiet (fail)
              go_wp2_with fail
              have eV1 : ((wr.alloc (.cells #[.int .i64 x1, .int .i64 x2] 47)).drewN nq).cell? ⟨g, k * 2 + 1, none⟩ = some (.int .i64 a2) := e2
              have eV2 : ((wr.alloc (.cells #[.int .i64 x1, .int .i64 x2] 47)).drewN nq).frozen? ⟨g, k * 2 + 1, none⟩ = false := e3
              have eV3 : ((wr.alloc (.cells #[.int .i64 x1, .int .i64 x2] 47)).drewN nq).cell? ⟨wr.heap.size, 1, none⟩ = some (.int .i64 x2) := by
                show (wr.alloc _).cell? _ = _
                rw [World.cell?_alloc_at _ _ _ _ (by simp)]; rfl
              have hoV := Lib.hid (own_dn (HO.out.alloc (.cells #[.int .i64 x1, .int .i64 x2] 47)) nq)
              have hbV := Lib.hid (Below.dn (HBr.out.alloc HBr.out.size (.cells #[.int .i64 x1, .int .i64 x2] 47)) nq)
              clear e2 e3 HO HBr c1 c2
              generalize (wr.alloc (.cells #[.int .i64 x1, .int .i64 x2] 47)).drewN nq = V at *
              go_still_tail 12, (by kernel_rfl)
              change wpList _ _ _ _ _ V.drew
              have HFV := Lib.hid (HFin.out V.drew hoV.out hbV.out.drew)
              have eW2 : V.drew.frozen? ⟨g, k * 2 + 1, none⟩ = false := eV2
              have eW1 : V.drew.cell? ⟨g, k * 2 + 1, none⟩ = some (.int .i64 a2) := eV1
              clear eV1 eV2 eV3 hoV hbV HFin
              generalize V.drew = V2 at *
              go_wp2_with fail
              exact ⟨⟨i + 1, _, by omega, by go_num, HM2, HL2, HFV.out.1, HFV.out.2⟩, by simp [intOf]; omega⟩
            · have f3 : decide (x1 ≤ a2 + 1) = false := decide_eq_false k1
              have HM2 : Hid (MSt (P.take (i + 1)) (o ++ [(a1, a2)] ++ [(x1, x2)])) := Lib.hid (by rw [HT.out]; exact HM.out.more HV.out (by dsimp only; omega))
              have HL2 : Hid (∀ y ∈ o ++ [((a1, a2) : Rg)] ++ [(x1, x2)], ∀ j, i + 1 ≤ j → j < m → y.1 ≤ (P.getD j (0, 0)).1) := Lib.hid (fun y hy j h1 h2 => by
                rcases List.mem_append.1 hy with hy | hy
                · exact HLo.out y hy j (by omega) h2
                · rw [List.mem_singleton.1 hy]; exact HLx.out j h1 h2)
              have HK2 : Hid (K + 1 = (o ++ [((a1, a2) : Rg)] ++ [(x1, x2)]).length) := Lib.hid (by rw [List.length_append, hK]; rfl)
              clear k1 hk hK hKk hav hLa hgd hcg hoa hown hb hgB hgl
              go_wp2_with fail
              go_quiet (fail)
              have hown := HO.out
              have hb := HBr.out
              go_wp2_with (at_builtin; refine wpList_appR _ rfl (.tmp 69) (.tmp 71) 24 rfl w2.heap.size 47 i0 Try.underlying24 hi0 hz0 hz1 hz2 _ _ _ rfl ((own_dn (hown.alloc _) _).alloc _) _ _ 1 1 _ rfl (RowR.one3 _ _ _ _ _ _) (by omega) (by simp; have := hb.size; omega) ?_)
              intro v' w' hown' _ hb'
              have hb2 : Below w2.heap.size w2 w' := ((Below.dn (hb.alloc hb.size _) _).alloc (by have := hb.size; simp; omega) _).trans hb'
              rw [← cR_app, HK2.out] at hown'
              clear hb hb' hown
              go_wp2_with fail
              exact ⟨⟨i + 1, _, by omega, by go_num, HM2, HL2, hown', hb2⟩, by simp [intOf]; omega⟩
        · have f2 : decide ((i : Int) < (m : Int)) = false := decide_eq_false (by omega)
          have HF : Hid (Of (has l) out) := Lib.hid (by
            have h := HM.out
            rw [List.take_of_length_le (by rw [HP.out.2.1]; omega)] at h
            exact ⟨h.1, fun r => (h.2 r).trans (HP.out.2.2.2 r)⟩)
          obtain ⟨A3, c3, rfl⟩ := ownR_slice hown
          have o4 := own_lowR HB2.out.size hown
          have hb4 := next HB2.out hb
          clear hown hb
          go_wp2_with fail
          go_ret
          exact ⟨A3, c3, out, rfl, HF.out, o4, hb4⟩
end Go.Proofs.Ytjnnaafkdgoflaa
