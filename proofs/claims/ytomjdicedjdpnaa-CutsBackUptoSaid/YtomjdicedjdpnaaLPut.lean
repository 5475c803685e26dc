/- LPut: taken over. -/
import Derived.Test.YtomjdicedjdpnaaLChoose
import Derived.Deep.RegionHeld3
namespace Go.Proofs.Ytomjdicedjdpnaa
open Go.RowKit

theorem step_appL {P : Program} (w : World) {ops : Array Oper} {o : Oper} {a : Act} {K : Act → World → Prop} {Q : Exit → Act → World → Prop} {E : Prop} (hgd : o.guard = none) (s x : Operand) (t : TypeId)
    (ho : o.op = .call { callee := .builtin .append, args := #[s, x], argTypes := #[t, t] })
    (base : Nat) (e : TypeId) (i : TypeInfo) (ht : P.underlying t = some (.slice e)) (hi : P.info? e = some i) (hz : i.zero = some (.agg #[.string ByteArray.empty, .string ByteArray.empty]))
    (hsize : i.size = 2) (hby : i.bytes = 32)
    (v : Value) (n : Nat) (xs : List Value) (hs : a.eval s = v) (hown : w.ownsRow base e 2 v n xs)
    (B : Nat) (A : Option Addr) (m c : Nat) (l : List Lb) (hx : a.eval x = .slice A m c) (hr : RowL w B A m l)
    (h63 : n + m ≤ 1000000000) (hbase : base ≤ w.heap.size) (N : Nat) (hN : n + m = N)
    (h : ∀ A' c' w', w'.ownsRow base e 2 (.slice A' N c') N (xs ++ cL l) → w.grownBy w' v.ownBlock → Below base w w' → K (a.put o.dst (.slice A' N c')) w') :
    if Region.wanted o (yielded ops a.tmps) = true then Oper.wp P o a w K Q else E := by
  subst hN
  have hw : Region.wanted o (yielded ops a.tmps) = true := by simp [Region.wanted, hgd]
  rw [if_pos hw]
  have hlt : ∀ k, v.ownBlock = some k → base ≤ k := fun k hk => (hown.lt k hk).1
  rcases A with _ | ⟨b, off, sub⟩
  · have hm : m = 0 := by
      rcases Nat.eq_zero_or_pos m with h0 | h0
      · exact h0
      · obtain ⟨_, _, he, _⟩ := hr.2 h0
        cases he
    subst hm
    have hl : l = [] := List.eq_nil_of_length_eq_zero hr.1
    subst hl
    have hrun := append_nilL (P := P) w base t o.type e i ht hi v n xs hown c
    obtain ⟨A1, c1, rfl⟩ := ownL_slice hown
    unfold Oper.wp
    simp only [execOp, ho, resolve, invoke, builtin, Sem.run_bind, Sem.run_pure, Result.andThen_ok, List.map_toArray, List.map_cons, List.map_nil, hs, hx, hrun]
    exact h A1 c1 w (by simpa [cL] using hown) (World.grownBy.refl w _) (Below.refl _ _)
  · refine wp_append_own_wide w s x t ho base e i (.agg #[.string ByteArray.empty, .string ByteArray.empty]) 2 32 ht hi hz hsize hby rfl (by omega) v n xs hs hown ⟨b, off, sub⟩ m c (cL l) hx (by rw [cL_len, hr.1]) ?_ (cL_one l) (by unfold maxLen; omega) (by omega) hbase ?_
    · intro j u hu
      have hj : j < m * 2 := by have := (List.getElem?_eq_some_iff.1 hu).1; rw [cL_len, hr.1] at this; exact this
      obtain ⟨b', off', he, _, hc⟩ := hr.2 (by omega)
      injection he with he
      have hk := hc (j / 2) (by omega)
      have hg := cL_get l (j / 2) (by rw [hr.1]; omega)
      have hadd : ∀ q, (⟨b', off', none⟩ : Addr).add q = ⟨b', off' + q, none⟩ := fun q => by
        unfold Addr.add
        split <;> simp_all
      rw [he, hadd]
      by_cases h2 : j % 2 = 0
      · rw [show j = j / 2 * 2 by omega] at hu ⊢
        rw [hg.1] at hu
        rw [← hu]; exact hk.1
      · rw [show j = j / 2 * 2 + 1 by omega] at hu ⊢
        rw [hg.2] at hu
        rw [← hu]; exact hk.2
    · intro v' w' h2 h3 _
      obtain ⟨A1, c1, rfl⟩ := ownL_slice h2
      exact h A1 c1 w' h2 h3 ((Below.refl base w).grown h3 hbase hlt)
theorem RowL.drop {w : World} {B n b off : Nat} {l : List Lb} (h : RowL w B (some ⟨b, off, none⟩) n l) (k : Nat) (hk : k ≤ n) : RowL w B (some ⟨b, off + k * 2, none⟩) (n - k) (l.drop k) := by
  refine ⟨by rw [List.length_drop, h.1], fun h0 => ?_⟩
  obtain ⟨b', off', e, hb, hc⟩ := h.2 (by omega)
  injection e with e
  injection e with e1 e2
  subst e1; subst e2
  refine ⟨b, off + k * 2, rfl, hb, fun j hj => ?_⟩
  have h1 := hc (k + j) (by omega)
  rw [show off + (k + j) * 2 = off + k * 2 + j * 2 by omega] at h1
  have e3 : (l.drop k).getD j noL = l.getD (k + j) noL := by rw [List.getD_eq_getElem?_getD, List.getD_eq_getElem?_getD, List.getElem?_drop]
  rw [e3]
  exact h1
theorem RowL.one' (w : World) (e : TypeId) (x y : ByteArray) : RowL (w.alloc (.cells #[.string x, .string y] e)) (w.alloc (.cells #[.string x, .string y] e)).heap.size (some ⟨w.heap.size, 0, none⟩) 1 [(x, y)] := by
  rw [World.size_alloc]; exact RowL.one w e x y
theorem addr_addL (b off q : Nat) : (⟨b, off, none⟩ : Addr).add q = ⟨b, off + q, none⟩ := by
  unfold Addr.add
  split <;> simp_all
theorem grown_below {w w' : World} (h : w.grownBy w' none) : Below w.heap.size w w' := ⟨h.os, h.tape, h.output, h.size, fun j hj => h.block j hj (by simp)⟩
/-- Where a label is put. -/
def At (l : List Lb) (n : ByteArray) (k : Nat) : Prop := (∀ x ∈ l.take k, lt x.1 n) ∧ ∀ x ∈ l.drop k, ¬ lt x.1 n
theorem At.put {l : List Lb} {x : Lb} {k : Nat} (h : At l x.1 k) (hr : Rise l) (hx : ∀ y ∈ l, y.1 ≠ x.1) : l.take k ++ [x] ++ l.drop k = putL l x := by
  unfold putL
  rw [rise_split hr x.1 k h.1 h.2, rise_rest x.1 k (fun y hy => lt_asymm (h.1 y hy)) (fun y hy => ?_)]
  · simp
  · rcases lt_tri y.1 x.1 with q | q | q
    · exact absurd q (h.2 y hy)
    · exact absurd q (hx y (List.mem_of_mem_drop hy))
    · exact q
/-- Up to i: a is where it would be put. -/
def AtI (l : List Lb) (n : ByteArray) (i a : Nat) : Prop := a ≤ i ∧ (∀ x ∈ l.take a, lt x.1 n) ∧ ∀ x ∈ (l.take i).drop a, ¬ lt x.1 n
theorem AtI.yes {l : List Lb} {n : ByteArray} {i a : Nat} (_h : AtI l n i a) (hr : Rise l) (hi : i < l.length) (hx : lt (l.getD i noL).1 n) : AtI l n (i + 1) (i + 1) := by
  refine ⟨Nat.le_refl _, fun y hy => ?_, fun y hy => ?_⟩
  · rw [take_snocL hi] at hy
    rcases List.mem_append.1 hy with hy | hy
    · have h2 : Rise (l.take (i + 1)) := hr.sublist (List.take_sublist _ _)
      rw [take_snocL hi] at h2
      exact lt_trans ((List.pairwise_append.1 h2).2.2 y hy _ (by simp)) hx
    · rw [List.mem_singleton.1 hy]; exact hx
  · rw [List.drop_of_length_le (by rw [List.length_take]; omega)] at hy
    cases hy
theorem AtI.no {l : List Lb} {n : ByteArray} {i a : Nat} (h : AtI l n i a) (hi : i < l.length) (hx : ¬ lt (l.getD i noL).1 n) : AtI l n (i + 1) a := by
  refine ⟨by have := h.1; omega, h.2.1, fun y hy => ?_⟩
  rw [take_snocL hi, List.drop_append_of_le_length (by rw [List.length_take]; have := h.1; omega)] at hy
  rcases List.mem_append.1 hy with hy | hy
  · exact h.2.2 y hy
  · rw [List.mem_singleton.1 hy]; exact hx
set_option maxRecDepth 100000 in
set_option maxHeartbeats 8000000 in
theorem put_any (A : Option Addr) (n c : Nat) (l : List Lb) (x1 x2 : ByteArray) (w : World) (hr : RowL w w.heap.size A n l) (hR : Rise l) (hX : ∀ y ∈ l, y.1 ≠ x1) (hn : n ≤ 10000000) (hnc : n ≤ c) (hc9 : c ≤ 9223372036854775807) :
    Calls Try.prog 52 #[.slice A n c, .agg #[.string x1, .string x2]] w (LOut w (putL l (x1, x2))) := by
  obtain ⟨i0, hi0, hz0, hz1, hz2⟩ := info_partsL lb_info
  have HL := Lib.hid hr.1
  have hbx : Below w.heap.size w (w.alloc (.cells #[.string x1, .string x2] 77)) := (Below.refl _ w).alloc (Nat.le_refl _) _
  have hd1 : (w.alloc (.cells #[.string x1, .string x2] 77)).cell? ⟨w.heap.size, 0, none⟩ = some (.string x1) := by rw [World.cell?_alloc_at _ _ _ _ (by simp)]; rfl
  have hd2 : (w.alloc (.cells #[.string x1, .string x2] 77)).cell? ⟨w.heap.size, 1, none⟩ = some (.string x2) := by rw [World.cell?_alloc_at _ _ _ _ (by simp)]; rfl
  have hsz : w.heap.size < (w.alloc (.cells #[.string x1, .string x2] 77)).heap.size := by rw [World.size_alloc]; omega
  have HR := Lib.hid (hr.on hbx)
  have HB := Lib.hid hbx
  have HRi := Lib.hid (And.intro hR hX)
  clear hr hR hX hbx
  go_enter Try.func52, Try.ntmps52
  go_wp2_with fail
  change Code.wp _ _ _ _ (w.alloc (.cells #[.string x1, .string x2] 77))
  obtain ⟨V, hV⟩ : ∃ V, w.alloc (.cells #[.string x1, .string x2] 77) = V := ⟨_, rfl⟩
  rw [hV] at hd1 hd2 hsz HR HB ⊢
  obtain ⟨bx, hbx⟩ : ∃ bx, w.heap.size = bx := ⟨_, rfl⟩
  rw [hbx] at hd1 hd2 hsz ⊢
  clear hV hbx
  go_loopw [5, 6] (fun p q wr => ∃ a i : Nat, i ≤ n ∧ p = .int .i64 (a : Int) ∧ q = .int .i64 (i : Int) ∧ Hid (AtI l x1 i a) ∧ Below V.heap.size V wr) (fun _ q _ => n - (intOf q).toNat)
  case atStart => exact ⟨0, 0, by omega, rfl, rfl, Lib.hid ⟨Nat.le_refl _, by simp, by simp⟩, Below.refl _ _⟩
  case round =>
    obtain ⟨a, i, hi, rfl, rfl, HA, hb⟩ := hrel
    have d1 := (hb.cell (p := ⟨bx, 0, none⟩) hsz).trans hd1
    have d2 := (hb.cell (p := ⟨bx, 1, none⟩) hsz).trans hd2
    by_cases hlt : i < n
    · obtain ⟨b, off, rfl, hbB, hc⟩ := HR.out.2 (by omega)
      obtain ⟨c1, _⟩ := hc i hlt
      replace c1 := (hb.cell (p := ⟨b, off + i * 2, none⟩) hbB).trans c1
      have HBr := Lib.hid hb
      clear hb
      have HI : Hid (i < l.length) := Lib.hid (by rw [HL.out]; exact hlt)
      obtain ⟨y, hy⟩ : ∃ y, (l.getD i noL).1 = y := ⟨_, rfl⟩
      rw [hy] at c1
      have HY := Lib.hid hy
      have g0 : (0 : Int) ≤ (i : Int) := by omega
      have g1 : (i : Int) < (n : Int) := by omega
      have f1 : decide ((i : Int) < (n : Int)) = true := decide_eq_true g1
      have e0 := less_lt y x1
      clear hc hy
      by_cases hl : lt y x1
      · rw [decide_eq_true hl] at e0
        have HA2 : Hid (AtI l x1 (i + 1) (i + 1)) := Lib.hid (HA.out.yes HRi.out.1 HI.out (by rw [HY.out]; exact hl))
        clear hl
        go_wp2_with fail
        go_quiet (fail)
        go_wp2_with fail
        exact ⟨⟨i + 1, i + 1, hlt, by go_num, by go_num, HA2, Below.dn HBr.out _⟩, by simp [intOf]; omega⟩
      · rw [decide_eq_false hl] at e0
        have HA2 : Hid (AtI l x1 (i + 1) a) := Lib.hid (HA.out.no HI.out (by rw [HY.out]; exact hl))
        clear hl
        go_wp2_with fail
        go_quiet (fail)
        go_wp2_with fail
        exact ⟨⟨a, i + 1, hlt, rfl, by go_num, HA2, Below.dn HBr.out _⟩, by simp [intOf]; omega⟩
    · have f1 : decide ((i : Int) < (n : Int)) = false := decide_eq_false (by omega)
      have hin : i = n := by omega
      have HP : Hid (l.take a ++ [(x1, x2)] ++ l.drop a = putL l (x1, x2)) := Lib.hid (At.put (x := (x1, x2)) ⟨HA.out.2.1, by have h := HA.out.2.2; rwa [List.take_of_length_le (by rw [HL.out]; omega)] at h⟩ HRi.out.1 HRi.out.2)
      have ha : a ≤ n := by have := HA.out.1; omega
      have g0 : (0 : Int) ≤ (a : Int) := by omega
      have g1 : (a : Int) ≤ (n : Int) := by omega
      have g2 : (a : Int) ≤ (c : Int) := by omega
      have g3 : a ≤ c := by omega
      have HPl : Hid ((putL l (x1, x2)).length = n + 1) := Lib.hid (by rw [← HP.out]; simp only [List.length_append, List.length_take, List.length_drop, List.length_cons, List.length_nil, HL.out]; omega)
      have HBw := Lib.hid hb
      have HT := Lib.hid (fun w' (hb' : Below wr.heap.size wr w') => ((HR.out.on hb).on hb').take ha)
      have hbxw : bx < wr.heap.size := Nat.lt_of_lt_of_le hsz hb.size
      have HSf := Lib.hid (fun w' (hb' : Below wr.heap.size wr w') => (⟨hb', (hb'.cell (p := ⟨bx, 0, none⟩) hbxw).trans d1, (hb'.cell (p := ⟨bx, 1, none⟩) hbxw).trans d2⟩ : Below wr.heap.size wr w' ∧ w'.cell? ⟨bx, 0, none⟩ = some (.string x1) ∧ w'.cell? ⟨bx, 1, none⟩ = some (.string x2)))
      have HS0 := Lib.hid (HSf.out wr.drew (Below.refl _ wr).drew)
      have HSA := Lib.hid (fun w' o (h : Below wr.heap.size wr w' ∧ w'.cell? ⟨bx, 0, none⟩ = some (.string x1) ∧ w'.cell? ⟨bx, 1, none⟩ = some (.string x2)) => HSf.out (w'.alloc o) (h.1.alloc h.1.size o))
      clear hin HA HRi hi
      rcases A with _ | ⟨b, off, spot⟩
      · have hn0 : n = 0 := by
          rcases Nat.eq_zero_or_pos n with h0 | h0
          · exact h0
          · obtain ⟨_, _, e, _⟩ := HR.out.2 h0
            cases e
        have ha0 : a = 0 := by omega
        have hl0 : l = [] := List.eq_nil_of_length_eq_zero (by rw [HL.out, hn0])
        have HPn : Hid (putL l (x1, x2) = [(x1, x2)]) := Lib.hid (by rw [← HP.out, hl0]; simp)
        subst hn0
        subst ha0
        clear hl0 hb HT HPl HP
        go_wp2_with fail
        go_region_held3 (fun w' => Below wr.heap.size wr w' ∧ w'.cell? ⟨bx, 0, none⟩ = some (.string x1) ∧ w'.cell? ⟨bx, 1, none⟩ = some (.string x2))
            (first | exact HS0.out | exact HSA.out _ _ (by assumption) | assumption)
            ((first
              | (refine step_appL _ (by rfl) (.tmp 28) (.tmp 30) 31 (by rfl) wr.heap.size 77 i0 Try.underlying31 hi0 hz0 hz1 hz2 (.slice none 0 0) 0 [] (by rfl) (World.ownsRow_nil _ _ _ _) _ _ 1 1 [(x1, x2)] (by rfl) (RowL.one' _ _ _ _) (by omega) (‹Below wr.heap.size wr _ ∧ _ ∧ _›).1.size 1 (by omega) ?_
                 intro B2 e2 w2 o2 gr2 b2
                 have bb2 := (‹Below wr.heap.size wr _ ∧ _ ∧ _›).1.trans b2
                 have S2 := HSf.out w2 bb2)
              | (refine step_appL _ (by rfl) (.tmp 31) (.tmp 34) 31 (by rfl) wr.heap.size 77 i0 Try.underlying31 hi0 hz0 hz1 hz2 (.slice B2 1 e2) 1 ([] ++ cL [(x1, x2)]) (by rfl) o2 0 none 0 _ [] (by rfl) ⟨rfl, fun h => by omega⟩ (by omega) bb2.size 1 (by omega) ?_
                 intro B3 e3 w3 o3 gr3 b3
                 have bb3 := bb2.trans b3
                 have S3 := HSf.out w3 bb3)))
        all_goals
          have HO : Hid (w3.ownsRow wr.heap.size 77 2 (.slice B3 1 e3) 1 (cL [(x1, x2)])) := Lib.hid o3
          have HB3 := Lib.hid bb3
          clear o2 gr2 b2 bb2 S2 o3 gr3 b3 bb3 S3
          go_wp2_with fail
          go_ret
          rw [HPn.out]
          exact ⟨B3, e3, rfl, own_lowL (Nat.le_trans HB.out.size HBw.out.size) HO.out, next (next HB.out HBw.out) HB3.out⟩
      · have hspot : n = 0 ∨ spot = none := by
          rcases Nat.eq_zero_or_pos n with h0 | h0
          · exact .inl h0
          · obtain ⟨_, _, e, _⟩ := HR.out.2 h0
            injection e with e
            injection e with _ _ e
            exact .inr e
        have HD := Lib.hid (fun w' (hb' : Below wr.heap.size wr w') => (show RowL w' w'.heap.size (if c = a then some ⟨b, off, spot⟩ else some ((⟨b, off, spot⟩ : Addr).add (a * 2))) (n - a) (l.drop a) from by
          by_cases hca : c = a
          · exact ⟨by rw [List.length_drop, HL.out], fun h => by omega⟩
          rw [if_neg hca]
          rcases hspot with h0 | h0
          · exact ⟨by rw [List.length_drop, HL.out], fun h => by omega⟩
          · subst h0
            have h := ((HR.out.on hb).on hb').drop a ha
            rw [addr_addL]
            exact h))
        clear hb hspot
        go_wp2_with fail
        go_region_held3 (fun w' => Below wr.heap.size wr w' ∧ w'.cell? ⟨bx, 0, none⟩ = some (.string x1) ∧ w'.cell? ⟨bx, 1, none⟩ = some (.string x2))
            (first | exact HS0.out | exact HSA.out _ _ (by assumption) | assumption)
            ((first
              | (refine step_appL _ (by rfl) (.tmp 24) (.tmp 27) 31 (by rfl) wr.heap.size 77 i0 Try.underlying31 hi0 hz0 hz1 hz2 (.slice none 0 0) 0 [] (by rfl) (World.ownsRow_nil _ _ _ _) _ (some ⟨b, off, spot⟩) a c (l.take a) (by rfl) (HT.out _ (‹Below wr.heap.size wr _ ∧ _ ∧ _›).1) (by omega) (‹Below wr.heap.size wr _ ∧ _ ∧ _›).1.size a (by omega) ?_
                 intro B1 e1 w1 o1 gr1 b1
                 have bb1 := (‹Below wr.heap.size wr _ ∧ _ ∧ _›).1.trans b1
                 have S1 := HSf.out w1 bb1
                 have gb1 := grown_below gr1
                 try have R1 := (RowL.one' wr.drew 77 x1 x2).on gb1)
              | (refine step_appL _ (by rfl) (.tmp 28) (.tmp 30) 31 (by rfl) wr.heap.size 77 i0 Try.underlying31 hi0 hz0 hz1 hz2 (.slice B1 a e1) a ([] ++ cL (l.take a)) (by rfl) (by first | exact o1 | exact o1.alloc _) _ _ 1 1 [(x1, x2)] (by rfl) (by first | exact R1 | exact RowL.one' _ _ _ _) (by omega) (‹Below wr.heap.size wr _ ∧ _ ∧ _›).1.size (a + 1) (by omega) ?_
                 intro B2 e2 w2 o2 gr2 b2
                 have bb2 := (‹Below wr.heap.size wr _ ∧ _ ∧ _›).1.trans b2
                 have S2 := HSf.out w2 bb2)
              | (refine step_appL _ (by rfl) (.tmp 31) (.tmp 34) 31 (by rfl) wr.heap.size 77 i0 Try.underlying31 hi0 hz0 hz1 hz2 (.slice B2 (a + 1) e2) (a + 1) ([] ++ cL (l.take a) ++ cL [(x1, x2)]) (by rfl) o2 _ (if c = a then some ⟨b, off, spot⟩ else some ((⟨b, off, spot⟩ : Addr).add (a * 2))) (n - a) (c - a) (l.drop a) (by rfl) (HD.out _ bb2) (by omega) bb2.size (a + 1 + (n - a)) (by omega) ?_
                 intro B3 e3 w3 o3 gr3 b3
                 have bb3 := bb2.trans b3
                 have S3 := HSf.out w3 bb3)))
        all_goals
          have HO : Hid (w3.ownsRow wr.heap.size 77 2 (.slice B3 (putL l (x1, x2)).length e3) (putL l (x1, x2)).length (cL (putL l (x1, x2)))) := Lib.hid (by
            have h := o3
            rw [List.nil_append, ← cL_app, ← cL_app, HP.out] at h
            rw [HPl.out, show n + 1 = a + 1 + (n - a) by omega]
            exact h)
          have HB3 := Lib.hid bb3
          have hlen : a + 1 + (n - a) = (putL l (x1, x2)).length := by rw [HPl.out]; omega
          rw [hlen]
          clear o1 o2 o3 gr1 gr2 gr3 b1 b2 b3 bb1 bb2 bb3 S1 S2 S3 hlen
          go_wp2_with fail
          all_goals
            go_ret
            exact ⟨B3, e3, rfl, own_lowL (Nat.le_trans HB.out.size HBw.out.size) HO.out, next (next HB.out HBw.out) HB3.out⟩
theorem putL_len (l : List Lb) (x : Lb) : (putL l x).length ≤ l.length + 1 := by
  have := lo_hi_len x.1 l
  unfold putL
  simp only [List.length_append, List.length_cons]
  omega
theorem drop_len (l : List Lb) (p : ByteArray → Bool) : (pickL l p).length ≤ l.length := by
  unfold pickL
  split
  · exact List.length_filter_le _ _
  · simp
theorem own_cap {w : World} {base n c : Nat} {e : TypeId} {A : Option Addr} {xs : List Value} (h : w.ownsRow base e 2 (.slice A n c) n xs) : n ≤ c ∧ c ≤ 9223372036854775807 := by
  rcases h.2 with ⟨hv, hn⟩ | ⟨g, cap, cur, hv, _, _, h1, h2, _⟩
  · injection hv with h1 h2 h3
    omega
  · injection hv with h3 h4 h5
    subst h5
    exact ⟨h1, h2⟩
set_option maxRecDepth 100000 in
set_option maxHeartbeats 4000000 in
theorem rSet_any (A : Option Addr) (n c : Nat) (l : List Lb) (x1 x2 : ByteArray) (w : World) (hr : RowL w w.heap.size A n l) (hn : n ≤ 1000000) :
    Calls Try.prog 33 #[.slice A n c, .string x1, .string x2] w (LOut w (setL l x1 x2)) := by
  have HC := Lib.hid (rInOrder_any A n c l w hr (by omega))
  have HD := Lib.hid (fun w' (hb : Below w.heap.size w w') => rDrop_any A n c l x1 w' (hr.on hb) (by omega))
  have HL := Lib.hid hr.1
  clear hr
  by_cases hO : Ord l
  · have C := HC.out
    rw [decide_eq_true hO] at C
    replace C := Lib.hid C
    have hdl := drop_len l (notName x1)
    rw [HL.out] at hdl
    have HP : Hid (pickL l (notName x1) = l.filter (fun x => decide (x.1 ≠ x1))) := Lib.hid (by rw [pickL, if_pos hO]; rfl)
    obtain ⟨D, hD⟩ : ∃ D, pickL l (notName x1) = D := ⟨_, rfl⟩
    rw [hD] at HD hdl HP
    by_cases he : x2 = ByteArray.empty
    · have e1 := emp_yes he
      have HS : Hid (setL l x1 x2 = D) := Lib.hid (by
        rw [setL, if_pos hO, if_pos he, HP.out, pickL_drop hO]; simp)
      rw [HS.out]
      clear hO he hD HC HS HP
      go_enter Try.func33, Try.ntmps33
      go_wp2_with fail
      with_reducible refine C.out.mono ?_
      rintro e w1 ⟨rfl, b1⟩
      have C2 := Lib.hid (HD.out w1 b1)
      have HB1 := Lib.hid b1
      clear C HD b1
      go_wp2_with fail
      with_reducible refine C2.out.mono ?_
      rintro e w2 ⟨A2, c2, rfl, o2, b2⟩
      have HO2 := Lib.hid (own_lowL HB1.out.size o2)
      have HB2 := Lib.hid (next HB1.out b2)
      clear C2 o2 b2
      go_wp2_with fail
      go_ret
      exact ⟨A2, c2, rfl, HO2.out, HB2.out⟩
    · have e1 := emp_no he
      have HS : Hid (setL l x1 x2 = putL D (x1, x2)) := Lib.hid (by rw [setL_put hO x1 x2 he, HP.out])
      have HR : Hid (Rise D ∧ ∀ y ∈ D, y.1 ≠ x1) := Lib.hid (by
        rw [HP.out]
        exact ⟨hO.2.filter _, fun y hy => of_decide_eq_true (List.mem_filter.1 hy).2⟩)
      rw [HS.out]
      clear hO he hD HC HS HP
      go_enter Try.func33, Try.ntmps33
      go_wp2_with fail
      with_reducible refine C.out.mono ?_
      rintro e w1 ⟨rfl, b1⟩
      have C2 := Lib.hid (HD.out w1 b1)
      have HB1 := Lib.hid b1
      clear C HD b1
      go_wp2_with fail
      with_reducible refine C2.out.mono ?_
      rintro e w2 ⟨A2, c2, rfl, o2, b2⟩
      have hcap := own_cap o2
      have C3 := Lib.hid (put_any A2 D.length c2 D x1 x2 w2 (RowL.own o2) HR.out.1 HR.out.2 (by omega) hcap.1 hcap.2)
      have HB2 := Lib.hid (next HB1.out b2)
      clear C2 o2 b2 hcap
      go_wp2_with fail
      with_reducible refine C3.out.mono ?_
      rintro e w3 ⟨A3, c3, rfl, o3, b3⟩
      have HO3 := Lib.hid (own_lowL HB2.out.size o3)
      have HB3 := Lib.hid (next HB2.out b3)
      clear C3 o3 b3
      go_wp2_with fail
      go_ret
      exact ⟨A3, c3, rfl, HO3.out, HB3.out⟩
  · have C := HC.out
    rw [decide_eq_false hO] at C
    replace C := Lib.hid C
    have HS : Hid (setL l x1 x2 = []) := Lib.hid (by rw [setL, if_neg hO])
    rw [HS.out]
    clear hO HC HD HS
    go_enter Try.func33, Try.ntmps33
    go_wp2_with fail
    with_reducible refine C.out.mono ?_
    rintro e w1 ⟨rfl, b1⟩
    clear C
    go_wp2_with fail
    go_ret
    exact ⟨none, 0, rfl, World.ownsRow_nil _ _ _ _, b1⟩
end Go.Proofs.Ytomjdicedjdpnaa
