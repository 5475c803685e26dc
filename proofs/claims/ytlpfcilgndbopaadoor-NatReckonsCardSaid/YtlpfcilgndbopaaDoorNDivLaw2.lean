/- The law NatDivides, of rows of twelve limbs at most. -/
import Derived.Test.YtlpfcilgndbopaaDoorNDivLaw
namespace Go.Proofs.YtlpfcilgndbopaaDoor
open Go.RowKit

theorem divW {f : Nat} {args : Array Value} {w : World} {q r : List Int} {x : Int} (h : Calls Tryd.prog f args w (DivOut w q r x)) :
    Calls Tryd.prog f args w fun e w' => ∃ A m c A' k c', e = .returned (.tuple #[.slice A m c, .slice A' k c', .int .i64 x]) ∧ q.length = m ∧ Row w' w'.heap.size A m (ints .u32 q) ∧ r.length = k ∧ w'.ownsRow w.heap.size 34 1 (.slice A' k c') k (ints .u32 r) ∧ Below w.heap.size w w' := by
  refine h.mono ?_
  rintro e w' ⟨A, c, A', c', rfl, o, o', b⟩
  exact ⟨A, _, c, A', _, c', rfl, rfl, Row.own o, rfl, o', b⟩
theorem outW {f : Nat} {args : Array Value} {w : World} {l : List Int} {x : Int} (h : Calls Tryd.prog f args w (AddOut w l x)) :
    Calls Tryd.prog f args w fun e w' => ∃ A m c, e = .returned (.tuple #[.slice A m c, .int .i64 x]) ∧ l.length = m ∧ w'.ownsRow w.heap.size 34 1 (.slice A m c) m (ints .u32 l) ∧ Below w.heap.size w w' := by
  refine h.mono ?_
  rintro e w' ⟨A, c, rfl, o, b⟩
  exact ⟨A, _, c, rfl, rfl, o, b⟩
theorem own_below {w : World} {base n c : Nat} {A : Option Addr} {xs : List Value} (h : w.ownsRow base 34 1 (.slice A n c) n xs) : ∀ k, (Value.slice A n c).ownBlock = some k → k < w.heap.size := fun k hk => (h.lt k hk).2
/-- One cell of a row that the call owns, set to nought. -/
theorem own_zero {w : World} {base g n c : Nat} {s : List Int} (h : w.ownsRow base 34 1 (.slice (some ⟨g, 0, none⟩) n c) n (ints .u32 s)) (k : Nat) :
    (w.setCell ⟨g, k, none⟩ (.int .u32 0)).ownsRow base 34 1 (.slice (some ⟨g, 0, none⟩) n c) n (ints .u32 (s.set k 0)) ∧ w.grownBy (w.setCell ⟨g, k, none⟩ (.int .u32 0)) (some g) := by
  have := h.stored k (.int .u32 0)
  rw [ints_set32] at this
  exact this

theorem len_le {X : Nat} {l : List Int} (hl : Lim l) (h : l.length ≤ 12) (hX : X ≤ val l) : (limbs X).length ≤ 1000 := by
  refine Nat.le_trans (limbs_len (k := 12) ?_) (by decide)
  exact Nat.lt_of_le_of_lt hX (Nat.lt_of_lt_of_le (val_lt hl) (Nat.pow_le_pow_right (by decide) h))
theorem small_lens {a b : List Int} (ha : a.length ≤ 12) (hb : b.length ≤ 12) (la : Lim a) (lb : Lim b) : (quoL a b).length ≤ 1000 ∧ (restL a b).length ≤ 1000 ∧ (gcdL a b).length ≤ 1000 := by
  refine ⟨?_, ?_, ?_⟩
  · unfold quoL; split
    · exact len_le la ha (Nat.div_le_self _ _)
    · simp
  · unfold restL; split
    · exact len_le la ha (Nat.mod_le _ _)
    · simp
  · unfold gcdL; split
    · rcases Nat.eq_zero_or_pos (val b) with h | h
      · rw [h, Nat.gcd_zero_right]; exact len_le la ha (Nat.le_refl _)
      · exact len_le lb hb (Nat.gcd_le_right _ h)
    · simp
set_option maxRecDepth 100000 in
set_option maxHeartbeats 4000000 in
theorem NatDivides_small (A0 : Option Addr) (l0 : List Int) (c0 : Nat) (A1 : Option Addr) (l1 : List Int) (c1 : Nat) (w : World)
    (hr0 : Row w w.heap.size A0 l0.length (ints .u32 l0)) (hu0 : Lim l0) (hc0 : l0.length ≤ c0) (hs0 : c0 * 4 ≤ 140737488351232)
    (hr1 : Row w w.heap.size A1 l1.length (ints .u32 l1)) (hu1 : Lim l1) (hc1 : l1.length ≤ c1) (hs1 : c1 * 4 ≤ 140737488351232)
    (h0 : l0.length ≤ 12) (h1 : l1.length ≤ 12) (ht : Tab w) :
    Calls Tryd.prog 4 #[.slice A0 l0.length c0, .slice A1 l1.length c1] w fun e w' => e = .returned (.bool true) ∧ Below w.heap.size w w' := by
  have HK0 := Lib.hid (newK _ (Copy_any A0 l0.length c0 _ l0 w hr0 (by omega)) rfl)
  have HK1 := Lib.hid (fun (w' : World) (b : Below w.heap.size w w') => newK _ (Copy_any A1 l1.length c1 _ l1 w' (hr1.on b) (by omega)) rfl)
  have HR0 := Lib.hid (fun (w' : World) (b : Below w.heap.size w w') => hr0.on b)
  have HR1 := Lib.hid (fun (w' : World) (b : Below w.heap.size w w') => hr1.on b)
  have HT := Lib.hid ht
  have HU := Lib.hid (And.intro hu0 hu1)
  have HCc : Hid (c0 ≤ 9223372036854775807 ∧ c1 ≤ 9223372036854775807) := Lib.hid (by omega)
  obtain ⟨n0, hn0⟩ : ∃ n, l0.length = n := ⟨_, rfl⟩
  obtain ⟨n1, hn1⟩ : ∃ n, l1.length = n := ⟨_, rfl⟩
  rw [hn0] at HK0 HR0 h0 hc0 ⊢
  rw [hn1] at HK1 HR1 h1 hc1 ⊢
  have HQl : Hid ((quoL l0 l1).length ≤ 1000 ∧ (restL l0 l1).length ≤ 1000 ∧ (gcdL l0 l1).length ≤ 1000) := Lib.hid (small_lens (by omega) (by omega) HU.out.1 HU.out.2)
  clear hr0 hr1 ht hu0 hu1 hs0 hs1 hn0 hn1
  have hz0 : ¬ (12 : Int) < (n0 : Int) := by omega
  have hz1 : ¬ (12 : Int) < (n1 : Int) := by omega
  obtain ⟨E, hE⟩ : ∃ E, divE l0 l1 = E := ⟨_, rfl⟩
  obtain ⟨G, hG⟩ : ∃ G, chk2 l0 l1 = G := ⟨_, rfl⟩
  have HEG := Lib.hid (And.intro hE hG)
  clear hE hG
  go_enter Tryd.func4, Tryd.ntmps4
  go_wp2_with fail
  with_reducible refine HK0.out.mono ?_
  rintro e w1 ⟨B0, d0, rfl, rx, b1⟩
  go_wp2_with fail
  with_reducible refine (HK1.out w1 b1).mono ?_
  rintro e W ⟨B1, d1, rfl, ry, b2⟩
  replace rx := rx.on b2
  have bW := next b1 b2
  have HX := Lib.hid (fun (w' : World) (b : Below W.heap.size W w') => And.intro (rx.on b) (ry.on b))
  have C := divW (HEG.out.1 ▸ Div_any B0 B1 n0 d0 n1 d1 l0 l1 W rx ry HU.out.1 HU.out.2)
  have HBW := Lib.hid bW
  clear b1 b2 rx ry bW HK0 HK1
  go_wp2_with fail
  with_reducible refine C.mono ?_
  rintro e w3 ⟨Bq, kq, dq, Br, kr, dr, rfl, lq, rq, lr, or', b3⟩
  clear C
  have C := divW (HEG.out.1 ▸ rDiv_any A0 A1 n0 c0 n1 c1 l0 l1 w3 (HR0.out w3 (next HBW.out b3)) (HR1.out w3 (next HBW.out b3)) HU.out.1 HU.out.2 hc0 HCc.out.1 hc1 HCc.out.2)
  go_wp2_with fail
  with_reducible refine C.mono ?_
  rintro e w4 ⟨Bq2, kq2, dq2, Br2, kr2, dr2, rfl, lq2, rq2, lr2, or2, b4⟩
  clear C
  replace rq := rq.on b4
  have or4 := own_on or' b4
  have rr2 := Row.own or2
  have hBr : ∀ k, (Value.slice Br kr dr).ownBlock = some k → k < w4.heap.size := fun k hk => Nat.lt_of_lt_of_le (own_below or' k hk) b4.size
  have b5 := next b3 b4
  clear or' or2
  have C := outW (HEG.out.2 ▸ Gcd_any B0 B1 n0 d0 n1 d1 l0 l1 w4 (HX.out w4 b5).1 (HX.out w4 b5).2 HU.out.1 HU.out.2)
  go_wp2_with fail
  with_reducible refine C.mono ?_
  rintro e w5 ⟨Bg, kg, dg, rfl, lg, og, b6⟩
  clear C
  replace rq := rq.on b6
  replace rq2 := rq2.on b6
  replace rr2 := rr2.on b6
  replace or4 := own_on or4 b6
  have b7 := next b5 b6
  have C := outW (HEG.out.2 ▸ rGcd_any A0 A1 n0 c0 n1 c1 l0 l1 w5 (HR0.out w5 (next HBW.out b7)) (HR1.out w5 (next HBW.out b7)) HU.out.1 HU.out.2 hc0 HCc.out.1 hc1 HCc.out.2)
  go_wp2_with fail
  with_reducible refine C.mono ?_
  rintro e w6 ⟨Bg2, kg2, dg2, rfl, lg2, og2, b8⟩
  clear C
  replace rq := rq.on b8
  replace rq2 := rq2.on b8
  replace rr2 := rr2.on b8
  replace or4 := own_on or4 b8
  replace og := own_on og b8
  have rg2 := Row.own og2
  have b9 := next b7 b8
  clear og2
  have C := eqSame (c := dq) (c' := dq2) rq rq2 (lim_quo _ _) (lq ▸ HQl.out.1)
  go_wp2_with fail
  with_reducible refine C.mono ?_
  rintro e w7 ⟨rfl, b10⟩
  clear C
  replace rr2 := rr2.on b10
  replace or4 := own_on or4 b10
  replace og := own_on og b10
  replace rg2 := rg2.on b10
  have b11 := next b9 b10
  have C := eqSame (c := dr) (c' := dr2) (Row.own or4) rr2 (lim_rest _ _) (lr ▸ HQl.out.2.1)
  go_wp2_with fail
  with_reducible refine C.mono ?_
  rintro e w8 ⟨rfl, b12⟩
  clear C
  replace or4 := own_on or4 b12
  replace og := own_on og b12
  replace rg2 := rg2.on b12
  have b13 := next b11 b12
  have C := eqSame (c := dg) (c' := dg2) (Row.own og) rg2 (lim_gcd _ _) (lg ▸ HQl.out.2.2)
  go_wp2_with fail
  with_reducible refine C.mono ?_
  rintro e w9 ⟨rfl, b14⟩
  clear C
  replace or4 := own_on or4 b14
  replace og := own_on og b14
  have b15 := next b13 b14
  clear b3 b4 b6 b7 b8 b9 b10 b11 b12 b13 b14 rq rq2 rr2 rg2
  have HQ1 := Lib.hid (And.intro lq (And.intro lr (And.intro lg b5)))
  clear lq lr lg lq2 lr2 lg2 b5
  have hkr : kr ≤ 1000 := by have := HQ1.out.2.1; have := HQl.out.2.1; omega
  have hkg : kg ≤ 1000 := by have := HQ1.out.2.2.1; have := HQl.out.2.2; omega
  have HBr := Lib.hid hBr
  have HB5 := Lib.hid HQ1.out.2.2.2
  clear hBr
  go_wp2_with fail
  go_loopw [21] (fun i wr => ∃ (k : Nat) (s : List Int), k ≤ kr ∧ i = .int .i64 k ∧ wr.ownsRow W.heap.size 34 1 (.slice Br kr dr) kr (ints .u32 s) ∧ wr.ownsRow w4.heap.size 34 1 (.slice Bg kg dg) kg (ints .u32 (gcdL l0 l1)) ∧ Below W.heap.size W wr) (fun i _ => kr - (intOf i).toNat)
  case atStart => exact ⟨0, _, Nat.zero_le _, rfl, or4, og, b15⟩
  case round =>
    obtain ⟨k, s, hk, rfl, o1, o2, hb⟩ := hrel
    rename World => wr
    by_cases hlt : k < kr
    · rcases own_forms o1 with ⟨rfl, h0', rfl⟩ | ⟨g, rfl, hbg, hgl⟩
      · omega
      have hfz := o1.frozenAt k
      have hcell := o1.cellAt k (by omega)
      have hl := o1.1
      rw [ints_len, Nat.mul_one] at hl
      rw [ints_get _ _ _ (by omega)] at hcell
      have hS := own_zero o1 k
      have hgB := HBr.out g rfl
      have ho2 := own_apart o2 hS.2 (fun j hj e => by injection e with e; have := (o2.lt j hj).1; omega)
      have hbb := hb.grown hS.2 hb.size (fun j hj => by injection hj with hj; omega)
      have HS := Lib.hid (And.intro hS.1 (And.intro ho2 hbb))
      have hlt' : (k : Int) < (kr : Int) := by omega
      have hk1 : k + 1 ≤ kr := by omega
      clear o1 o2 hb hl hS ho2 hbb
      go_wp2_with fail
      refine ⟨⟨k + 1, _, hk1, by go_num, HS.out.1, HS.out.2.1, HS.out.2.2⟩, ?_⟩
      simp [intOf]
      omega
    · have hnlt : ¬ (k : Int) < (kr : Int) := by omega
      clear or4 og b15 o1
      go_wp2_with fail
      go_loopw [22] (fun i wx => ∃ (k : Nat) (s : List Int), k ≤ kg ∧ i = .int .i64 k ∧ wx.ownsRow w4.heap.size 34 1 (.slice Bg kg dg) kg (ints .u32 s) ∧ Below W.heap.size W wx) (fun i _ => kg - (intOf i).toNat)
      case atStart => exact ⟨0, _, Nat.zero_le _, rfl, o2, hb⟩
      case round =>
        obtain ⟨k', s', hk', rfl, o1, hb⟩ := hrel
        rename World => wx
        by_cases hlt : k' < kg
        · rcases own_forms o1 with ⟨rfl, h0', rfl⟩ | ⟨g, rfl, hbg, hgl⟩
          · omega
          have hfz := o1.frozenAt k'
          have hcell := o1.cellAt k' (by omega)
          have hl := o1.1
          rw [ints_len, Nat.mul_one] at hl
          rw [ints_get _ _ _ (by omega)] at hcell
          have hS := own_zero o1 k'
          have hbb := hb.grown hS.2 hb.size (fun j hj => by injection hj with hj; have := HB5.out.size; omega)
          have HS := Lib.hid (And.intro hS.1 hbb)
          have hlt' : (k' : Int) < (kg : Int) := by omega
          have hk1 : k' + 1 ≤ kg := by omega
          clear o1 hb hl hS hbb
          go_wp2_with fail
          refine ⟨⟨k' + 1, _, hk1, by go_num, HS.out.1, HS.out.2⟩, ?_⟩
          simp [intOf]
          omega
        · have hnlt' : ¬ (k' : Int) < (kg : Int) := by omega
          have C := same_any B0 A0 n0 n0 d0 c0 _ _ l0 l0 wx (HX.out wx hb).1 (HR0.out wx (next HBW.out hb)) (by omega)
          rw [decide_eq_true rfl] at C
          clear o1
          go_wp2_with fail
          with_reducible refine C.mono ?_
          rintro e wy ⟨rfl, c1'⟩
          have hb2 := next hb c1'
          clear C
          have C := same_any B1 A1 n1 n1 d1 c1 _ _ l1 l1 wy (HX.out wy hb2).2 (HR1.out wy (next HBW.out hb2)) (by omega)
          rw [decide_eq_true rfl] at C
          go_wp2_with fail
          with_reducible refine C.mono ?_
          rintro e wz ⟨rfl, c2'⟩
          have hb3 := next hb2 c2'
          clear C
          go_wp2_with fail
          with_reducible refine (works_any wz (HT.out.below (next HBW.out hb3))).mono ?_
          rintro e wf ⟨rfl, c3'⟩
          go_wp2
          go_ret
          exact ⟨rfl, next HBW.out (next hb3 c3')⟩

theorem NatDivides_walk (A0 : Option Addr) (l0 : List Int) (c0 : Nat) (A1 : Option Addr) (l1 : List Int) (c1 : Nat) (w : World)
    (hr0 : Row w w.heap.size A0 l0.length (ints .u32 l0)) (hc0 : l0.length ≤ c0) (hs0 : c0 * 4 ≤ 140737488351232) (hu0 : ∀ x ∈ l0, (Lit.int .u32 x).wf = true)
    (hr1 : Row w w.heap.size A1 l1.length (ints .u32 l1)) (hc1 : l1.length ≤ c1) (hs1 : c1 * 4 ≤ 140737488351232) (hu1 : ∀ x ∈ l1, (Lit.int .u32 x).wf = true) (ht : Tab w) :
    Calls Tryd.prog 4 #[.slice A0 l0.length c0, .slice A1 l1.length c1] w fun e w' => e = .returned (.bool true) ∧ Below w.heap.size w w' := by
  by_cases h : 12 < l0.length ∨ 12 < l1.length
  · exact NatDivides_great A0 l0 c0 A1 l1.length c1 w hr0 (lim_of_wf hu0) h ht
  · exact NatDivides_small A0 l0 c0 A1 l1 c1 w hr0 (lim_of_wf hu0) hc0 hs0 hr1 (lim_of_wf hu1) hc1 hs1 (by omega) (by omega) ht
end Go.Proofs.YtlpfcilgndbopaaDoor
