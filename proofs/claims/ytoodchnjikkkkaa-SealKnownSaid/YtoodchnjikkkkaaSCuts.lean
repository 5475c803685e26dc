/- SealCuts, walked. -/
import Derived.Test.YtoodchnjikkkkaaSTurned
namespace Go.Proofs.Ytoodchnjikkkkaa
open Go.RowKit

theorem rCut_at (A : Option Addr) (c B n k : Nat) (r : Bool) (l o : List Int) (w : World) (hr : Row w B A n (ints .u8 l)) (hB : B ≤ w.heap.size) (hu : U8 l) (hl : n ≤ 150000000000000) (hc : n ≤ c) (hc2 : c ≤ 9223372036854775807)
    (h : Hid (sealedI l = r ∧ cutOf l = o ∧ o.length = k)) :
    Calls Try.prog 20 #[.slice A n c] w fun e w' => ∃ A c, e = .returned (.tuple #[.slice A k c, .bool r]) ∧ w'.ownsRow w.heap.size 5 1 (.slice A k c) k (ints .u8 o) ∧ Below w.heap.size w w' := by
  have hn := hr.len
  subst hn
  have := rCut_any A c B l w hr hB hu (by omega) hc hc2
  unfold CutOut at this
  rw [h.out.1, h.out.2.1, h.out.2.2] at this
  exact this
/-- A row that a call made reads on where an older block is written. -/
theorem Row.apart {w w' w0 : World} {base n : Nat} {A : Option Addr} {c : Nat} {xs : List Value} {row : Option Nat} (h : Row w w.heap.size A n xs) (ho : w0.ownsRow base 5 1 (.slice A n c) n xs) (hg : ∀ g, row = some g → g < base) (hw : w.grownBy w' row) : Row w' w'.heap.size A n xs :=
  ⟨h.1, fun hn => by
    obtain ⟨b, off, e, hb, hc⟩ := h.2 hn
    refine ⟨b, off, e, Nat.lt_of_lt_of_le hb hw.size, fun j hj => (World.cell?_of_block (hw.block b hb (fun e' => ?_))).trans (hc j hj)⟩
    have h1 := (ho.lt b (by rw [e]; rfl)).1
    have h2 := hg b e'.symm
    omega⟩
theorem cutOf_le (l : List Int) : (cutOf l).length ≤ l.length := by
  unfold cutOf
  split
  · rw [List.length_take]; omega
  · simp

set_option maxRecDepth 100000 in
set_option maxHeartbeats 2000000 in
theorem Cuts_walk (A : Option Addr) (l : List Int) (c : Nat) (w : World) (hr : Row w w.heap.size A l.length (ints .u8 l)) (_hc : l.length ≤ c) (hs : c * 1 ≤ 140737488351232) (hu0 : ∀ x ∈ l, (Lit.int .u8 x).wf = true) :
    Calls Try.prog 4 #[.slice A l.length c] w fun e w' => e = .returned (.bool true) ∧ Below w.heap.size w w' := by
  have hu := u8_of_wf hu0
  obtain ⟨n, hn⟩ : ∃ n, l.length = n := ⟨_, rfl⟩
  have hml := cutOf_le l
  obtain ⟨r, hre⟩ : ∃ r, sealedI l = r := ⟨_, rfl⟩
  obtain ⟨o, hoe⟩ : ∃ o, cutOf l = o := ⟨_, rfl⟩
  rw [hoe, hn] at hml
  obtain ⟨m, hme⟩ : ∃ m, o.length = m := ⟨_, rfl⟩
  rw [hme] at hml
  have E := Lib.hid (And.intro hre (And.intro hoe hme))
  rw [hn] at hr _hc ⊢
  have HR := Lib.hid hr
  have HU := Lib.hid hu
  have hnb : n ≤ 140737488351232 := by omega
  have hc9 : c ≤ 9223372036854775807 := by omega
  have hcn := _hc
  have HP := Lib.hid (fun (A : Option Addr) (c : Nat) (w : World) (hr : Row w w.heap.size A n (ints .u8 l)) => Put_at A c w.heap.size n l w hr (Nat.le_refl _) hu (by omega))
  have HRP := Lib.hid (fun (A : Option Addr) (c : Nat) (w : World) (hr : Row w w.heap.size A n (ints .u8 l)) => rPut_at A c w.heap.size n l w hr (Nat.le_refl _) hu (by omega))
  generalize l ++ rowI (sumOf 0 l) = p at *
  clear hr hu hu0 hn hre hoe hme _hc hs
  go_enter Try.func4, Try.ntmps4
  go_wp2_with fail
  with_reducible refine (CopyBytes_at A c _ n l w HR.out (Nat.le_refl _) (by omega)).mono ?_
  rintro e w1 ⟨A1, c1, rfl, o1, b1⟩
  have r1 := Row.own o1
  have k1 := own_cap o1
  have s1 := b1.size
  have O1 := Lib.hid o1
  clear o1
  go_wp2_with fail
  with_reducible refine (Cut_at A1 c1 _ n m r l o w1 r1 (Nat.le_refl _) HU.out (by omega) k1.1 k1.2 E).mono ?_
  rintro e w2 ⟨A2, c2, rfl, o2, h2⟩
  have O2 := Lib.hid o2
  have r2 := Row.own o2
  have b2 := next b1 h2
  have r1' := r1.on h2
  have H2 := Lib.hid h2
  clear o2 r1 b1 h2
  go_wp2_with fail
  with_reducible refine (rCut_at A c _ n m r l o w2 (HR.out.on b2) (Nat.le_refl _) HU.out (by omega) hcn hc9 E).mono ?_
  rintro e w3 ⟨A3, c3, rfl, o3, h3⟩
  have O3 := Lib.hid o3
  have r3 := Row.own o3
  have b3 := next b2 h3
  have r1 := r1'.on h3
  have r2' := r2.on h3
  have H3 := Lib.hid (next H2.out h3)
  have s2 := H2.out.size
  clear o3 r1' r2 b2 h3 H2
  go_wp2_with fail
  with_reducible refine (HP.out A1 c1 w3 r1).mono ?_
  rintro e w4 ⟨A4, c4, rfl, o4, h4⟩
  have O4 := Lib.hid o4
  have r4 := Row.own o4
  have b4 := next b3 h4
  have r1' := r1.on h4
  have r2 := r2'.on h4
  have r3' := r3.on h4
  have s3 := H3.out.size
  have H4 := Lib.hid (next H3.out h4)
  clear o4 r1 r2' r3 b3 h4 H3
  go_wp2_with fail
  with_reducible refine (HRP.out A c w4 (HR.out.on b4)).mono ?_
  rintro e w5 ⟨A5, c5, rfl, o5, h5⟩
  have r5 := Row.own o5
  have b5 := next b4 h5
  have r1 := r1'.on h5
  have r2' := r2.on h5
  have r3 := r3'.on h5
  have r4' := r4.on h5
  have H5 := Lib.hid (next H4.out h5)
  clear o5 r1' r2 r3' r4 b4 h5 H4
  go_wp2_with fail
  with_reducible refine (eq_yes A4 A5 (n + 4) (n + 4) c4 c5 _ _ p w5 r4' r5 (by omega)).mono ?_
  rintro e w6 ⟨rfl, h6⟩
  have b6 := next b5 h6
  have r1' := r1.on h6
  have r2 := r2'.on h6
  have r3' := r3.on h6
  have r4 := r4'.on h6
  have H6 := Lib.hid (next H5.out h6)
  clear r1 r2' r3 r4' r5 b5 h6 H5
  go_wp2_with fail
  with_reducible refine (eq_yes A2 A3 m m c2 c3 _ _ o w6 r2 r3' (by omega)).mono ?_
  rintro e w7 ⟨rfl, h7⟩
  have b7 := next b6 h7
  have r1 := r1'.on h7
  have r2' := r2.on h7
  have r3 := r3'.on h7
  have r4' := r4.on h7
  have H7 := Lib.hid (next H6.out h7)
  clear r1' r2 r3' r4 b6 h7 H6
  cases r
  all_goals
    go_wp2_with fail
    with_reducible refine (eq_yes A1 A n n c1 c _ _ l w7 r1 (HR.out.on b7) (by omega)).mono ?_
    rintro e w8 ⟨rfl, h8⟩
    have b8 := next b7 h8
    have r2 := r2'.on h8
    have r3' := r3.on h8
    have r4 := r4'.on h8
    have H8 := Lib.hid (next H7.out h8)
    clear r1 r2' r3 r4' b7 h8 H7
    go_wp2_with fail
    have o8 : w8.ownsRow w.heap.size 5 1 (.slice A1 n c1) n (ints .u8 l) :=
      O1.out.kept (row := none) ⟨H8.out.os, H8.out.tape, H8.out.output, H8.out.size, fun j hj _ => H8.out.block j hj⟩ (by cases A1 <;> simp [Value.ownBlock])
    have HRow := Lib.hid (And.intro r2 (And.intro r3' r4))
    clear r2 r3' r4 k1
    go_loopw [9] (fun i wr => ∃ (k : Nat) (y : List Int), k ≤ n ∧ i = .int .i64 k ∧ Hid (y.length = n) ∧ wr.ownsRow w.heap.size 5 1 (.slice A1 n c1) n (ints .u8 y) ∧ w8.grownBy wr (Value.slice A1 n c1).ownBlock) (fun i _ => n - (intOf i).toNat)
    case atStart => exact ⟨0, l, by omega, rfl, Lib.hid HR.out.len, o8, World.grownBy.refl _ _⟩
    case round =>
      obtain ⟨k, y, hk, rfl, HY, hown, hgr⟩ := hrel
      rename World => ws
      by_cases hlt : k < n
      · obtain ⟨g, cap, hv, hgb, hlt2⟩ := hown.form (by omega)
        injection hv with e1 e2 e3
        subst e1; subst e3
        have hk0 : (0 : Int) ≤ (k : Int) := by omega
        have hk1 : (k : Int) < (n : Int) := by omega
        have hcell := (hown.cellAt k (by omega)).trans (ints_get .u8 y k (by have := HY.out; omega))
        obtain ⟨z, hz⟩ : ∃ z, y.getD k 0 = z := ⟨_, rfl⟩
        rw [hz] at hcell
        have hfz := hown.frozenAt k
        have HOwn := Lib.hid hown
        clear hown hz
        go_wp2_with fail
        refine ⟨⟨k + 1, y.set k (bits .xor .u8 z 255), by omega, by go_num, Lib.hid (by rw [List.length_set]; exact HY.out), by rw [← ints_set]; exact (HOwn.out.stored k _).1, hgr.trans (HOwn.out.stored k _).2⟩, by simp [intOf]; omega⟩
      · have hrow := HRow.out
        have hlt1 : ∀ g, (Value.slice A1 n c1).ownBlock = some g → g < w1.heap.size := fun g hg => (O1.out.lt g hg).2
        have hge1 : ∀ g, (Value.slice A1 n c1).ownBlock = some g → w.heap.size ≤ g := fun g hg => (O1.out.lt g hg).1
        have q2 := hrow.1.apart O2.out hlt1 hgr
        have q3' := hrow.2.1.apart O3.out (fun g hg => by have := hlt1 g hg; omega) hgr
        have q4 := hrow.2.2.apart O4.out (fun g hg => by have := hlt1 g hg; omega) hgr
        have b9 : Below w.heap.size w ws := b8.grown hgr b8.size hge1
        clear hgr hown hrow hlt1 hge1 b8
        go_wp2_with fail
        with_reducible refine (HRP.out A c ws (HR.out.on b9)).mono ?_
        rintro e w10 ⟨A6, c6, rfl, o6, h10⟩
        have r6 := Row.own o6
        have b10 := next b9 h10
        have p2 := q2.on h10
        have p3 := q3'.on h10
        have p4 := q4.on h10
        clear o6 q2 q3' q4 b9 h10
        go_wp2_with fail
        with_reducible refine (eq_yes A4 A6 (n + 4) (n + 4) c4 c6 _ _ p w10 p4 r6 (by omega)).mono ?_
        rintro e w11 ⟨rfl, h11⟩
        have b11 := next b10 h11
        have q2 := p2.on h11
        have q3 := p3.on h11
        clear p2 p3 p4 r6 b10 h11
        go_wp2_with fail
        with_reducible refine (eq_yes A2 A3 m m c2 c3 _ _ o w11 q2 q3 (by omega)).mono ?_
        rintro e w12 ⟨rfl, h12⟩
        have b12 := next b11 h12
        clear q2 q3 b11 h12
        go_wp2_with fail
        with_reducible refine (awake_any w12).mono ?_
        rintro e w13 ⟨rfl, h13⟩
        go_wp2
        go_ret
        exact ⟨rfl, next b12 h13⟩
end Go.Proofs.Ytoodchnjikkkkaa
