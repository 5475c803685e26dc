/- SealSwapped, walked. -/
import Derived.Test.YtoodchnjikkkkaaSTurned
namespace Go.Proofs.Ytoodchnjikkkkaa
open Go.RowKit

theorem Below.ad {B : Nat} {w W : World} (h : Below B w W.drew) (hB : B ≤ w.heap.size) (o : Obj) : Below B w (W.alloc o).drew := by
  have h' : Below B w W := ⟨h.os, h.tape, h.output, h.size, h.block⟩
  exact (h'.alloc (Nat.le_trans hB h.size) o).drew
/-- Of, its piece in a block that was laid some time ago. -/
theorem Of_c1 (g : Nat) (A : Option Addr) (n c s B : Nat) (l : List Int) (w : World) (hcell : w.cell? ⟨g, 0, none⟩ = some (.slice A n c)) (hr : Row w B A n (ints .u8 l)) (hu : U8 l) (hm : n ≤ 9223372036854775807) (hs : Hid (sumOf 0 l = s)) :
    Calls Try.prog 11 #[.slice (some ⟨g, 0, none⟩) 1 1] w fun e w' => e = .returned (.int .u32 (s : Int)) ∧ w = w' := by
  have hl := hr.len
  have hR : Row w (g + 1) (some ⟨g, 0, none⟩) 1 [.slice A n c] := ⟨rfl, fun _ => ⟨g, 0, rfl, by omega, fun j hj => by
    obtain rfl : j = 0 := by omega
    exact hcell⟩⟩
  have := Of_eq (some ⟨g, 0, none⟩) 1 (g + 1) B [.slice A n c] [l] w hR (Lists.cons hr (Lists.nil _ _)) (by intro x hx; simp at hx; subst hx; exact hu) (by simp) (by intro x hx; simp at hx; subst hx; omega)
  rwa [show sumsOf [l] = s by simp [sumsOf, hs.out]] at this
theorem swap_sum {l : List Int} {k a b : Nat} (hu : U8 l) (ha : (ints .u8 l)[k]? = some (.int .u8 (a : Int))) (hb : (ints .u8 l)[k + 1]? = some (.int .u8 (b : Int))) : (sumOf 0 ((l.set k (b : Int)).set (k + 1) (a : Int)) = sumOf 0 l) ↔ a = b := by
  unfold sumOf
  rw [nats_set, nats_set]
  exact swap_crc hu.byt (nat_at ha) (nat_at hb)

theorem Row.held {w W : World} {n : Nat} {A : Option Addr} {xs : List Value} {p q : Prop} (h : Row w w.heap.size A n xs) (hS : p ∧ q ∧ Below w.heap.size w W) : Row W w.heap.size A n xs := h.below hS.2.2
theorem swap_end {w3 W W' : World} {b i j : Nat} {u v : Value} {p q : Prop} (hS : p ∧ q ∧ Below w3.heap.size w3 W) (hz : Below W.heap.size W W') (hb3 : b < w3.heap.size) (hu : w3.cell? ⟨b, i, none⟩ = some u) (hv : w3.cell? ⟨b, j, none⟩ = some v) :
    W'.cell? ⟨b, i, none⟩ = some u ∧ W'.cell? ⟨b, j, none⟩ = some v ∧ Below w3.heap.size w3 W' := by
  have hB := next hS.2.2 hz
  exact ⟨(hB.cell hb3).trans hu, (hB.cell hb3).trans hv, hB⟩
set_option maxRecDepth 100000 in
set_option maxHeartbeats 2000000 in
theorem Swapped_walk (A : Option Addr) (l : List Int) (c : Nat) (at' : Int) (w : World) (hr : Row w w.heap.size A l.length (ints .u8 l)) (_hc : l.length ≤ c) (hs : c * 1 ≤ 140737488351232) (hu0 : ∀ x ∈ l, (Lit.int .u8 x).wf = true) (hat : (Lit.int .i64 at').wf = true) :
    Calls Try.prog 8 #[.slice A l.length c, .int .i64 at'] w fun e w' => e = .returned (.bool true) ∧ Below w.heap.size w w' := by
  have hu := u8_of_wf hu0
  by_cases h2 : l.length < 2
  · clear hr hu hu0
    go_enter Try.func8, Try.ntmps8
    go_wp2_with fail
    refine (awake_any w).mono ?_
    rintro e w5 ⟨rfl, h5⟩
    go_wp2
    go_ret
    exact ⟨rfl, h5⟩
  · obtain ⟨b, off, rfl, hbB, hcl⟩ := hr.2 (by omega)
    obtain ⟨n, hn⟩ : ∃ n, l.length = n + 2 := ⟨l.length - 2, by omega⟩
    obtain ⟨k, hk, hkn⟩ : ∃ k : Nat, at' % ((n : Int) + 1) = (k : Int) ∧ k < n + 1 := by
      have h1 := Int.emod_nonneg at' (show ((n : Int) + 1) ≠ 0 by omega)
      have h2 := Int.emod_lt_of_pos at' (show 0 < ((n : Int) + 1) by omega)
      exact ⟨(at' % ((n : Int) + 1)).toNat, by omega, by omega⟩
    have HB : Hid (∀ w, Calls Try.prog 23 #[.int .i64 at', .int .i64 ((n : Int) + 2 - 1)] w fun e w' => e = .returned (.int .i64 (k : Int)) ∧ w = w') := Lib.hid (fun w => by
      rw [show (n : Int) + 2 - 1 = (n : Int) + 1 by omega]
      have := Bring_any at' ((n : Int) + 1) w hat (by omega) (by omega)
      rwa [hk] at this)
    obtain ⟨x, hx, hgx, _⟩ := byte_at hu k (by omega)
    obtain ⟨y, hy, hgy, _⟩ := byte_at hu (k + 1) (by omega)
    have HGX := Lib.hid hgx
    have HGY := Lib.hid hgy
    have HCX := Lib.hid ((hcl k (by omega)).trans hgx)
    have HCY := Lib.hid ((hcl (k + 1) (by omega)).trans hgy)
    have HSW := Lib.hid (swap_sum hu hgx hgy)
    have HR := Lib.hid hr
    have HU := Lib.hid hu
    have HU2 := Lib.hid (u8_set (q := k + 1) (u8_set (q := k) hu hy) hx)
    rw [hn] at HR ⊢
    have hcb : n + 2 ≤ 140737488351232 := by omega
    have hk0 : (0 : Int) ≤ (k : Int) := by omega
    have hk1 : (k : Int) < (n : Int) + 2 := by omega
    have hk2 : (k : Int) + 1 < (n : Int) + 2 := by omega
    have hk3 : (0 : Int) ≤ (k : Int) + 1 := by omega
    have hw : IntKind.i64.wrap ((k : Int) + 1) = (k : Int) + 1 := by rw [IntKind.wrap_i64]; omega
    have hbs : b < w.heap.size := hbB
    clear hcl hgx hgy hr hu hu0 hn h2 hk
    go_enter Try.func8, Try.ntmps8
    go_wp2_with fail
    with_reducible refine (HB.out w).mono ?_
    rintro e w1 ⟨rfl, rfl⟩
    clear HB
    go_wp2_with fail
    refine (CopyBytes_at (some ⟨b, off, none⟩) c _ (n + 2) l w HR.out (Nat.le_refl _) (by omega)).mono ?_
    rintro e w2 ⟨A2, c2, rfl, o2, b2⟩
    obtain ⟨g, cap, hv, hgb, hlt⟩ := o2.form (by omega)
    injection hv with e1 e2 e3
    subst e1; subst e3
    clear e2
    have HO := Lib.hid o2
    have hcx : w2.cell? ⟨b, off + k, none⟩ = some (.int .u8 (x : Int)) := (b2.cell hbs).trans HCX.out
    have hcy : w2.cell? ⟨b, off + (k + 1), none⟩ = some (.int .u8 (y : Int)) := (b2.cell hbs).trans HCY.out
    have hcg0 : w2.cell? ⟨g, k, none⟩ = some (.int .u8 (x : Int)) := (o2.cellAt k (by omega)).trans HGX.out
    have hcg1 : w2.cell? ⟨g, k + 1, none⟩ = some (.int .u8 (y : Int)) := (o2.cellAt (k + 1) (by omega)).trans HGY.out
    have hfz := o2.frozenAt k
    have hfz1 := o2.frozenAt (k + 1)
    have hbg : b ≠ g := by omega
    clear o2
    go_wp2_with fail
    have hO3 : Hid (((w2.setCell ⟨g, k, none⟩ (.int .u8 (y : Int))).setCell ⟨g, k + 1, none⟩ (.int .u8 (x : Int))).ownsRow w.heap.size 5 1 (.slice (some ⟨g, 0, none⟩) (n + 2) c2) (n + 2) (ints .u8 ((l.set k (y : Int)).set (k + 1) (x : Int)))) := Lib.hid (by
      have h1 := ((HO.out.stored k (.int .u8 (y : Int))).1.stored (k + 1) (.int .u8 (x : Int))).1
      rwa [ints_set, ints_set] at h1)
    have hB3 : Below w.heap.size w ((w2.setCell ⟨g, k, none⟩ (.int .u8 (y : Int))).setCell ⟨g, k + 1, none⟩ (.int .u8 (x : Int))) := by
      have g1 := (HO.out.stored k (.int .u8 (y : Int))).2
      have g2 := ((HO.out.stored k (.int .u8 (y : Int))).1.stored (k + 1) (.int .u8 (x : Int))).2
      have b3 := b2.grown g1 b2.size (by simp; omega)
      exact b3.grown g2 b3.size (by simp; omega)
    have hcx3 : ((w2.setCell ⟨g, k, none⟩ (.int .u8 (y : Int))).setCell ⟨g, k + 1, none⟩ (.int .u8 (x : Int))).cell? ⟨b, off + k, none⟩ = some (.int .u8 (x : Int)) := (hB3.cell hbs).trans HCX.out
    have hcy3 : ((w2.setCell ⟨g, k, none⟩ (.int .u8 (y : Int))).setCell ⟨g, k + 1, none⟩ (.int .u8 (x : Int))).cell? ⟨b, off + (k + 1), none⟩ = some (.int .u8 (y : Int)) := (hB3.cell hbs).trans HCY.out
    clear hcx hcy hcg0 hcg1 hfz hfz1 HO b2 hlt
    generalize (w2.setCell ⟨g, k, none⟩ (.int .u8 (y : Int))).setCell ⟨g, k + 1, none⟩ (.int .u8 (x : Int)) = w3 at *
    have hb3 : b < w3.heap.size := Nat.lt_of_lt_of_le hbs hB3.size
    have HX3 := Lib.hid (Row.own hO3.out)
    have HR3 := Lib.hid (HR.out.on hB3)
    have kk : Hid (∀ (W : World) (o : Obj), (W.drew.cell? ⟨b, off + k, none⟩ = some (.int .u8 (x : Int)) ∧ W.drew.cell? ⟨b, off + (k + 1), none⟩ = some (.int .u8 (y : Int)) ∧ Below w3.heap.size w3 W.drew) →
        ((W.alloc o).drew.cell? ⟨b, off + k, none⟩ = some (.int .u8 (x : Int)) ∧ (W.alloc o).drew.cell? ⟨b, off + (k + 1), none⟩ = some (.int .u8 (y : Int)) ∧ Below w3.heap.size w3 (W.alloc o).drew)) := Lib.hid (fun W o h => by
      have hB := Below.ad h.2.2 (Nat.le_refl _) o
      exact ⟨(hB.cell hb3).trans hcx3, (hB.cell hb3).trans hcy3, hB⟩)
    have hhX : Hid (∀ W : World, (W.cell? ⟨b, off + k, none⟩ = some (.int .u8 (x : Int)) ∧ W.cell? ⟨b, off + (k + 1), none⟩ = some (.int .u8 (y : Int)) ∧ Below w3.heap.size w3 W) → Row W w3.heap.size (some ⟨g, 0, none⟩) (n + 2) (ints .u8 ((l.set k (y : Int)).set (k + 1) (x : Int)))) := Lib.hid (fun W h => HX3.out.below h.2.2)
    have hhR : Hid (∀ W : World, (W.cell? ⟨b, off + k, none⟩ = some (.int .u8 (x : Int)) ∧ W.cell? ⟨b, off + (k + 1), none⟩ = some (.int .u8 (y : Int)) ∧ Below w3.heap.size w3 W) → Row W w3.heap.size (some ⟨b, off, none⟩) (n + 2) (ints .u8 l)) := Lib.hid (fun W h => HR3.out.below h.2.2)
    have hend : Hid (∀ W W' : World, (W.cell? ⟨b, off + k, none⟩ = some (.int .u8 (x : Int)) ∧ W.cell? ⟨b, off + (k + 1), none⟩ = some (.int .u8 (y : Int)) ∧ Below w3.heap.size w3 W) → Below W.heap.size W W' → (W'.cell? ⟨b, off + k, none⟩ = some (.int .u8 (x : Int)) ∧ W'.cell? ⟨b, off + (k + 1), none⟩ = some (.int .u8 (y : Int)) ∧ Below w3.heap.size w3 W')) := Lib.hid (fun W W' h hz => swap_end h hz hb3 hcx3 hcy3)
    have HU3 := Lib.hid HU2.out
    obtain ⟨s1, hs1⟩ : ∃ s, sumOf 0 ((l.set k (y : Int)).set (k + 1) (x : Int)) = s := ⟨_, rfl⟩
    obtain ⟨s2, hs2⟩ : ∃ s, sumOf 0 l = s := ⟨_, rfl⟩
    have hsw := HSW.out
    rw [hs1, hs2] at hsw
    have E1 := Lib.hid hs1
    have E2 := Lib.hid hs2
    clear HSW hs1 hs2 hO3
    generalize (l.set k (y : Int)).set (k + 1) (x : Int) = l' at *
    have hn9 : n + 2 ≤ 9223372036854775807 := by omega
    have hS0 : w3.drew.cell? ⟨b, off + k, none⟩ = some (.int .u8 (x : Int)) ∧ w3.drew.cell? ⟨b, off + (k + 1), none⟩ = some (.int .u8 (y : Int)) ∧ Below w3.heap.size w3 w3.drew := ⟨hcx3, hcy3, (Below.refl _ _).drew⟩
    have HS0 := Lib.hid hS0
    clear hS0
    have d : ((((s1 : Int) == (s2 : Int)) = true) ∧ (((x : Int) == (y : Int)) = true)) ∨ ((((s1 : Int) == (s2 : Int)) = false) ∧ (((x : Int) == (y : Int)) = false)) := by
      by_cases hxy : x = y
      · exact .inl ⟨by simp [hsw.2 hxy], by simp [hxy]⟩
      · exact .inr ⟨by simp; intro h; exact hxy (hsw.1 (by omega)), by simp; omega⟩
    clear hsw
    rcases d with ⟨d1, d2⟩ | ⟨d1, d2⟩
    all_goals
      go_region_held3 (fun w' => w'.cell? ⟨b, off + k, none⟩ = some (.int .u8 (x : Int)) ∧ w'.cell? ⟨b, off + (k + 1), none⟩ = some (.int .u8 (y : Int)) ∧ Below w3.heap.size w3 w')
        (first | exact HS0.out | assumption | (refine kk.out _ _ ?_; assumption))
        ((first
          | (go_at_call 11
             first
              | (with_reducible refine (Of_c1 _ (some ⟨g, 0, none⟩) (n + 2) c2 s1 w3.heap.size l' _ ?_ ?_ HU3.out hn9 E1).mono ?_
                 · simp [World.cell?_alloc_at, World.cell?_alloc_past]; done
                 · refine hhX.out _ ?_; assumption
                 rintro e w' ⟨rfl, rfl⟩)
              | (with_reducible refine (Of_c1 _ (some ⟨b, off, none⟩) (n + 2) c s2 w3.heap.size l _ ?_ ?_ HU.out hn9 E2).mono ?_
                 · simp [World.cell?_alloc_at, World.cell?_alloc_past]; done
                 · refine hhR.out _ ?_; assumption
                 rintro e w' ⟨rfl, rfl⟩))
          | (go_at_call 18
             refine (awake_any _).mono ?_
             rintro e wz ⟨rfl, hz⟩
             have hS := hend.out _ wz (by assumption) hz)))
    all_goals
      go_wp2
      go_ret
      exact ⟨rfl, next hB3 hS.2.2⟩
end Go.Proofs.Ytoodchnjikkkkaa
