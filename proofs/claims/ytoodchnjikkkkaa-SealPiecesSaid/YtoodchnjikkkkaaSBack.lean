/- SealBack, walked: what is sealed is cut as it was. -/
import Derived.Test.YtoodchnjikkkkaaSAwake
namespace Go.Proofs.Ytoodchnjikkkkaa
open Go.RowKit

theorem u8_of_wf {l : List Int} (h : ∀ x ∈ l, (Lit.int .u8 x).wf = true) : U8 l := by
  intro x hx
  have := h x hx
  simp [Lit.wf, IntKind.min, IntKind.max, IntKind.bits, IntKind.signed] at this
  omega

set_option maxRecDepth 100000 in
set_option maxHeartbeats 1000000 in
theorem Back_walk (A : Option Addr) (l : List Int) (c : Nat) (w : World) (hr : Row w w.heap.size A l.length (ints .u8 l)) (_hc : l.length ≤ c) (hs : c * 1 ≤ 140737488351232) (hu0 : ∀ x ∈ l, (Lit.int .u8 x).wf = true) :
    Calls Try.prog 7 #[.slice A l.length c] w fun e w' => e = .returned (.bool true) ∧ Below w.heap.size w w' := by
  have hu := u8_of_wf hu0
  have hu2 : U8 (l ++ rowI (sumOf 0 l)) := hu.app (rowI_u8 _)
  have e1 := Lib.hid (And.intro (put_sealedI hu) (And.intro (put_cut hu) (rfl : l.length = l.length)))
  have e2 := put_sealedI hu2
  have e3 := put_cut hu2
  have hx : (l ++ rowI (sumOf 0 l)).length = l.length + 4 := by rw [List.length_append, rowI_len]
  obtain ⟨x, hxe⟩ : ∃ x, x = l ++ rowI (sumOf 0 l) := ⟨_, rfl⟩
  have HP := Lib.hid (fun w hr => Put_at A c w.heap.size l.length l w hr (Nat.le_refl _) hu (by omega))
  rw [← hxe] at e1 e2 e3 hx HP hu2
  have E2 := Lib.hid (And.intro e2 (And.intro e3 hx))
  have HR := Lib.hid hr
  obtain ⟨n, hn⟩ : ∃ n, l.length = n := ⟨_, rfl⟩
  rw [hn] at hx HP HR ⊢ E2
  have E1 : Hid (sealedI x = true ∧ cutOf x = l ∧ l.length = n) := Lib.hid ⟨e1.out.1, e1.out.2.1, hn⟩
  have HU2 := Lib.hid hu2
  have HU0 := Lib.hid hu
  have hnb : n ≤ 140737488351232 := by omega
  clear hxe e1 e2 e3 hr hu0 hu hu2 hx hn
  go_enter Try.func7, Try.ntmps7
  go_wp2_with fail
  refine (HP.out w HR.out).mono ?_
  rintro e w1 ⟨A1, c1, rfl, o1, b1⟩
  have k1 := own_cap o1
  go_wp2_with fail
  refine (Cut_at A1 c1 _ (n + 4) n true x l w1 (Row.own o1) (Nat.le_refl _) HU2.out (by omega) k1.1 k1.2 E1).mono ?_
  rintro e w2 ⟨A2, c2, rfl, o2, h2⟩
  have r2 := Row.own o2
  have b2 := next b1 h2
  clear o1 b1 h2 k1 o2
  go_wp2_with fail
  refine (HP.out w2 (HR.out.on b2)).mono ?_
  rintro e w3 ⟨A3, c3, rfl, o3, h3⟩
  have r3 := Row.own o3
  have b3 := next b2 h3
  have r2' := r2.on h3
  clear r2 b2 h3 o3
  go_wp2_with fail
  refine (Put_at A3 c3 _ (n + 4) x w3 r3 (Nat.le_refl _) HU2.out (by omega)).mono ?_
  rintro e w4 ⟨A4, c4, rfl, o4, h4⟩
  have k4 := own_cap o4
  have r4 := Row.own o4
  have b4 := next b3 h4
  have r2'' := r2'.on h4
  clear r2' b3 h4 r3 o4
  go_wp2_with fail
  refine (Cut_at A4 c4 _ (n + 4 + 4) (n + 4) true (x ++ rowI (sumOf 0 x)) x w4 r4 (Nat.le_refl _) (HU2.out.app (rowI_u8 _)) (by omega) k4.1 k4.2 E2).mono ?_
  rintro e w5 ⟨A5, c5, rfl, o5, h5⟩
  have r5 := Row.own o5
  have b5 := next b4 h5
  have r2 := r2''.on h5
  clear r2'' b4 h5 r4 o5 k4
  go_wp2_with fail
  refine (eq_yes A2 A n n c2 c _ _ l w5 r2 (HR.out.on b5) (by omega)).mono ?_
  rintro e w6 ⟨rfl, h6⟩
  have r5' := r5.on h6
  have b6 := next b5 h6
  clear r2 r5 b5 h6
  go_wp2_with fail
  refine (HP.out w6 (HR.out.on b6)).mono ?_
  rintro e w7 ⟨A7, c7, rfl, o7, h7⟩
  have r7 := Row.own o7
  have r5 := r5'.on h7
  have b7 := next b6 h7
  clear r5' b6 h7 o7
  go_wp2_with fail
  refine (eq_yes A5 A7 (n + 4) (n + 4) c5 c7 _ _ x w7 r5 r7 (by omega)).mono ?_
  rintro e w8 ⟨rfl, h8⟩
  have b8 := next b7 h8
  clear r5 r7 b7 h8
  go_wp2_with fail
  refine (awake_any w8).mono ?_
  rintro e w9 ⟨rfl, h9⟩
  go_wp2
  go_ret
  exact ⟨rfl, next b8 h9⟩
end Go.Proofs.Ytoodchnjikkkkaa
