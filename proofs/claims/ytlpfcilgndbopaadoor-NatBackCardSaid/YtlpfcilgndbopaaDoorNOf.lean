/- nat.Of, the document's Of; bits.Add32. -/
import Derived.Test.YtlpfcilgndbopaaDoorNCopy
namespace Go.Proofs.YtlpfcilgndbopaaDoor
open Go.RowKit

/-- What is owned, cut to its first elements, is owned. -/
theorem own_cut {w : World} {base g n cap k : Nat} {e : TypeId} {xs : List Value} (h : w.ownsRow base e 1 (.slice (some ⟨g, 0, none⟩) n cap) n xs) (hk : k ≤ n) : w.ownsRow base e 1 (.slice (some ⟨g, 0, none⟩) k cap) k (xs.take k) := by
  rcases h.2 with ⟨e0, _⟩ | ⟨g', cap', cur, e0, hb, hg, hn, hm, hs, ht⟩
  · cases e0
  · injection e0 with e1 _ e3
    injection e1 with e1
    injection e1 with e1
    subst e1; subst e3
    have hl := h.1
    refine ⟨by rw [List.length_take]; omega, .inr ⟨g, cap, cur, rfl, hb, hg, by omega, hm, hs, ?_⟩⟩
    rw [← ht, List.take_take, Nat.mul_one, Nat.mul_one, Nat.min_eq_left hk]

/-- trim, of what the call itself has made. -/
theorem trim_new (g n c : Nat) (a : List Int) (w0 w : World) (hown : w.ownsRow w0.heap.size 34 1 (.slice (some ⟨g, 0, none⟩) n c) n (ints .u32 a)) (hb : Below w0.heap.size w0 w) (hlim : Lim a) (hn : n ≤ c) (hc : c ≤ 9223372036854775807) :
    Calls Tryd.prog 45 #[.slice (some ⟨g, 0, none⟩) n c] w (New w0 (limbs (val a))) := by
  have hl := hown.1
  rw [ints_len, Nat.mul_one] at hl
  refine (trim_any g 0 n c w.heap.size a w (Row.own hown) hlim (by omega) hn hc).mono ?_
  rintro e w' ⟨rfl, ht, rfl⟩
  have hk : (limbs (val a)).length ≤ n := by
    have := congrArg List.length ht
    rw [List.length_take] at this
    omega
  refine ⟨_, c, rfl, ?_, hb⟩
  have := own_cut hown hk
  rw [ints_take, ← ht] at this
  exact this

theorem Add32_any (x y z : Int) (w : World) (hx : 0 ≤ x ∧ x ≤ 4294967295) (hy : 0 ≤ y ∧ y ≤ 4294967295) (hz : 0 ≤ z ∧ z ≤ 1) :
    Calls Tryd.prog 43 #[.int .u32 x, .int .u32 y, .int .u32 z] w fun e w' => e = .returned (.tuple #[.int .u32 ((x + y + z) % 4294967296), .int .u32 ((x + y + z) / 4294967296)]) ∧ w = w' := by
  obtain ⟨hx0, hx1⟩ := hx
  obtain ⟨hy0, hy1⟩ := hy
  obtain ⟨hz0, hz1⟩ := hz
  go_enter Tryd.func43, Tryd.ntmps43
  go_wp2
  go_ret2
  exact ⟨rfl, rfl⟩

theorem val_two (x y : Int) : val [x, y] = x.toNat + 4294967296 * y.toNat := by simp [val]
theorem own_low {w : World} {base base' size n : Nat} {e : TypeId} {v : Value} {xs : List Value} (h : w.ownsRow base e size v n xs) (hb : base' ≤ base) : w.ownsRow base' e size v n xs := by
  refine ⟨h.1, ?_⟩
  rcases h.2 with h0 | ⟨g, cap, cur, h1, h2, h3⟩
  · exact .inl h0
  · exact .inr ⟨g, cap, cur, h1, Nat.le_trans hb h2, h3⟩
theorem New.from {w w1 w' : World} {l : List Int} {e : Ending} (hb : Below w.heap.size w w1) (h : New w1 l e w') : New w l e w' := by
  obtain ⟨A, c, he, hown, hb'⟩ := h
  exact ⟨A, c, he, own_low hown hb.size, next hb hb'⟩
theorem two_val {n : Int} (h0 : 0 ≤ n) : val [n % 4294967296, n / 4294967296] = n.toNat := by rw [val_two]; omega
theorem two_lim {n : Int} (h0 : 0 ≤ n) (h1 : n ≤ 18446744073709551615) : Lim [n % 4294967296, n / 4294967296] := by
  intro x hx
  simp only [List.mem_cons, List.not_mem_nil, or_false] at hx
  rcases hx with rfl | rfl <;> omega
theorem Of_any (n : Int) (w : World) (h0 : 0 ≤ n) (h1 : n ≤ 18446744073709551615) :
    Calls Tryd.prog 22 #[.int .u64 n] w (New w (limbs n.toNat)) := by
  have HV := Lib.hid (two_val h0)
  have HL := Lib.hid (two_lim h0 h1)
  go_enter Tryd.func22, Tryd.ntmps22
  go_wp2_with fail
  refine (trim_new w.heap.size 2 2 [n % 4294967296, n / 4294967296] w _ (World.ownsRow_lit (size := 1) w #[_, _] 2 (Nat.le_refl _) (by decide) rfl) ((Below.refl _ _).alloc (Nat.le_refl _) _) HL.out (by decide) (by decide)).mono ?_
  rw [HV.out]
  rintro e w' ⟨A, c, rfl, hown, hb⟩
  go_wp2
  go_ret
  exact ⟨A, c, rfl, hown, hb⟩
theorem rOf_any (n : Int) (w : World) (h0 : 0 ≤ n) (h1 : n ≤ 18446744073709551615) :
    Calls Tryd.prog 23 #[.int .u64 n] w (New w (limbs n.toNat)) := by
  have HV := Lib.hid (two_val h0)
  have HL := Lib.hid (two_lim h0 h1)
  go_enter Tryd.func23, Tryd.ntmps23
  go_wp2_with fail
  refine (rtrim_any _ 2 2 _ [n % 4294967296, n / 4294967296] _ (Row.lit w .u32 [n % 4294967296, n / 4294967296] _) HL.out (by decide) (by decide) (by decide)).mono ?_
  rw [HV.out]
  rintro e w' hN
  obtain ⟨A, c, rfl, hown, hb⟩ := New.from ((Below.refl _ _).alloc (Nat.le_refl _) _) hN
  go_wp2
  go_ret
  exact ⟨A, c, rfl, hown, hb⟩
end Go.Proofs.YtlpfcilgndbopaaDoor
