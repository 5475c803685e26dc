/- SealPieces: the calls, their pieces in rows. -/
import Derived.Test.YtoodchnjikkkkaaSCalls
namespace Go.Proofs.Ytoodchnjikkkkaa
open Go.RowKit

theorem Row.made (w : World) (e : TypeId) (vs : List Value) : Row (w.alloc (.cells vs.toArray e)) (w.alloc (.cells vs.toArray e)).heap.size (some ⟨w.heap.size, 0, none⟩) vs.length vs := by
  refine ⟨rfl, fun _ => ⟨w.heap.size, 0, rfl, by rw [World.size_alloc]; omega, fun j hj => ?_⟩⟩
  rw [World.cell?_alloc_at _ _ _ _ (by simp)]
  simp
theorem Row.takeV {w : World} {B n k : Nat} {A : Option Addr} {xs : List Value} (h : Row w B A n xs) (hk : k ≤ n) : Row w B A k (xs.take k) := by
  refine ⟨by rw [List.length_take, h.1]; omega, fun h0 => ?_⟩
  obtain ⟨b, off, e, hb, hc⟩ := h.2 (by omega)
  refine ⟨b, off, e, hb, fun j hj => ?_⟩
  rw [List.getElem?_take, if_pos hj, hc j (by omega)]
theorem Row.droppedAll {w : World} {B b off n k : Nat} {l : List Int} (h : Row w B (some ⟨b, off, none⟩) n (ints .u8 l)) (hk : k ≤ n) : Row w B (some ⟨b, off + k, none⟩) (n - k) (ints .u8 (l.drop k)) := by
  rcases Nat.lt_or_ge k n with h1 | h1
  · have := h.dropped k h1
    rwa [ints_drop] at this
  · have hl := h.len
    rw [show n - k = 0 by omega, List.drop_eq_nil_of_le (by omega)]
    exact Row.zero _ _ _
section
variable {B' : Nat}
theorem Of_r1 (G : Option Addr) (A : Option Addr) (n c s B : Nat) (l : List Int) (w : World) (hR : Row w B' G 1 [.slice A n c]) (hr : Row w B A n (ints .u8 l)) (hu : U8 l) (hm : n ≤ 9223372036854775807) (hs : Hid (sumOf 0 l = s)) :
    Calls Try.prog 11 #[.slice G 1 1] w fun e w' => e = .returned (.int .u32 (s : Int)) ∧ w = w' := by
  have hl := hr.len
  have := Of_eq G 1 B' B [.slice A n c] [l] w hR (Lists.cons hr (Lists.nil _ _)) (by intro x hx; simp at hx; subst hx; exact hu) (by simp) (by intro x hx; simp at hx; subst hx; omega)
  rwa [show sumsOf [l] = s by simp [sumsOf, hs.out]] at this
theorem Of_r2 (G : Option Addr) (A A2 : Option Addr) (n c n2 c2 s B : Nat) (l l2 : List Int) (w : World) (hR : Row w B' G 2 [.slice A n c, .slice A2 n2 c2]) (hr : Row w B A n (ints .u8 l)) (hr2 : Row w B A2 n2 (ints .u8 l2)) (hu : U8 l) (hu2 : U8 l2) (hm : n ≤ 9223372036854775807) (hm2 : n2 ≤ 9223372036854775807) (hs : Hid (sumOf 0 (l ++ l2) = s)) :
    Calls Try.prog 11 #[.slice G 2 2] w fun e w' => e = .returned (.int .u32 (s : Int)) ∧ w = w' := by
  have hl := hr.len
  have hl2 := hr2.len
  have := Of_eq G 2 B' B [.slice A n c, .slice A2 n2 c2] [l, l2] w hR (Lists.cons hr (Lists.cons hr2 (Lists.nil _ _))) (by intro x hx; simp at hx; rcases hx with rfl | rfl; exact hu; exact hu2) (by simp) (by intro x hx; simp at hx; rcases hx with rfl | rfl <;> omega)
  rwa [show sumsOf [l, l2] = s by simp only [sumsOf, List.flatten_cons, List.flatten_nil, List.append_nil]; exact hs.out] at this
theorem Of_r3 (G : Option Addr) (A : Option Addr) (n c s B : Nat) (l : List Int) (w : World) (hR : Row w B' G 3 [.slice none 0 0, .slice A n c, .slice none 0 0]) (hr : Row w B A n (ints .u8 l)) (hu : U8 l) (hm : n ≤ 9223372036854775807) (hs : Hid (sumOf 0 l = s)) :
    Calls Try.prog 11 #[.slice G 3 3] w fun e w' => e = .returned (.int .u32 (s : Int)) ∧ w = w' := by
  have hl := hr.len
  have h0 : ∀ x ∈ [[], l, []], U8 x := by intro x hx; simp at hx; rcases hx with rfl | rfl | rfl; exact U8.nil; exact hu; exact U8.nil
  have := Of_eq G 3 B' B [.slice none 0 0, .slice A n c, .slice none 0 0] [[], l, []] w hR (Lists.cons (Row.zero _ _ _) (Lists.cons hr (Lists.cons (Row.zero _ _ _) (Lists.nil _ _)))) h0 (by simp) (by intro x hx; simp at hx; rcases hx with rfl | rfl | rfl <;> first | (simp; done) | omega)
  rwa [show sumsOf [[], l, []] = s by simp [sumsOf, hs.out]] at this
end
theorem On_at (s r : Nat) (A : Option Addr) (c n B : Nat) (l : List Int) (w : World) (hr : Row w B A n (ints .u8 l)) (hu : U8 l) (hs : s < 4294967296) (hl : n ≤ 9223372036854775807) (he : Hid (sumOf s l = r)) :
    Calls Try.prog 13 #[.int .u32 (s : Int), .slice A n c] w fun e w' => e = .returned (.int .u32 (r : Int)) ∧ w = w' := by
  have hn := hr.len
  subst hn
  have := On_eq s A c B l w hr hu hs hl
  rwa [he.out] at this
theorem On_zero (r : Nat) (A : Option Addr) (c n B : Nat) (l : List Int) (w : World) (hr : Row w B A n (ints .u8 l)) (hu : U8 l) (hl : n ≤ 9223372036854775807) (he : Hid (sumOf 0 l = r)) :
    Calls Try.prog 13 #[.int .u32 0, .slice A n c] w fun e w' => e = .returned (.int .u32 (r : Int)) ∧ w = w' := On_at 0 r A c n B l w hr hu (by omega) hl he
end Go.Proofs.Ytoodchnjikkkkaa
