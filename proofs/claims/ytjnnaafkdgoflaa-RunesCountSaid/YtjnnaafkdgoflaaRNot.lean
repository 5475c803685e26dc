/- Not: what lies between. -/
import Derived.Test.YtjnnaafkdgoflaaROf
namespace Go.Proofs.Ytjnnaafkdgoflaa
open Go.RowKit

/-- What lies between the ranges of pre, up to nx. -/
def NSt (pre out : List Rg) (nx : Int) : Prop := Vl out ∧ (∀ y ∈ out, y.2 + 2 ≤ nx) ∧ 0 ≤ nx ∧ nx ≤ 1114112 ∧ (∀ y ∈ pre, y.2 < nx) ∧ ∀ n, inR out n ↔ 0 ≤ n ∧ n < nx ∧ ¬ inR pre n
theorem NSt.start : NSt [] [] 0 := ⟨Vl.nil, fun y h => (by cases h), by omega, by omega, fun y h => (by cases h), fun n => ⟨fun h => absurd h (inR_nil n), fun h => by omega⟩⟩
theorem NSt.skip {pre out : List Rg} {nx : Int} {x : Rg} (h : NSt pre out nx) (hx : 0 ≤ x.1 ∧ x.1 ≤ x.2 ∧ x.2 ≤ 1114111) (h2 : x.1 = nx) : NSt (pre ++ [x]) out (x.2 + 1) := by
  obtain ⟨hv, hy, h0, h9, hp, hn⟩ := h
  refine ⟨hv, fun y k => by have := hy y k; omega, by omega, by omega, fun y k => ?_, fun n => ?_⟩
  · rcases List.mem_append.1 k with k | k
    · have := hp y k; omega
    · rw [List.mem_singleton.1 k]; omega
  · rw [hn, inR_snoc]
    constructor
    · rintro ⟨k0, k1, k2⟩
      exact ⟨k0, by omega, fun k => k.elim k2 (fun k => by omega)⟩
    · rintro ⟨k0, k1, k2⟩
      refine ⟨k0, ?_, fun k => k2 (.inl k)⟩
      exact Int.not_le.1 fun k => k2 (.inr ⟨by omega, by omega⟩)
theorem NSt.gap {pre out : List Rg} {nx : Int} {x : Rg} (h : NSt pre out nx) (hx : 0 ≤ x.1 ∧ x.1 ≤ x.2 ∧ x.2 ≤ 1114111) (h2 : nx < x.1) : NSt (pre ++ [x]) (out ++ [(nx, x.1 - 1)]) (x.2 + 1) := by
  obtain ⟨hv, hy, h0, h9, hp, hn⟩ := h
  have hno : ∀ n, nx ≤ n → ¬ inR pre n := fun n k ⟨y, hy', k1, k2⟩ => by have := hp y hy'; omega
  refine ⟨hv.snoc (by dsimp only; omega) (fun y k => by have := hy y k; dsimp only; omega), fun y k => ?_, by omega, by omega, fun y k => ?_, fun n => ?_⟩
  · rcases List.mem_append.1 k with k | k
    · have := hy y k; omega
    · rw [List.mem_singleton.1 k]; dsimp only; omega
  · rcases List.mem_append.1 k with k | k
    · have := hp y k; omega
    · rw [List.mem_singleton.1 k]; omega
  · rw [inR_snoc, inR_snoc, hn]
    dsimp only
    constructor
    · rintro (⟨k0, k1, k2⟩ | ⟨k1, k2⟩)
      · exact ⟨k0, by omega, fun k => k.elim k2 (fun k => by omega)⟩
      · exact ⟨by omega, by omega, fun k => k.elim (hno n k1) (fun k => by omega)⟩
    · rintro ⟨k0, k1, k2⟩
      by_cases c1 : n < nx
      · exact .inl ⟨k0, c1, fun k => k2 (.inl k)⟩
      · refine .inr ⟨by omega, ?_⟩
        have : ¬ (x.1 ≤ n) := fun k => k2 (.inr ⟨k, by omega⟩)
        omega
theorem NSt.none {pre out : List Rg} {nx : Int} (h : NSt pre out nx) (h2 : 1114111 < nx) : Of (fun n => isRn n ∧ ¬ inR pre n) out :=
  ⟨h.1, fun n => (h.2.2.2.2.2 n).trans ⟨fun k => ⟨⟨k.1, by have := k.2.1; have := h.2.2.2.1; omega⟩, k.2.2⟩, fun k => ⟨k.1.1, by have := k.1.2; omega, k.2⟩⟩⟩
theorem NSt.rest {pre out : List Rg} {nx : Int} (h : NSt pre out nx) (h2 : nx ≤ 1114111) : Of (fun n => isRn n ∧ ¬ inR pre n) (out ++ [(nx, 1114111)]) := by
  obtain ⟨hv, hy, h0, h9, hp, hn⟩ := h
  have hno : ∀ n, nx ≤ n → ¬ inR pre n := fun n k ⟨y, hy', k1, k2⟩ => by have := hp y hy'; omega
  refine ⟨hv.snoc (by dsimp only; omega) (fun y k => hy y k), fun n => ?_⟩
  rw [inR_snoc, hn]
  dsimp only
  constructor
  · rintro (⟨k0, k1, k2⟩ | ⟨k1, k2⟩)
    · exact ⟨⟨k0, by omega⟩, k2⟩
    · exact ⟨⟨by omega, by omega⟩, hno n k1⟩
  · rintro ⟨⟨k0, k1⟩, k2⟩
    by_cases c1 : n < nx
    · exact .inl ⟨k0, c1, k2⟩
    · exact .inr ⟨by omega, by omega⟩
end Go.Proofs.Ytjnnaafkdgoflaa
