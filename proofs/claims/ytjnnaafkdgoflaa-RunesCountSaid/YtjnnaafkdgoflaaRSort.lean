/- The library's sort, at ranges by where they begin. -/
import Derived.Test.YtjnnaafkdgoflaaROf
import Derived.Test.YtjnnaafkdgoflaaShelf
namespace Go.Proofs.Ytjnnaafkdgoflaa
open Go.RowKit Go.Shelf

def encR (x : Rg) : List Value := [.int .i64 x.1, .int .i64 x.2]
def cmpR (x y : Rg) : Int := Lib.compareInt x.1 y.1
theorem flat_get (l : List Rg) (j : Nat) (h : j < l.length * 2) : (cR l)[j]? = some ((Go.Sort.flatK encR 2 l.toArray)[j]!) := by
  rw [Go.Sort.get_flatK encR 2 l.toArray j (by simpa using h)]
  have hk := cR_get l (j / 2) (by omega)
  have e : l.toArray[j / 2]! = l.getD (j / 2) (0, 0) := by
    rw [List.getD_eq_getElem?_getD, List.getElem?_eq_getElem (by omega)]
    simp [show j / 2 < l.length by omega]
  rw [e]
  by_cases h2 : j % 2 = 0
  · rw [h2, show j = j / 2 * 2 by omega, hk.1, show j / 2 * 2 / 2 = j / 2 by omega]; rfl
  · rw [show j % 2 = 1 by omega]
    have := hk.2
    rw [show j / 2 * 2 + 1 = j by omega] at this
    rw [this]; rfl
theorem flat_list (l : List Rg) : (Go.Sort.flatK encR 2 l.toArray).toList = cR l := by
  apply List.ext_getElem?
  intro j
  by_cases h : j < l.length * 2
  · rw [flat_get l j h, Array.getElem?_toList, Array.getElem?_eq_getElem (by simpa using h), getElem!_pos _ j (by simpa using h)]
  · rw [List.getElem?_eq_none (by simpa using h), List.getElem?_eq_none (by rw [cR_len]; omega)]
theorem lt_cmp (x y : Rg) : ltOf cmpR x y = decide (x.1 < y.1) := by
  unfold ltOf cmpR Lib.compareInt
  by_cases h1 : x.1 < y.1
  · simp [h1]
  · by_cases h2 : y.1 < x.1 <;> simp [h1, h2]
theorem swo_cmp : Go.Sort.SWO (ltOf cmpR) where
  irrefl x := by rw [lt_cmp]; simp
  trans x y z h1 h2 := by rw [lt_cmp] at *; simp at *; omega
  ntrans x y z h1 h2 := by rw [lt_cmp] at *; simp at *; omega
set_option maxHeartbeats 1000000 in
theorem cmp_any (x y : Rg) (W : World) : Calls Try.prog 29 #[.agg #[.int .i64 x.1, .int .i64 x.2], .agg #[.int .i64 y.1, .int .i64 y.2]] W fun e w' => e = .returned (.int .i64 (cmpR x y)) ∧ ∃ q os', w' = Go.Sort.grow (W.drewN q) os' := by
  have HC := Lib.hid (fun W' => Try.cmp_Compare_int x.1 y.1 W')
  unfold cmpR
  generalize Lib.compareInt x.1 y.1 = r at *
  go_enter Try.func29, Try.ntmps29
  go_wp2_with fail
  with_reducible refine (HC.out _).mono ?_
  rintro e w' ⟨rfl, rfl⟩
  go_wp2_with fail
  go_ret
  exact ⟨rfl, 0, _, by rw [Go.Sort.alloc_eq_grow, Go.Sort.alloc_eq_grow, Go.Sort.grow_grow]; rfl⟩
end Go.Proofs.Ytjnnaafkdgoflaa
