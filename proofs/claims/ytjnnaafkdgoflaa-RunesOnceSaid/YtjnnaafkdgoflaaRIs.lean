/- The law's is: are these a set's ranges? -/
import Derived.Test.YtjnnaafkdgoflaaRCat
namespace Go.Proofs.Ytjnnaafkdgoflaa
open Go.RowKit

def flatZ : List Rg → List Int
  | [] => []
  | x :: t => x.1 :: x.2 :: flatZ t
theorem flatZ_len : ∀ l, (flatZ l).length = l.length * 2
  | [] => rfl
  | x :: t => by simp only [flatZ, List.length_cons, flatZ_len t]; omega
theorem flatZ_get : ∀ (l : List Rg) (j : Nat), j < l.length → (ints .i64 (flatZ l))[j * 2]? = some (.int .i64 (l.getD j (0, 0)).1) ∧ (ints .i64 (flatZ l))[j * 2 + 1]? = some (.int .i64 (l.getD j (0, 0)).2)
  | [], j, h => by simp at h
  | x :: t, 0, _ => ⟨rfl, rfl⟩
  | x :: t, j + 1, h => by
    have := flatZ_get t j (by simpa using h)
    rw [show (j + 1) * 2 = j * 2 + 1 + 1 by omega]
    exact this
set_option maxRecDepth 100000 in
set_option maxHeartbeats 4000000 in
theorem is_any (A A' : Option Addr) (n m c c' : Nat) (s : List Rg) (w : World) (hr : RowR w w.heap.size A n s) (hs : Row w w.heap.size A' m (ints .i64 (flatZ s))) (hn : n ≤ 100000000) :
    Calls Try.prog 35 #[.slice A n c, .slice A' m c'] w fun e w' => e = .returned (.bool true) ∧ Below w.heap.size w w' := by
  have hm : m = n * 2 := by have := hs.1; rw [ints_len, flatZ_len, hr.1] at this; omega
  have HL := Lib.hid hr.1
  have HR := Lib.hid hr
  have HS := Lib.hid hs
  have w0 : IntKind.i64.wrap (2 * (n : Int)) = (m : Int) := by rw [show (m : Int) = 2 * (n : Int) by omega]; exact wrap_ok (by omega) (by omega)
  have b0 : ((m : Int) == (m : Int)) = true := beq_self_eq_true _
  have HM := Lib.hid hm
  have hmn : 2 * n ≤ m := by omega
  clear hr hs hm
  go_enter Try.func35, Try.ntmps35
  go_wp2_with fail
  go_loopw [5] (fun p wr => ∃ i : Nat, i ≤ n ∧ p = .int .i64 (i : Int) ∧ Below w.heap.size w wr) (fun p _ => n - (intOf p).toNat)
  case atStart => exact ⟨0, by omega, rfl, Below.refl _ _⟩
  case round =>
    obtain ⟨i, hi, rfl, hb⟩ := hrel
    by_cases hlt : i < n
    · obtain ⟨b, off, rfl, hbB, hc⟩ := HR.out.2 (by omega)
      obtain ⟨b', off', rfl, hbB', hc'⟩ := HS.out.2 (by omega)
      obtain ⟨c1, c2⟩ := hc i hlt
      obtain ⟨k, hk⟩ : ∃ k, i * 2 = k := ⟨_, rfl⟩
      obtain ⟨k1, hk1⟩ : ∃ k1, k + 1 = k1 := ⟨_, rfl⟩
      have hg := flatZ_get s i (by rw [HL.out]; exact hlt)
      rw [hk, hk1] at hg
      have d1 := (hc' k (by omega)).trans hg.1
      have d2 := (hc' k1 (by omega)).trans hg.2
      clear hg
      replace c1 := (hb.cell (p := ⟨b, off + i * 2, none⟩) hbB).trans c1
      replace c2 := (hb.cell (p := ⟨b, off + i * 2 + 1, none⟩) hbB).trans c2
      replace d1 := (hb.cell (p := ⟨b', off' + k, none⟩) hbB').trans d1
      replace d2 := (hb.cell (p := ⟨b', off' + k1, none⟩) hbB').trans d2
      obtain ⟨x, hx⟩ : ∃ x, s.getD i (0, 0) = x := ⟨_, rfl⟩
      rw [hx] at c1 c2 d1 d2
      obtain ⟨x1, x2⟩ := x
      dsimp only at c1 c2 d1 d2
      have e1 : (x1 == x1) = true := beq_self_eq_true _
      have e2 : (x2 == x2) = true := beq_self_eq_true _
      have g0 : (0 : Int) ≤ (i : Int) := by omega
      have g1 : (i : Int) < (n : Int) := by omega
      have g2 : (0 : Int) ≤ (k : Int) := by omega
      have g3 : (k : Int) < (m : Int) := by omega
      have g4 : (0 : Int) ≤ (k1 : Int) := by omega
      have g5 : (k1 : Int) < (m : Int) := by omega
      have f1 : decide ((i : Int) < (n : Int)) = true := decide_eq_true g1
      have w2 : IntKind.i64.wrap (2 * (i : Int)) = (k : Int) := by rw [show (k : Int) = 2 * (i : Int) by omega]; exact wrap_ok (by omega) (by omega)
      have w3 : IntKind.i64.wrap ((k : Int) + 1) = (k1 : Int) := by rw [show (k1 : Int) = (k : Int) + 1 by omega]; exact wrap_ok (by omega) (by omega)
      have HBr := Lib.hid hb
      clear hc hc' hx hb hk hk1
      go_wp2_with fail
      go_quiet (fail)
      go_wp2_with fail
      exact ⟨⟨i + 1, by omega, by go_num, Below.dn HBr.out _⟩, by simp [intOf]; omega⟩
    · have f1 : decide ((i : Int) < (n : Int)) = false := decide_eq_false (by omega)
      go_wp2_with fail
      go_ret
      exact ⟨rfl, hb⟩
end Go.Proofs.Ytjnnaafkdgoflaa
