/- LGet: taken over. -/
import Derived.Test.YtomjdicedjdpnaaLEq
namespace Go.Proofs.Ytomjdicedjdpnaa
open Go.RowKit

theorem getL_hit {l : List Lb} {n : ByteArray} {k : Nat} (hk : k < l.length) (h1 : ∀ x ∈ l.take k, x.1 ≠ n) (h2 : (l.getD k noL).1 = n) : getL l n = (l.getD k noL).2 := by
  induction l generalizing k with
  | nil => simp at hk
  | cons x t ih =>
    cases k with
    | zero => simp at h2; simp [getL, h2]
    | succ k =>
      have hx : x.1 ≠ n := h1 x (by simp)
      rw [getL, if_neg hx]
      exact ih (by simpa using hk) (fun y hy => h1 y (by simp [hy])) (by simpa using h2)
theorem getL_none {l : List Lb} {n : ByteArray} (h1 : ∀ x ∈ l, x.1 ≠ n) : getL l n = ByteArray.empty := by
  induction l with
  | nil => rfl
  | cons x t ih => rw [getL, if_neg (h1 x (by simp))]; exact ih fun y hy => h1 y (by simp [hy])
set_option maxRecDepth 100000 in
set_option maxHeartbeats 1000000 in
theorem Get_any (A : Option Addr) (n c : Nat) (l : List Lb) (x : ByteArray) (w : World) (hr : RowL w w.heap.size A n l) (hn : n ≤ 100000000) :
    Calls Try.prog 22 #[.slice A n c, .string x] w fun e w' => e = .returned (.string (getL l x)) ∧ Below w.heap.size w w' := by
  have HL := Lib.hid hr.1
  have HR := Lib.hid hr
  clear hr
  go_enter Try.func22, Try.ntmps22
  go_wp2_with fail
  go_loopw [9] (fun p wr => ∃ k : Nat, k ≤ n ∧ p = .int .i64 (k : Int) ∧ Hid (∀ y ∈ l.take k, y.1 ≠ x) ∧ Below w.heap.size w wr) (fun p _ => n - (intOf p).toNat)
  case atStart => exact ⟨0, by omega, rfl, Lib.hid (by simp), Below.refl _ _⟩
  case round =>
    obtain ⟨k, hk, rfl, HN, hb⟩ := hrel
    by_cases hlt : k < n
    · obtain ⟨b, off, rfl, hbB, hc⟩ := HR.out.2 (by omega)
      obtain ⟨c1, c2⟩ := hc k hlt
      replace c1 := (hb.cell (p := ⟨b, off + k * 2, none⟩) hbB).trans c1
      replace c2 := (hb.cell (p := ⟨b, off + k * 2 + 1, none⟩) hbB).trans c2
      have HK : Hid (k < l.length) := Lib.hid (by rw [HL.out]; exact hlt)
      obtain ⟨y, hy⟩ : ∃ y, l.getD k noL = y := ⟨_, rfl⟩
      rw [hy] at c1 c2
      have HY := Lib.hid hy
      obtain ⟨y1, y2⟩ := y
      dsimp only at c1 c2
      have g0 : (0 : Int) ≤ (k : Int) := by omega
      have g1 : (k : Int) < (n : Int) := by omega
      have f1 : decide ((k : Int) < (n : Int)) = true := decide_eq_true g1
      have HBr := Lib.hid hb
      clear hc hy hb
      by_cases he : y1 = x
      · have e1 := seq_yes he
        have HF : Hid (getL l x = y2) := Lib.hid (by rw [getL_hit HK.out HN.out (by rw [HY.out]; exact he), HY.out])
        clear he
        go_wp2_with fail
        go_ret
        rw [HF.out]
        exact ⟨rfl, HBr.out.alloc HBr.out.size _⟩
      · have e1 := seq_no he
        have HN2 : Hid (∀ y ∈ l.take (k + 1), y.1 ≠ x) := Lib.hid (fun z hz => by
          rw [take_snocL HK.out, HY.out] at hz
          rcases List.mem_append.1 hz with hz | hz
          · exact HN.out z hz
          · rw [List.mem_singleton.1 hz]; exact he)
        clear he
        go_wp2_with fail
        exact ⟨⟨k + 1, hlt, by go_num, HN2, HBr.out.alloc HBr.out.size _⟩, by simp [intOf]; omega⟩
    · have f1 : decide ((k : Int) < (n : Int)) = false := decide_eq_false (by omega)
      have HF : Hid (getL l x = ByteArray.empty) := Lib.hid (getL_none (by have h := HN.out; rwa [List.take_of_length_le (by rw [HL.out]; omega)] at h))
      go_wp2_with fail
      go_ret
      rw [HF.out]
      exact ⟨rfl, hb⟩
theorem chkL_bad {l : List Lb} (h : ¬ (l.length ≤ 16 ∧ Ord l ∧ ∀ x ∈ l, nmS x.1 = true ∧ x.2.size ≤ 256)) : chkL nmS l = 50 := by rw [chkL, if_neg h]
end Go.Proofs.Ytomjdicedjdpnaa
