/- Size, the program's and the document's. -/
import Derived.Test.YtjnnaafkdgoflaaROf
namespace Go.Proofs.Ytjnnaafkdgoflaa
open Go.RowKit

theorem Vl.take {l : List Rg} (h : Vl l) (i : Nat) : Vl (l.take i) := ⟨fun x hx => h.1 x (List.mem_of_mem_take hx), h.2.sublist (List.take_sublist _ _)⟩
theorem cnt_le (p : Int → Bool) : ∀ n, cnt p n ≤ n
  | 0 => Nat.le_refl _
  | n + 1 => by
    have := cnt_le p n
    simp only [cnt]
    split <;> omega
theorem size_bound {l : List Rg} (h : Vl l) : 0 ≤ sizeR l ∧ sizeR l ≤ 1114112 := by
  have := cnt_le (fun i => decide (inR l i)) 1114112
  rw [size_cnt h]
  omega
theorem size_next {l : List Rg} {i : Nat} {x1 x2 : Int} (hi : i < l.length) (hx : l.getD i (0, 0) = (x1, x2)) : sizeR (l.take (i + 1)) = sizeR (l.take i) + (x2 - x1 + 1) := by
  rw [take_snocR hi, hx, sizeR_snoc]
/-- How many runes. -/
def SizeOut (w : World) (S : Int → Prop) (e : Ending) (w' : World) : Prop := ∃ l, Of S l ∧ e = .returned (.int .i64 (sizeR l)) ∧ Below w.heap.size w w'
set_option maxRecDepth 100000 in
set_option maxHeartbeats 4000000 in
theorem rSize_any (A : Option Addr) (n c : Nat) (l : List Rg) (w : World) (hr : RowR w w.heap.size A n l) (hn : n ≤ 100000000) :
    Calls Try.prog 19 #[.slice A n c] w (SizeOut w (has l)) := by
  have HC := Lib.hid (rOf_any A n c l w hr (by omega))
  clear hr
  go_enter Try.func19, Try.ntmps19
  go_wp2_with fail
  with_reducible refine HC.out.mono ?_
  rintro e w2 ⟨A1, c1, P, rfl, hP, o1, b1⟩
  have HR2 := Lib.hid (RowR.own o1)
  have HB2 := Lib.hid b1
  have hsh := hP.1.short
  have HP := Lib.hid hP
  obtain ⟨m, hm⟩ : ∃ m, P.length = m := ⟨_, rfl⟩
  rw [hm] at HR2 hsh ⊢
  have HM := Lib.hid hm
  clear HC hP o1 b1 hm
  go_wp2_with fail
  go_loopw [3, 5] (fun q p wr => ∃ (i : Nat) (z : Int), i ≤ m ∧ p = .int .i64 (i : Int) ∧ q = .int .i64 z ∧ Hid (sizeR (P.take i) = z) ∧ Below w2.heap.size w2 wr) (fun _ p _ => m - (intOf p).toNat)
  case atStart => exact ⟨0, 0, by omega, rfl, rfl, Lib.hid rfl, Below.refl _ _⟩
  case round =>
    obtain ⟨i, z, hi, rfl, rfl, HZ, hb⟩ := hrel
    have hz := size_bound (HP.out.1.take i)
    rw [HZ.out] at hz
    by_cases hlt : i < m
    · have hxv := HP.out.1.1 _ (getD_mem (l := P) (j := i) (by rw [HM.out]; exact hlt))
      obtain ⟨b, off, rfl, hbB, hc⟩ := HR2.out.2 (by omega)
      obtain ⟨c1', c2'⟩ := hc i hlt
      replace c1' := (hb.cell (p := ⟨b, off + i * 2, none⟩) hbB).trans c1'
      replace c2' := (hb.cell (p := ⟨b, off + i * 2 + 1, none⟩) hbB).trans c2'
      obtain ⟨⟨x1, x2⟩, hx⟩ : ∃ x, P.getD i (0, 0) = x := ⟨_, rfl⟩
      have HZ2 : Hid (sizeR (P.take (i + 1)) = z + x2 - x1 + 1) := Lib.hid (by
        rw [size_next (by rw [HM.out]; exact hlt) hx, HZ.out]; omega)
      rw [hx] at c1' c2' hxv
      dsimp only at c1' c2' hxv
      have g0 : (0 : Int) ≤ (i : Int) := by omega
      have g1 : (i : Int) < (m : Int) := by omega
      have f2 : decide ((i : Int) < (m : Int)) = true := decide_eq_true g1
      have w1 : IntKind.i64.wrap (z + x2) = z + x2 := wrap_ok (by omega) (by omega)
      have w2 : IntKind.i64.wrap (z + x2 - x1) = z + x2 - x1 := wrap_ok (by omega) (by omega)
      have w3 : IntKind.i64.wrap (z + x2 - x1 + 1) = z + x2 - x1 + 1 := wrap_ok (by omega) (by omega)
      have HBr := Lib.hid hb
      clear hc hx hb hxv hz
      go_wp2_with fail
      go_quiet (fail)
      go_wp2_with fail
      exact ⟨⟨i + 1, _, by omega, by go_num, rfl, HZ2, Below.dn HBr.out _⟩, by simp [intOf]; omega⟩
    · have f2 : decide ((i : Int) < (m : Int)) = false := decide_eq_false (by omega)
      have HF : Hid (sizeR P = z) := Lib.hid (by
        have := HZ.out
        rwa [List.take_of_length_le (by rw [HM.out]; omega)] at this)
      have hb4 := next HB2.out hb
      clear hz hb
      go_wp2_with fail
      go_ret
      exact ⟨P, HP.out, by rw [HF.out]; rfl, hb4⟩
set_option maxRecDepth 100000 in
set_option maxHeartbeats 4000000 in
theorem Size_sort (HSo : SortSays) (A : Option Addr) (n c : Nat) (l : List Rg) (w : World) (hr : RowR w w.heap.size A n l) (hn : n ≤ 100000000) :
    Calls Try.prog 18 #[.slice A n c] w (SizeOut w (has l)) := by
  have HC := Lib.hid (Of_sort HSo A n c l w hr hn)
  clear hr
  go_enter Try.func18, Try.ntmps18
  go_wp2_with fail
  with_reducible refine HC.out.mono ?_
  rintro e w2 ⟨A1, c1, P, rfl, hP, o1, b1⟩
  have HR2 := Lib.hid (RowR.own o1)
  have HB2 := Lib.hid b1
  have hsh := hP.1.short
  have HP := Lib.hid hP
  obtain ⟨m, hm⟩ : ∃ m, P.length = m := ⟨_, rfl⟩
  rw [hm] at HR2 hsh ⊢
  have HM := Lib.hid hm
  clear HC hP o1 b1 hm
  go_wp2_with fail
  go_loopw [3, 9] (fun q p wr => ∃ (i : Nat) (z : Int), i ≤ m ∧ p = .int .i64 (i : Int) ∧ q = .int .i64 z ∧ Hid (sizeR (P.take i) = z) ∧ Below w2.heap.size w2 wr) (fun _ p _ => m - (intOf p).toNat)
  case atStart => exact ⟨0, 0, by omega, rfl, rfl, Lib.hid rfl, Below.refl _ _⟩
  case round =>
    obtain ⟨i, z, hi, rfl, rfl, HZ, hb⟩ := hrel
    have hz := size_bound (HP.out.1.take i)
    rw [HZ.out] at hz
    by_cases hlt : i < m
    · have hxv := HP.out.1.1 _ (getD_mem (l := P) (j := i) (by rw [HM.out]; exact hlt))
      obtain ⟨b, off, rfl, hbB, hc⟩ := HR2.out.2 (by omega)
      obtain ⟨c1', c2'⟩ := hc i hlt
      replace c1' := (hb.cell (p := ⟨b, off + i * 2, none⟩) hbB).trans c1'
      replace c2' := (hb.cell (p := ⟨b, off + i * 2 + 1, none⟩) hbB).trans c2'
      obtain ⟨⟨x1, x2⟩, hx⟩ : ∃ x, P.getD i (0, 0) = x := ⟨_, rfl⟩
      have HZ2 : Hid (sizeR (P.take (i + 1)) = z + (x2 - x1 + 1)) := Lib.hid (by
        rw [size_next (by rw [HM.out]; exact hlt) hx, HZ.out])
      rw [hx] at c1' c2' hxv
      dsimp only at c1' c2' hxv
      have g0 : (0 : Int) ≤ (i : Int) := by omega
      have g1 : (i : Int) < (m : Int) := by omega
      have f2 : decide ((i : Int) < (m : Int)) = true := decide_eq_true g1
      have w1 : IntKind.i64.wrap (x2 - x1) = x2 - x1 := wrap_ok (by omega) (by omega)
      have w2 : IntKind.i64.wrap (x2 - x1 + 1) = x2 - x1 + 1 := wrap_ok (by omega) (by omega)
      have w3 : IntKind.i64.wrap (z + (x2 - x1 + 1)) = z + (x2 - x1 + 1) := wrap_ok (by omega) (by omega)
      have HBr := Lib.hid hb
      clear hc hx hb hxv hz
      go_wp2_with fail
      exact ⟨⟨i + 1, _, by omega, by go_num, rfl, HZ2, HBr.out.alloc HBr.out.size _⟩, by simp [intOf]; omega⟩
    · have f2 : decide ((i : Int) < (m : Int)) = false := decide_eq_false (by omega)
      have HF : Hid (sizeR P = z) := Lib.hid (by
        have := HZ.out
        rwa [List.take_of_length_le (by rw [HM.out]; omega)] at this)
      have hb4 := next HB2.out hb
      clear hz hb
      go_wp2_with fail
      go_ret
      exact ⟨P, HP.out, by rw [HF.out]; rfl, hb4⟩
end Go.Proofs.Ytjnnaafkdgoflaa
