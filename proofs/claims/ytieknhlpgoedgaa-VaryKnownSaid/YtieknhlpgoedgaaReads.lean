/- (*Reader).U whole; R.EqBytes and the law's own helpers: writes, reads. -/
import Derived.Test.YtieknhlpgoedgaaReadV
import Derived.Test.YtieknhlpgoedgaaEq
namespace Go.Proofs.Ytieknhlpgoedgaa
open Go.RowKit

theorem RU_all (g B : Nat) (l : List Int) (w : World) (h : Rd w g B l 0) :
    Calls Try.prog 25 #[.pointer (some ⟨g, 0, none⟩)] w (RdPost g B w (rdU l).1 (rdU l).2.1 (rdU l).2.2) := by
  cases he : endAt l with
  | none =>
    have := RU_none g B l w h he
    simp only [rdU, he]
    split <;> simp_all
  | some i =>
    obtain ⟨z, hz, _, _⟩ := endAt_some he
    have hi : i < l.length := (List.getElem?_eq_some_iff.1 hz).1
    simp only [rdU, he]
    by_cases h8 : 8 ≤ i
    · simp only [if_pos h8]
      exact RU_long g B i l w h he h8 hi
    · simp only [if_neg h8]
      by_cases h0 : 0 < i ∧ l[i]? = some 0
      · simp only [if_pos h0]
        exact RU_zero g B i l w h he (by omega) h0.1 h0.2 hi
      · simp only [if_neg h0]
        by_cases hb : 18014398509481982 < val (l.take (i + 1))
        · simp only [if_pos hb]
          exact RU_big g B i l w h he (by omega) h0 hi hb
        · simp only [if_neg hb]
          exact RU_good g B i l w h he (by omega) h0 hi hb

theorem reads_any (A : Option Addr) (c B : Nat) (l : List Int) (w : World) (hr : Row w B A l.length (ints .u8 l)) (hB : B ≤ w.heap.size) (hl : l.length ≤ 150000000000000) (hu : ∀ x ∈ l, 0 ≤ x ∧ x ≤ 255) :
    Calls Try.prog 35 #[.slice A l.length c] w fun e w' => e = .returned (.tuple #[.int .i64 (rdU l).1, .int .i64 (rdU l).2.2]) ∧ Below w.heap.size w w' := by
  go_enter Try.func35, Try.ntmps35
  go_wp2_with fail
  refine (New_any A c B l w hr hB hl hu).mono ?_
  rintro e w1 ⟨g, rfl, hg, hrd, hb1⟩
  go_wp2_with fail
  refine (RU_all g _ l w1 hrd).mono ?_
  rintro e w2 ⟨rfl, hrd2, ho⟩
  obtain ⟨A2, c2, hblk, _⟩ := hrd2
  go_wp2_with fail
  refine (Err_made g _ _ _ hblk).mono ?_
  rintro e w' ⟨rfl, rfl⟩
  go_wp2
  go_ret2
  exact ⟨rfl, ho.below hb1 hg hb1.size⟩

theorem writes_any (n : Int) (A : Option Addr) (c B : Nat) (l : List Int) (w : World) (hr : Row w B A l.length (ints .u8 l)) (hB : B ≤ w.heap.size) :
    Calls Try.prog 34 #[.int .i64 n, .slice A l.length c] w fun e w' => e = .returned (.bool (decide (uErr n = 0 ∧ uOut n = l))) ∧ Below w.heap.size w w' := by
  have hlen : (uOut n).length ≤ 8 := by
    unfold uOut
    split
    · simp
    · exact leb_len8 (by omega)
  have he := U_any n w
  by_cases h0 : uErr n = 0
  · rw [h0] at he ⊢
    have HU := Lib.hid he
    clear he h0
    generalize uOut n = o at *
    go_enter Try.func34, Try.ntmps34
    go_wp2_with fail
    refine HU.out.mono ?_
    rintro e w1 ⟨A1, c1, rfl, hown, hb1⟩
    have h1 := Row.own hown
    have h2 := hr.below (hb1.mono hB)
    go_wp2_with fail
    refine (eq_any _ _ _ _ _ _ _ _ o l w1 h1 h2 (by omega)).mono ?_
    rintro e w2 ⟨rfl, hb2⟩
    go_wp2
    go_ret
    exact ⟨ret_bool (by simp), hb1.trans (hb2.mono hb1.size)⟩
  · have hx : (uErr n == 0) = false := by simpa using h0
    have HU := Lib.hid he
    have hd : decide (uErr n = 0 ∧ uOut n = l) = false := by simp [h0]
    rw [hd]
    clear he h0 hd
    generalize uOut n = o at *
    generalize uErr n = y at *
    go_enter Try.func34, Try.ntmps34
    go_wp2_with fail
    refine HU.out.mono ?_
    rintro e w1 ⟨A1, c1, rfl, hown, hb1⟩
    go_wp2
    go_ret
    exact ⟨rfl, hb1⟩
end Go.Proofs.Ytieknhlpgoedgaa
