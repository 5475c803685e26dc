/- The calls of nat on the limbs of given numbers: what the laws go by. -/
import Derived.Test.YtlpfcilgndbopaaDoorNWorks
namespace Go.Proofs.YtlpfcilgndbopaaDoor
open Go.RowKit

theorem chk_limbs {X : Nat} (h : (limbs X).length ≤ 64) : chk (limbs X) = 0 := chk_ok.2 ⟨h, limbs_top X⟩
theorem chk2_limbs {X Y : Nat} (h : (limbs X).length ≤ 64) (h' : (limbs Y).length ≤ 64) : chk2 (limbs X) (limbs Y) = 0 := by
  rw [chk2, chk_limbs h, chk_limbs h']; rfl
theorem row_len {w : World} {B n : Nat} {A : Option Addr} {l : List Int} (h : Row w B A n (ints .u32 l)) : l.length = n := by
  have := h.1
  rwa [ints_len] at this

section
variable {A A' : Option Addr} {n c n' c' X Y : Nat} {w : World}

/-- A slice that reads as the limbs of X, in new memory or old. -/
def Got (w : World) (X : Nat) (n : Nat) (A : Option Addr) : Prop := (limbs X).length = n ∧ Row w w.heap.size A n (ints .u32 (limbs X))
theorem Got.on {w' : World} (h : Got w X n A) (b : Below w.heap.size w w') : Got w' X n A := ⟨h.1, h.2.on b⟩

theorem ofG (X : Nat) (w : World) (h : X < 18446744073709551616) :
    Calls Tryd.prog 22 #[.int .u64 (X : Int)] w fun e w' => ∃ A m c, e = .returned (.slice A m c) ∧ Got w' X m A ∧ Below w.heap.size w w' := by
  refine (ofK (X : Int) (limbs X) (limbs X).length w (by rw [Int.toNat_natCast]) rfl (by omega) (by omega)).mono ?_
  rintro e w' ⟨A, c, rfl, r, b⟩
  exact ⟨A, _, c, rfl, ⟨rfl, r⟩, b⟩
theorem of_small {X : Nat} (h : X < 18446744073709551616) : (limbs X).length ≤ 2 := limbs_len (by omega)

theorem addG (h : Got w X n A) (h' : Got w Y n' A') (hn : n ≤ 64) (hn' : n' ≤ 64) :
    Calls Tryd.prog 15 #[.slice A n c, .slice A' n' c'] w fun e w' => ∃ B m d, e = .returned (.tuple #[.slice B m d, .int .i64 0]) ∧ Got w' (X + Y) m B ∧ Below w.heap.size w w' := by
  have hx := chk2_limbs (X := X) (Y := Y) (by rw [h.1]; exact hn) (by rw [h'.1]; exact hn')
  refine (outK _ ⟨hx, rfl⟩ (Add_any A A' n c n' c' _ _ w h.2 h'.2 (lim_limbs X) (lim_limbs Y)) rfl).mono ?_
  rw [if_pos hx, val_limbs, val_limbs]
  rintro e w' ⟨B, d, rfl, r, b⟩
  exact ⟨B, _, d, rfl, ⟨rfl, r⟩, b⟩
theorem mulG (h : Got w X n A) (h' : Got w Y n' A') (hn : n ≤ 64) (hn' : n' ≤ 64) :
    Calls Tryd.prog 19 #[.slice A n c, .slice A' n' c'] w fun e w' => ∃ B m d, e = .returned (.tuple #[.slice B m d, .int .i64 0]) ∧ Got w' (X * Y) m B ∧ Below w.heap.size w w' := by
  have hx := chk2_limbs (X := X) (Y := Y) (by rw [h.1]; exact hn) (by rw [h'.1]; exact hn')
  refine (outK _ ⟨hx, rfl⟩ (Mul_any A A' n c n' c' _ _ w h.2 h'.2 (lim_limbs X) (lim_limbs Y)) rfl).mono ?_
  rw [if_pos hx, val_limbs, val_limbs]
  rintro e w' ⟨B, d, rfl, r, b⟩
  exact ⟨B, _, d, rfl, ⟨rfl, r⟩, b⟩
/-- Sub, where the first is no less. -/
theorem subG (h : Got w X n A) (h' : Got w Y n' A') (hn : n ≤ 64) (hn' : n' ≤ 64) (hle : Y ≤ X) :
    Calls Tryd.prog 17 #[.slice A n c, .slice A' n' c'] w fun e w' => ∃ B m d, e = .returned (.tuple #[.slice B m d, .int .i64 0]) ∧ Got w' (X - Y) m B ∧ Below w.heap.size w w' := by
  have hx := chk2_limbs (X := X) (Y := Y) (by rw [h.1]; exact hn) (by rw [h'.1]; exact hn')
  have hE : subE (limbs X) (limbs Y) = 0 := by rw [subE, if_neg (by rw [hx]; simp), val_limbs, val_limbs, if_neg (by omega)]
  refine (outK _ ⟨hE, rfl⟩ (Sub_any A A' n c n' c' _ _ w h.2 h'.2 (lim_limbs X) (lim_limbs Y)) rfl).mono ?_
  rw [subL, if_pos hE, val_limbs, val_limbs]
  rintro e w' ⟨B, d, rfl, r, b⟩
  exact ⟨B, _, d, rfl, ⟨rfl, r⟩, b⟩
theorem gcdG (h : Got w X n A) (h' : Got w Y n' A') (hn : n ≤ 64) (hn' : n' ≤ 64) :
    Calls Tryd.prog 32 #[.slice A n c, .slice A' n' c'] w fun e w' => ∃ B m d, e = .returned (.tuple #[.slice B m d, .int .i64 0]) ∧ Got w' (Nat.gcd X Y) m B ∧ Below w.heap.size w w' := by
  have hx := chk2_limbs (X := X) (Y := Y) (by rw [h.1]; exact hn) (by rw [h'.1]; exact hn')
  refine (outK _ ⟨hx, rfl⟩ (Gcd_any A A' n c n' c' _ _ w h.2 h'.2 (lim_limbs X) (lim_limbs Y)) rfl).mono ?_
  rw [gcdL, if_pos hx, val_limbs, val_limbs]
  rintro e w' ⟨B, d, rfl, r, b⟩
  exact ⟨B, _, d, rfl, ⟨rfl, r⟩, b⟩
theorem divG (h : Got w X n A) (h' : Got w Y n' A') (hn : n ≤ 64) (hn' : n' ≤ 64) (hY : Y ≠ 0) :
    Calls Tryd.prog 30 #[.slice A n c, .slice A' n' c'] w fun e w' => ∃ B m d B' m' d', e = .returned (.tuple #[.slice B m d, .slice B' m' d', .int .i64 0]) ∧ Got w' (X / Y) m B ∧ Got w' (X % Y) m' B' ∧ Below w.heap.size w w' := by
  have hx := chk2_limbs (X := X) (Y := Y) (by rw [h.1]; exact hn) (by rw [h'.1]; exact hn')
  have hL : (limbs Y).length ≠ 0 := by rw [limbs_pos hY]; simp
  have hE : divE (limbs X) (limbs Y) = 0 := by rw [divE, if_neg (by rw [hx]; simp), if_neg hL]
  refine (divK _ _ ⟨hE, rfl, rfl⟩ (Div_any A A' n c n' c' _ _ w h.2 h'.2 (lim_limbs X) (lim_limbs Y)) rfl rfl).mono ?_
  rw [quoL, restL, if_pos hE, if_pos hE, val_limbs, val_limbs]
  rintro e w' ⟨B, d, B', d', rfl, r, r', b⟩
  exact ⟨B, _, d, B', _, d', rfl, ⟨rfl, r⟩, ⟨rfl, r'⟩, b⟩
theorem cmpG (h : Got w X n A) (h' : Got w Y n' A') (hn : n ≤ 64) (hn' : n' ≤ 64) :
    Calls Tryd.prog 26 #[.slice A n c, .slice A' n' c'] w fun e w' => e = .returned (.int .i64 (cmpI X Y)) ∧ w = w' := by
  have hx := chk2_limbs (X := X) (Y := Y) (by rw [h.1]; exact hn) (by rw [h'.1]; exact hn')
  have := Cmp_any A A' n c n' c' _ _ _ w h.2 h'.2 (lim_limbs X) (lim_limbs Y)
  rwa [cmpE, if_pos hx, val_limbs, val_limbs] at this
theorem smallG (h : Got w X n A) (hn : n ≤ 2) :
    Calls Tryd.prog 13 #[.slice A n c] w fun e w' => e = .returned (.tuple #[.int .u64 (X : Int), .bool true]) ∧ w = w' := by
  have hs : smallOk (limbs X) = true := by rw [smallOk, chk_limbs (by rw [h.1]; omega), h.1]; simp [hn]
  have := Small_any A n c _ _ w h.2 (lim_limbs X)
  rwa [hs, if_pos rfl, val_limbs] at this
theorem cmpI_eq (X Y : Nat) : (cmpI X Y == 0) = decide (X = Y) := by
  unfold cmpI
  by_cases h : X < Y
  · rw [if_pos h]; simp; omega
  · rw [if_neg h]
    by_cases h2 : Y < X
    · rw [if_pos h2]; simp; omega
    · rw [if_neg h2]; simp; omega
theorem eqG (h : Got w X n A) (h' : Got w Y n' A') (hn : n ≤ 1000) :
    Calls Tryd.prog 21 #[.slice A n c, .slice A' n' c'] w fun e w' => e = .returned (.bool (decide (X = Y))) ∧ Below w.heap.size w w' := by
  have := Eq_any A A' n c n' c' _ _ _ w h.2 h'.2 (lim_limbs X) (lim_limbs Y) (by omega)
  rw [cmpR_limbs, cmpI_eq] at this
  refine this.mono ?_
  rintro e w' ⟨rfl, k, rfl⟩
  exact ⟨rfl, rfl, rfl, rfl, Nat.le_refl _, fun _ _ => rfl⟩
end
theorem wf_u64 {a : Int} (h : (Lit.int .u64 a).wf = true) : ∃ n : Nat, a = n ∧ n < 18446744073709551616 := by
  have h2 : 0 ≤ a ∧ a ≤ 18446744073709551615 := by simpa [Lit.wf, IntKind.min, IntKind.max, IntKind.signed, IntKind.bits] using h
  exact ⟨a.toNat, by omega, by omega⟩
end Go.Proofs.YtlpfcilgndbopaaDoor
