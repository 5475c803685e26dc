/- LMath3: taken over. -/
import Derived.Test.YtomjdicedjdpnaaLMath2
namespace Go.Proofs.Ytomjdicedjdpnaa
open Go.RowKit

def digC (c : Nat) : Bool := decide (48 ≤ c) && decide (c ≤ 57)
def prtC (c : Nat) : Bool := decide (97 ≤ c) && decide (c ≤ 122) || decide (65 ≤ c) && decide (c ≤ 90) || decide (c = 95) || digC c
/-- A label's name, by its bytes. -/
def nameB (s : List Nat) : Bool := decide (s ≠ []) && decide (s.length ≤ 64) && !digC (s.headD 0) && s.all prtC
/-- Check's answer; nm: which byte strings are names. -/
def chkL (nm : ByteArray → Bool) (l : List Lb) : Int := if l.length ≤ 16 ∧ Ord l ∧ ∀ x ∈ l, nm x.1 = true ∧ x.2.size ≤ 256 then 0 else 50
theorem chkL_or (nm : ByteArray → Bool) (l : List Lb) : chkL nm l = 0 ∨ chkL nm l = 50 := by unfold chkL; split <;> simp
/-- Of's answer. -/
def ofL (nm : ByteArray → Bool) (l : List Lb) : List Lb × Int := if noDup l then (if chkL nm (sortL l) = 0 then (sortL l, 0) else ([], 50)) else ([], 50)
theorem ofL_or (nm : ByteArray → Bool) (l : List Lb) : (ofL nm l).2 = 0 ∨ (ofL nm l).1 = [] := by
  unfold ofL
  split
  · split <;> simp
  · simp
theorem lo_hi_len (n : ByteArray) : ∀ l : List Lb, (lo n l).length + (hi n l).length ≤ l.length
  | [] => by simp [lo, hi]
  | x :: t => by
    have ih := lo_hi_len n t
    unfold lo hi at ih ⊢
    rw [List.filter_cons, List.filter_cons]
    by_cases h1 : lt x.1 n
    · have h2 := lt_asymm h1
      simp [h1, h2]; omega
    · by_cases h2 : lt n x.1
      · simp [h1, h2]; omega
      · simp [h1, h2]; omega
theorem sortL_len : ∀ (n : Nat) (l : List Lb), l.length = n → (sortL l).length ≤ n
  | 0, l, hl => by
    have := List.eq_nil_of_length_eq_zero hl
    subst this
    simp [sortL]
  | n + 1, l, hl => by
    rcases List.eq_nil_or_concat l with h | ⟨p, x, h⟩
    · subst h; simp at hl
    rw [List.concat_eq_append] at h
    subst h
    have ih := sortL_len n p (by simpa using hl)
    rw [sortL_snoc]
    split
    · omega
    · have := lo_hi_len x.1 (sortL p)
      unfold putL
      simp only [List.length_append, List.length_cons]
      omega
/-- Sorted by names: two that are alike stand side by side. -/
theorem dup_side {P : List Lb} (hs : P.Pairwise fun x y => ¬ lt y.1 x.1) : noDup P ↔ ∀ i, i + 1 < P.length → (P.getD (i + 1) (ByteArray.empty, ByteArray.empty)).1 ≠ (P.getD i (ByteArray.empty, ByteArray.empty)).1 := by
  induction P with
  | nil => simp [noDup]
  | cons x t ih =>
    have hp := List.pairwise_cons.1 hs
    have ih := ih hp.2
    unfold noDup at ih ⊢
    rw [List.map_cons, List.nodup_cons, ih]
    constructor
    · rintro ⟨h1, h2⟩ i hi
      cases i with
      | zero =>
        cases t with
        | nil => simp at hi
        | cons y t =>
          intro e
          exact h1 (by simp at e; simp [e])
      | succ i => exact h2 i (by simpa using hi)
    · intro h
      refine ⟨fun hm => ?_, fun i hi => h (i + 1) (by simpa using hi)⟩
      cases t with
      | nil => simp at hm
      | cons y t =>
        have h0 : y.1 ≠ x.1 := h 0 (by simp)
        obtain ⟨z, hz, e⟩ := List.mem_map.1 hm
        have h1 := hp.1 y List.mem_cons_self
        have h2 : ¬ lt z.1 y.1 := by
          rcases List.mem_cons.1 hz with rfl | hz
          · exact lt_irrefl _
          · exact (List.pairwise_cons.1 hp.2).1 z hz
        rw [e] at h2
        rcases lt_tri y.1 x.1 with k | k | k
        · exact h1 k
        · exact h0 k
        · exact h2 k
theorem rise_of {P : List Lb} (hs : P.Pairwise fun x y => ¬ lt y.1 x.1) (hd : noDup P) : Rise P := by
  unfold noDup at hd
  have h2 : P.Pairwise fun x y => x.1 ≠ y.1 := by rw [List.Nodup, List.pairwise_map] at hd; exact hd
  exact (hs.and h2).imp fun {x y} ⟨h, k⟩ => (lt_tri x.1 y.1).resolve_right (fun q => q.elim k h)
theorem noDup_perm {a b : List Lb} (h : a.Perm b) : noDup a ↔ noDup b := by
  unfold noDup
  exact (h.map Prod.fst).nodup_iff
/-- What is cleaned: each byte that may not be turned, a '_' ahead of a digit, 64 at most. -/
def cleanB (s : List Nat) : List Nat :=
  let t := s.map fun c => if prtC c then c else 95
  (if t = [] ∨ digC (t.headD 0) = true then 95 :: t else t).take 64
theorem cleanB_cut (s : List Nat) (hs : s ≠ []) : cleanB s = cleanB (s.take 64) := by
  cases s with
  | nil => exact absurd rfl hs
  | cons c t =>
    unfold cleanB
    simp only [List.take_succ_cons, List.map_cons, List.headD_cons, reduceCtorEq, false_or]
    generalize (if prtC c = true then c else 95) = d
    by_cases h : digC d = true
    · rw [if_pos h, if_pos h]
      simp [List.take_take, ← List.map_take]
    · rw [if_neg h, if_neg h]
      simp [List.take_take, ← List.map_take]
end Go.Proofs.Ytomjdicedjdpnaa
