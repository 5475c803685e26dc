/- Labels set one after the other. -/
import Derived.Test.YtomjdicedjdpnaaCPiece
namespace Go.Proofs.Ytomjdicedjdpnaa
open Go.RowKit

theorem mem_setL {l : List Lb} (h : Ord l) (n v : ByteArray) (y : Lb) : y ∈ setL l n v ↔ (y ∈ l ∧ y.1 ≠ n) ∨ (v ≠ ByteArray.empty ∧ y = (n, v)) := by
  rw [setL, if_pos h, List.mem_append, List.mem_append, mem_lo, mem_hi]
  by_cases hv : v = ByteArray.empty
  · rw [if_pos hv]
    constructor
    · rintro ((⟨h1, h2⟩ | h1) | ⟨h1, h2⟩)
      · exact .inl ⟨h1, lt_ne h2⟩
      · cases h1
      · exact .inl ⟨h1, Ne.symm (lt_ne h2)⟩
    · rintro (⟨h1, h2⟩ | ⟨h1, h2⟩)
      · rcases lt_tri y.1 n with k | k | k
        · exact .inl (.inl ⟨h1, k⟩)
        · exact absurd k h2
        · exact .inr ⟨h1, k⟩
      · exact absurd hv h1
  · rw [if_neg hv, List.mem_singleton]
    constructor
    · rintro ((⟨h1, h2⟩ | h1) | ⟨h1, h2⟩)
      · exact .inl ⟨h1, lt_ne h2⟩
      · exact .inr ⟨hv, h1⟩
      · exact .inl ⟨h1, Ne.symm (lt_ne h2)⟩
    · rintro (⟨h1, h2⟩ | ⟨h1, h2⟩)
      · rcases lt_tri y.1 n with k | k | k
        · exact .inl (.inl ⟨h1, k⟩)
        · exact absurd k h2
        · exact .inr ⟨h1, k⟩
      · exact .inl (.inr h2)
theorem rise_setL {l : List Lb} (h : Ord l) (n v : ByteArray) : Rise (setL l n v) := by
  rw [setL, if_pos h]
  by_cases hv : v = ByteArray.empty
  · rw [if_pos hv, List.append_nil, ← pickL_drop h]
    exact h.2.filter _
  · rw [if_neg hv, List.append_assoc]
    exact rise_put h.2 (n, v)
theorem ord_setL {l : List Lb} (h : Ord l) (n v : ByteArray) : Ord (setL l n v) := by
  refine ⟨fun x hx => ?_, rise_setL h n v⟩
  rcases (mem_setL h n v x).1 hx with ⟨h1, _⟩ | ⟨h1, rfl⟩
  · exact h.1 x h1
  · exact h1
theorem getL_skip {a b : List Lb} {n : ByteArray} (h : ∀ x ∈ a, x.1 ≠ n) : getL (a ++ b) n = getL b n := by
  induction a with
  | nil => rfl
  | cons x a ih =>
    rw [List.cons_append, getL, if_neg (h x List.mem_cons_self)]
    exact ih fun y hy => h y (List.mem_cons_of_mem _ hy)
theorem get_set {l : List Lb} (h : Ord l) (n v : ByteArray) : getL (setL l n v) n = v := by
  by_cases hv : v = ByteArray.empty
  · rw [getL_none fun x hx => ?_, hv]
    rcases (mem_setL h n v x).1 hx with ⟨_, h2⟩ | ⟨h1, _⟩
    · exact h2
    · exact absurd hv h1
  · rw [setL, if_pos h, if_neg hv, List.append_assoc, getL_skip fun x hx => lt_ne (mem_lo.1 hx).2]
    rw [List.singleton_append, getL, if_pos rfl]
theorem getL_mem : ∀ {l : List Lb}, Ord l → ∀ {n v : ByteArray}, (n, v) ∈ l → getL l n = v
  | [], _, n, v, hm => by cases hm
  | x :: t, h, n, v, hm => by
    rw [getL]
    by_cases hx : x.1 = n
    · rw [if_pos hx]
      rcases List.mem_cons.1 hm with rfl | hm
      · rfl
      · exact absurd hx (lt_ne ((List.pairwise_cons.1 h.2).1 _ hm))
    · rw [if_neg hx]
      rcases List.mem_cons.1 hm with rfl | hm
      · exact absurd rfl hx
      · exact getL_mem h.tail hm
theorem get_other {l : List Lb} (h : Ord l) {n m : ByteArray} (v : ByteArray) (hne : n ≠ m) : getL (setL l m v) n = getL l n := by
  by_cases hy : ∃ y ∈ l, y.1 = n
  · obtain ⟨⟨y1, y2⟩, hy, rfl⟩ := hy
    rw [getL_mem h hy]
    exact getL_mem (ord_setL h m v) ((mem_setL h m v _).2 (.inl ⟨hy, hne⟩))
  · have h1 : ∀ x ∈ l, x.1 ≠ n := fun x hx e => hy ⟨x, hx, e⟩
    rw [getL_none h1]
    refine getL_none fun x hx e => ?_
    rcases (mem_setL h m v x).1 hx with ⟨k, _⟩ | ⟨_, rfl⟩
    · exact h1 x k e
    · exact hne e.symm
def bA : ByteArray := ⟨#[97]⟩
def bB : ByteArray := ⟨#[98]⟩
def bC : ByteArray := ⟨#[99]⟩
def g3 (v1 v2 v3 : ByteArray) : List Lb := setL (setL (setL [] bA v1) bB v2) bC v3
theorem g3_get (v1 v2 v3 : ByteArray) : getL (g3 v1 v2 v3) bA = v1 ∧ getL (g3 v1 v2 v3) bB = v2 ∧ getL (g3 v1 v2 v3) bC = v3 := by
  have o1 := ord_setL Ord.nil bA v1
  have o2 := ord_setL o1 bB v2
  unfold g3
  refine ⟨?_, ?_, get_set o2 _ _⟩
  · rw [get_other o2 _ (by decide), get_other o1 _ (by decide), get_set Ord.nil]
  · rw [get_other o2 _ (by decide), get_set o1]
theorem g3_len (v1 v2 v3 : ByteArray) : (g3 v1 v2 v3).length ≤ 3 := by
  unfold g3
  have h1 := set_len (l := []) bA v1
  have h2 := set_len (l := setL [] bA v1) bB v2
  have h3 := set_len (l := setL (setL [] bA v1) bB v2) bC v3
  simp only [List.length_nil] at h1
  omega
def patP (p q : ByteArray) : ByteArray := (((⟨#[60, 97, 62]⟩ ++ p) ++ ⟨#[60, 98, 62]⟩) ++ q) ++ ⟨#[60, 99, 62]⟩
def okP (i j : Nat) : Prop := okC (bl (patP (pieceL.getD i ByteArray.empty) (pieceL.getD j ByteArray.empty))) ∧ ofl (segs 0 (bl (patP (pieceL.getD i ByteArray.empty) (pieceL.getD j ByteArray.empty)))).1 = ByteArray.empty ∧ capsL (bl (patP (pieceL.getD i ByteArray.empty) (pieceL.getD j ByteArray.empty))) = [(bA, pieceL.getD i ByteArray.empty), (bB, pieceL.getD j ByteArray.empty), (bC, ByteArray.empty)]
instance (i j : Nat) : Decidable (okP i j) := by unfold okP; infer_instance
theorem pat_all : ∀ i < 7, ∀ j < 7, okP i j := by decide +kernel
theorem piece_fine : ∀ i < 7, (pieceL.getD i ByteArray.empty).size ≤ 3 ∧ pieceL.getD i ByteArray.empty ≠ ByteArray.empty := by decide +kernel
theorem bs_ne : bA ≠ ⟨#[95]⟩ ∧ bB ≠ ⟨#[95]⟩ ∧ bC ≠ ⟨#[95]⟩ := by decide
theorem cut_pieces {i j : Nat} (hi : i < 7) (hj : j < 7) {p q : ByteArray} (hp : pieceL.getD i ByteArray.empty = p) (hq : pieceL.getD j ByteArray.empty = q) (t : ByteArray) :
    (idx t p = -1 ∧ cutV (patP p q) t = none) ∨ ∃ I : Nat, idx t p = (I : Int) ∧ I + p.size ≤ t.size ∧
      ((idx (t.extract (I + p.size) t.size) q = -1 ∧ cutV (patP p q) t = none) ∨
        ∃ (K : Nat) (v1 v2 v3 : ByteArray), idx (t.extract (I + p.size) t.size) q = (K : Int) ∧ cutV (patP p q) t = some (g3 v1 v2 v3) ∧ v1 ++ (p ++ (v2 ++ (q ++ v3))) = t) := by
  have hk := pat_all i hi j hj
  unfold okP at hk
  rw [hp, hq] at hk
  have hpe := (piece_fine i hi).2
  have hqe := (piece_fine j hj).2
  rw [hp] at hpe
  rw [hq] at hqe
  have hv : cutV (patP p q) t = goM [(bA, p), (bB, q), (bC, ByteArray.empty)] t [] := by
    unfold cutV
    rw [if_pos hk.1, hk.2.1, hk.2.2]
    unfold matchC
    rw [if_pos ⟨Nat.zero_le _, ByteArray.size_eq_zero_iff.1 (by rw [ByteArray.size_extract]; rfl)⟩]
    rw [show ByteArray.empty.size = 0 from rfl, ext_all]
  rw [hv]
  have h1 := idx_ge t p
  by_cases h : idx t p < 0
  · refine .inl ⟨by omega, ?_⟩
    rw [goM, if_neg hpe, if_pos h]
  · obtain ⟨I, hI⟩ : ∃ I : Nat, idx t p = (I : Int) := ⟨(idx t p).toNat, by omega⟩
    have hr := idx_room (s := t) (t := p) (by omega)
    have hs := idx_split (s := t) (t := p) (by omega)
    rw [hI, Int.toNat_natCast] at hr hs
    refine .inr ⟨I, hI, hr, ?_⟩
    have hg : goM [(bA, p), (bB, q), (bC, ByteArray.empty)] t [] = goM [(bB, q), (bC, ByteArray.empty)] (t.extract (I + p.size) t.size) (setL [] bA (t.extract 0 I)) := by
      rw [goM, if_neg hpe, if_neg h, hI, Int.toNat_natCast]
      unfold putN
      rw [if_neg bs_ne.1]
    rw [hg]
    generalize t.extract (I + p.size) t.size = r at *
    have h2 := idx_ge r q
    by_cases h' : idx r q < 0
    · refine .inl ⟨by omega, ?_⟩
      rw [goM, if_neg hqe, if_pos h']
    · obtain ⟨K, hK⟩ : ∃ K : Nat, idx r q = (K : Int) := ⟨(idx r q).toNat, by omega⟩
      have hs' := idx_split (s := r) (t := q) (by omega)
      rw [hK, Int.toNat_natCast] at hs'
      refine .inr ⟨K, t.extract 0 I, r.extract 0 K, r.extract (K + q.size) r.size, hK, ?_, ?_⟩
      · rw [goM, if_neg hqe, if_neg h', hK, Int.toNat_natCast, goM, if_pos rfl, goM]
        unfold putN
        rw [if_neg bs_ne.2.1, if_neg bs_ne.2.2]
        rfl
      · rw [hs', hs]
end Go.Proofs.Ytomjdicedjdpnaa
