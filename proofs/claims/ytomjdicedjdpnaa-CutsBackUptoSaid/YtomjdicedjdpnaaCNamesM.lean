/- Patterns of named and unnamed parts, each with ';' behind it. -/
import Derived.Test.YtomjdicedjdpnaaCSetM
namespace Go.Proofs.Ytomjdicedjdpnaa
open Go.RowKit

def sc : ByteArray := ⟨#[59]⟩
theorem index_at (c : UInt8) (r : List UInt8) : ∀ v : List UInt8, c ∉ v → Lib.index (v ++ c :: r) [c] = v.length
  | [], _ => by
    rw [List.nil_append, Lib.index, show ([c] : List UInt8).isPrefixOf (c :: r) = true by simp [List.isPrefixOf]]
    rfl
  | b :: v, h => by
    have ih := index_at c r v (fun k => h (List.mem_cons_of_mem _ k))
    have hb : ([c] : List UInt8).isPrefixOf (b :: (v ++ c :: r)) = false := by
      have : (c == b) = false := beq_eq_false_iff_ne.2 (fun e => h (by rw [e]; exact List.mem_cons_self))
      simp [List.isPrefixOf, this]
    rw [List.cons_append, Lib.index, hb, ih, if_neg (by simp)]
    have hf : ((v.length : Int) == -1) = false := by rw [beq_eq_false_iff_ne]; omega
    rw [hf, if_neg (by simp), List.length_cons]
    omega
theorem idx_sc (v r : ByteArray) (h : 59 ∉ v.data.toList) : idx (v ++ (sc ++ r)) sc = (v.size : Int) := by
  have := index_at 59 r.data.toList v.data.toList h
  unfold idx
  rw [show (v ++ (sc ++ r)).data.toList = v.data.toList ++ 59 :: r.data.toList by simp only [ByteArray.data_append, Array.toList_append]; rfl]
  rw [show sc.data.toList = [59] from rfl, this, Array.length_toList]
  rfl
theorem ext_left (v r : ByteArray) : (v ++ r).extract 0 v.size = v := by
  rw [← ext_take]
  apply ByteArray.ext
  apply Array.toList_inj.1
  have : v.data.toList.length = v.size := by rw [Array.length_toList]; rfl
  simp only [ByteArray.data_append, Array.toList_append]
  rw [← this, List.take_left]
theorem ext_right (v m r : ByteArray) : (v ++ (m ++ r)).extract (v.size + m.size) (v ++ (m ++ r)).size = r := by
  rw [← ext_drop]
  apply ByteArray.ext
  apply Array.toList_inj.1
  have h1 : v.data.toList.length = v.size := by rw [Array.length_toList]; rfl
  have h2 : m.data.toList.length = m.size := by rw [Array.length_toList]; rfl
  simp only [ByteArray.data_append, Array.toList_append]
  rw [← h1, ← h2, ← List.drop_drop, List.drop_left, List.drop_left]
/-- A line of values, each with ';' behind it. -/
def lineOf : List Lb → ByteArray
  | [] => ByteArray.empty
  | x :: r => x.2 ++ (sc ++ lineOf r)
theorem goM_items : ∀ (l : List Lb) (acc : List Lb), (∀ x ∈ l, 59 ∉ x.2.data.toList) → goM (l.map fun x => (x.1, sc)) (lineOf l) acc = some (l.foldl (fun a x => putN x.1 x.2 a) acc)
  | [], acc, _ => rfl
  | (n, v) :: r, acc, h => by
    have h1 := idx_sc v (lineOf r) (h _ List.mem_cons_self)
    rw [List.map_cons, goM, if_neg (by decide), lineOf]
    dsimp only
    rw [h1, if_neg (by omega), Int.toNat_natCast, ext_left, ext_right, goM_items r _ (fun x hx => h x (List.mem_cons_of_mem _ hx))]
    rfl
theorem set_snoc {l : List Lb} (h : Ord l) {n v : ByteArray} (hl : ∀ x ∈ l, lt x.1 n) : setL l n v = l ++ (if v = ByteArray.empty then [] else [(n, v)]) := by
  have h1 : lo n l = l := List.filter_eq_self.2 (fun x hx => decide_eq_true (hl x hx))
  have h2 : hi n l = [] := List.filter_eq_nil_iff.2 (fun x hx k => lt_ne (lt_trans (hl x hx) (of_decide_eq_true k)) rfl)
  rw [setL, if_pos h, h1, h2, List.append_nil]
def told (x : Lb) : Bool := decide (x.1 ≠ ⟨#[95]⟩) && decide (x.2 ≠ ByteArray.empty)
theorem fold_told : ∀ (l acc : List Lb), Ord acc → (∀ x ∈ acc, ∀ y ∈ l, y.1 ≠ ⟨#[95]⟩ → lt x.1 y.1) → (l.filter fun x => decide (x.1 ≠ ⟨#[95]⟩)).Pairwise (fun x y => lt x.1 y.1) → l.foldl (fun a x => putN x.1 x.2 a) acc = acc ++ l.filter told
  | [], acc, _, _, _ => by simp
  | (n, v) :: r, acc, ho, ha, hp => by
    rw [List.foldl_cons]
    by_cases hn : n = ⟨#[95]⟩
    · rw [show putN n v acc = acc by unfold putN; rw [if_pos hn], fold_told r acc ho (fun x hx y hy => ha x hx y (List.mem_cons_of_mem _ hy)) (by rw [List.filter_cons_of_neg (by simp [hn])] at hp; exact hp), List.filter_cons_of_neg (by simp [told, hn])]
    · rw [List.filter_cons_of_pos (by simp [hn])] at hp
      obtain ⟨hp1, hp2⟩ := List.pairwise_cons.1 hp
      have hs := set_snoc ho (n := n) (v := v) (fun x hx => ha x hx (n, v) List.mem_cons_self hn)
      have hacc : putN n v acc = setL acc n v := by unfold putN; rw [if_neg hn]
      rw [show putN n v acc = setL acc n v from hacc, fold_told r _ (ord_setL ho n v) (fun x hx y hy hne => ?_) hp2, hs]
      · by_cases hv : v = ByteArray.empty
        · rw [if_pos hv, List.append_nil, List.filter_cons_of_neg (by simp [told, hv])]
        · rw [if_neg hv, List.append_assoc, List.filter_cons_of_pos (by simp [told, hn, hv])]
          rfl
      · rcases (mem_setL ho n v x).1 hx with ⟨h1, _⟩ | ⟨_, rfl⟩
        · exact ha x h1 y (List.mem_cons_of_mem _ hy) hne
        · exact hp1 y (List.mem_filter.2 ⟨hy, by simpa using hne⟩)
end Go.Proofs.Ytomjdicedjdpnaa
