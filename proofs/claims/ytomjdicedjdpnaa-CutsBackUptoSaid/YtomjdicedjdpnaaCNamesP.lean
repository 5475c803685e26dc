/- The patterns of CutsNames. -/
import Derived.Test.YtomjdicedjdpnaaCNamesM
namespace Go.Proofs.Ytomjdicedjdpnaa
open Go.RowKit

def catP : List (List Nat) → List Nat
  | [] => []
  | n :: r => 60 :: (n ++ 62 :: 59 :: catP r)
theorem catP_app : ∀ a b, catP (a ++ b) = catP a ++ catP b
  | [], b => rfl
  | n :: a, b => by rw [List.cons_append, catP, catP, catP_app a b]; simp
theorem catP_len (ns : List (List Nat)) (h : ∀ n ∈ ns, n.length = 1) : (catP ns).length = 4 * ns.length := by
  induction ns with
  | nil => rfl
  | cons n r ih =>
    have h1 := h n List.mem_cons_self
    have h2 := ih (fun x hx => h x (List.mem_cons_of_mem _ hx))
    simp only [catP, List.length_cons, List.length_append, h1, h2]
    omega
theorem segs_cat : ∀ ns : List (List Nat), (∀ n ∈ ns, nameB n = true) → segs 0 (catP ns) = ([], ns.map fun n => (n, [59]))
  | [], _ => rfl
  | n :: r, h => by
    have hn := h n List.mem_cons_self
    have hc : capN (catP (n :: r)) = n := capN_of _ hn
    have hne : capN (catP (n :: r)) ≠ [] := by rw [hc]; exact (nameB_chars hn).1
    rw [segs_some hne, hc]
    have hd : (catP (n :: r)).drop (n.length + 2) = 59 :: catP r := by
      rw [catP, show (60 :: (n ++ 62 :: 59 :: catP r)) = (60 :: n ++ [62]) ++ 59 :: catP r by simp]
      rw [show n.length + 2 = (60 :: n ++ [62]).length by simp, List.drop_left]
    rw [hd, segs_none (by simp) (capN_other _ (by decide))]
    simp only [List.headD_cons, List.tail_cons]
    rw [segs_cat r (fun x hx => h x (List.mem_cons_of_mem _ hx))]
    rfl
def nmB (i : Nat) : ByteArray := ⟨#[UInt8.ofNat (97 + i)]⟩
def xs (i : Nat) : ByteArray := ⟨(Lib.repeatL [120] i).toArray⟩
theorem nmB_all : ∀ i < 20, nameB (bl (nmB i)) = true ∧ nmB i ≠ ⟨#[95]⟩ ∧ bl (nmB i) = [97 + i] ∧ 59 ∉ (xs i).data.toList ∧ (xs i).size ≤ 20 := by decide +kernel
theorem nmB_lt : ∀ i < 20, ∀ j < 20, i < j → lt (nmB i) (nmB j) := by decide +kernel
theorem under_name : nameB (bl ⟨#[95]⟩) = true ∧ bl ⟨#[95]⟩ = [95] := by decide
def selB (f : Nat → Bool) (i : Nat) : ByteArray := if f i then nmB i else ⟨#[95]⟩
def patK (f : Nat → Bool) : Nat → ByteArray
  | 0 => ByteArray.empty
  | k + 1 => ((patK f k ++ ⟨#[60]⟩) ++ selB f k) ++ ⟨#[62, 59]⟩
def lnK : Nat → ByteArray
  | 0 => ByteArray.empty
  | k + 1 => (lnK k ++ xs k) ++ sc
def itK (f : Nat → Bool) (k : Nat) : List Lb := (List.range k).map fun i => (selB f i, xs i)
def wantK (f : Nat → Bool) (k : Nat) : List ByteArray := ((List.range k).filter f).map nmB
theorem bl_patK (f : Nat → Bool) : ∀ k, bl (patK f k) = catP ((List.range k).map fun i => bl (selB f i))
  | 0 => rfl
  | k + 1 => by
    rw [patK, bl_append, bl_append, bl_append, bl_patK f k, List.range_succ, List.map_append, catP_app]
    simp [catP, bl]
theorem lineOf_app : ∀ a b, lineOf (a ++ b) = lineOf a ++ lineOf b
  | [], b => by simp [lineOf]
  | x :: a, b => by rw [List.cons_append, lineOf, lineOf, lineOf_app a b]; simp only [ByteArray.append_assoc]
theorem lnK_line (f : Nat → Bool) : ∀ k, lnK k = lineOf (itK f k)
  | 0 => rfl
  | k + 1 => by
    have ih := lnK_line f k
    unfold itK at ih ⊢
    rw [lnK, ih, List.range_succ, List.map_append, lineOf_app]
    simp [lineOf, ByteArray.append_assoc]
theorem lnK_size : ∀ k, k ≤ 20 → (lnK k).size ≤ 21 * k
  | 0, _ => Nat.zero_le _
  | k + 1, h => by
    have h1 := lnK_size k (by omega)
    have h2 := (nmB_all k (by omega)).2.2.2.2
    have h3 : sc.size = 1 := rfl
    rw [lnK, ByteArray.size_append, ByteArray.size_append]
    omega
theorem sel_name (f : Nat → Bool) {i : Nat} (h : i < 20) : nameB (bl (selB f i)) = true ∧ (bl (selB f i)).length = 1 := by
  unfold selB
  split
  · have := nmB_all i h
    exact ⟨this.1, by rw [this.2.2.1]; rfl⟩
  · exact ⟨under_name.1, by rw [under_name.2]; rfl⟩
theorem patK_size (f : Nat → Bool) {k : Nat} (h : k ≤ 20) : (patK f k).size = 4 * k := by
  rw [← bl_len, bl_patK, catP_len _ (fun n hn => ?_)]
  · simp
  · obtain ⟨i, hi, rfl⟩ := List.mem_map.1 hn
    exact (sel_name f (by have := List.mem_range.1 hi; omega)).2
theorem patK_segs (f : Nat → Bool) {k : Nat} (h : k ≤ 20) : segs 0 (bl (patK f k)) = ([], (List.range k).map fun i => (bl (selB f i), [59])) := by
  rw [bl_patK, segs_cat _ (fun n hn => ?_), List.map_map]
  · rfl
  · obtain ⟨i, hi, rfl⟩ := List.mem_map.1 hn
    exact (sel_name f (by have := List.mem_range.1 hi; omega)).1
theorem ofl_bl8 (s : ByteArray) : ofl (bl s) = s := bl_inj (bl_ofl (bl_byt s))
theorem patK_caps (f : Nat → Bool) {k : Nat} (h : k ≤ 20) : ofl (segs 0 (bl (patK f k))).1 = ByteArray.empty ∧ capsL (bl (patK f k)) = (itK f k).map fun x => (x.1, sc) := by
  unfold capsL itK
  rw [patK_segs f h]
  refine ⟨rfl, ?_⟩
  simp only [List.map_map]
  refine List.map_congr_left fun i _ => ?_
  show (ofl (bl (selB f i)), ofl [59]) = (selB f i, sc)
  rw [ofl_bl8]
  rfl
theorem sel_us (f : Nat → Bool) {i : Nat} (h : i < 20) : selB f i ≠ ⟨#[95]⟩ ↔ f i = true := by
  unfold selB
  split
  · next e => exact ⟨fun _ => e, fun _ => (nmB_all i h).2.1⟩
  · next e => exact ⟨fun k => absurd rfl k, fun k => absurd k e⟩
theorem nms_want (f : Nat → Bool) {k : Nat} (h : k ≤ 20) : nmsL (capsL (bl (patK f k))) = wantK f k := by
  rw [(patK_caps f h).2]
  unfold nmsL itK wantK
  rw [List.map_map, List.map_map, List.filter_map]
  have e1 : (List.range k).filter ((fun n => decide (n ≠ (⟨#[95]⟩ : ByteArray))) ∘ ((fun x : Lb => x.1) ∘ (fun x : Lb => (x.1, sc)) ∘ fun i => (selB f i, xs i))) = (List.range k).filter f := by
    refine List.filter_congr fun i hi => ?_
    have := sel_us f (i := i) (by have := List.mem_range.1 hi; omega)
    cases hf : f i with
    | true => exact decide_eq_true (this.2 hf)
    | false => exact decide_eq_false (fun k => by rw [this.1 k] at hf; cases hf)
  refine (congrArg (List.map _) e1).trans ?_
  refine List.map_congr_left fun i hi => ?_
  have hf := (List.mem_filter.1 hi).2
  show selB f i = nmB i
  unfold selB
  rw [if_pos hf]
theorem it_fold (f : Nat → Bool) {k : Nat} (h : k ≤ 20) : goM ((itK f k).map fun x => (x.1, sc)) (lnK k) [] = some ((itK f k).filter told) := by
  rw [lnK_line f k, goM_items _ _ (fun x hx => ?_), fold_told _ _ Ord.nil (fun x hx => by cases hx) ?_, List.nil_append]
  · unfold itK
    rw [List.filter_map, List.pairwise_map]
    have hp : (List.range k).Pairwise (fun a b => a < b) := List.pairwise_lt_range
    have hp2 := hp.filter ((fun x : Lb => decide (x.1 ≠ ⟨#[95]⟩)) ∘ fun i => (selB f i, xs i))
    refine hp2.imp_of_mem fun {a b} ha hb hab => ?_
    obtain ⟨ha1, ha2⟩ := List.mem_filter.1 ha
    obtain ⟨hb1, hb2⟩ := List.mem_filter.1 hb
    have ka := List.mem_range.1 ha1
    have kb := List.mem_range.1 hb1
    have fa := (sel_us f (i := a) (by omega)).1 (of_decide_eq_true ha2)
    have fb := (sel_us f (i := b) (by omega)).1 (of_decide_eq_true hb2)
    show lt (selB f a) (selB f b)
    unfold selB
    rw [if_pos fa, if_pos fb]
    exact nmB_lt a (by omega) b (by omega) hab
  · unfold itK at hx
    obtain ⟨i, hi, rfl⟩ := List.mem_map.1 hx
    exact (nmB_all i (by have := List.mem_range.1 hi; omega)).2.2.2.1
theorem it_match (f : Nat → Bool) {k : Nat} (h : k ≤ 20) : matchC (ofl (segs 0 (bl (patK f k))).1) (capsL (bl (patK f k))) (lnK k) = some ((itK f k).filter told) := by
  rw [(patK_caps f h).1, (patK_caps f h).2]
  unfold matchC
  rw [if_pos ⟨Nat.zero_le _, ByteArray.size_eq_zero_iff.1 (by rw [ByteArray.size_extract]; rfl)⟩]
  rw [show ByteArray.empty.size = 0 from rfl, ext_all]
  exact it_fold f h
theorem names_it (f : Nat → Bool) {k : Nat} (h : k ≤ 20) : (namesC (segs 0 (bl (patK f k))).2).map ofl = wantK f k := by
  rw [← nms_want f h]
  unfold namesC nmsL capsL
  rw [List.map_map, patK_segs f h]
  simp only [List.map_map, List.filter_map]
  have e1 : ∀ i ∈ List.range k, ((fun n => decide (n ≠ [95])) ∘ ((fun x : Cp => x.1) ∘ fun i => (bl (selB f i), [59]))) i = ((fun n => decide (n ≠ (⟨#[95]⟩ : ByteArray))) ∘ ((fun x : Lb => x.1) ∘ ((fun x : Cp => (ofl x.1, ofl x.2)) ∘ fun i => (bl (selB f i), [59])))) i := by
    intro i hi
    show decide (bl (selB f i) ≠ [95]) = decide (ofl (bl (selB f i)) ≠ ⟨#[95]⟩)
    rw [ofl_bl8]
    refine decide_eq_decide.2 ⟨fun k e => k (by rw [e]; exact under_name.2), fun k e => k (bl_inj (by rw [e]; exact under_name.2.symm))⟩
  exact congrArg (List.map _) (List.filter_congr e1)
theorem ok_pat (f : Nat → Bool) {k : Nat} (h : k ≤ 20) : okC (bl (patK f k)) ↔ wantK f k ≠ [] := by
  have hn := names_it f h
  unfold okC
  constructor
  · rintro ⟨_, _, h3⟩ e
    rw [e] at hn
    exact h3 (List.map_eq_nil_iff.1 hn)
  · intro h3
    refine ⟨by rw [bl_len, patK_size f h]; omega, ⟨fun x hx => ?_, ?_⟩, fun e => h3 (by rw [← hn, e]; rfl)⟩
    · rw [patK_segs f h] at hx
      obtain ⟨i, _, rfl⟩ := List.mem_map.1 ((List.dropLast_sublist _).subset hx)
      simp
    · have hd : (wantK f k).Nodup := by
        unfold wantK
        rw [List.Nodup, List.pairwise_map]
        have hp : (List.range k).Pairwise (fun a b => a < b) := List.pairwise_lt_range
        refine (hp.filter f).imp_of_mem fun {a b} ha hb hab => ?_
        have ka := List.mem_range.1 (List.mem_filter.1 ha).1
        have kb := List.mem_range.1 (List.mem_filter.1 hb).1
        exact lt_ne (nmB_lt a (by omega) b (by omega) hab)
      rw [← hn, List.Nodup, List.pairwise_map] at hd
      exact hd.imp fun hab e => hab (by rw [e])
theorem cut_it (f : Nat → Bool) {k : Nat} (h : k ≤ 20) (hw : wantK f k ≠ []) : cutV (patK f k) (lnK k) = some ((itK f k).filter told) := by
  unfold cutV
  rw [if_pos ((ok_pat f h).2 hw)]
  exact it_match f h
theorem ord_it (f : Nat → Bool) {k : Nat} (h : k ≤ 20) : Ord ((itK f k).filter told) := by
  refine ⟨fun x hx => ?_, ?_⟩
  · have := (List.mem_filter.1 hx).2
    unfold told at this
    simp only [Bool.and_eq_true, decide_eq_true_eq] at this
    exact this.2
  · unfold itK
    rw [List.filter_map, List.pairwise_map]
    have hp : (List.range k).Pairwise (fun a b => a < b) := List.pairwise_lt_range
    refine (hp.filter _).imp_of_mem fun {a b} ha hb hab => ?_
    obtain ⟨ha1, ha2⟩ := List.mem_filter.1 ha
    obtain ⟨hb1, hb2⟩ := List.mem_filter.1 hb
    have ka := List.mem_range.1 ha1
    have kb := List.mem_range.1 hb1
    have ha3 : told (selB f a, xs a) = true := ha2
    have hb3 : told (selB f b, xs b) = true := hb2
    unfold told at ha3 hb3
    simp only [Bool.and_eq_true, decide_eq_true_eq] at ha3 hb3
    have fa := (sel_us f (i := a) (by omega)).1 ha3.1
    have fb := (sel_us f (i := b) (by omega)).1 hb3.1
    show lt (selB f a) (selB f b)
    unfold selB
    rw [if_pos fa, if_pos fb]
    exact nmB_lt a (by omega) b (by omega) hab
theorem nmB_inj {i j : Nat} (hi : i < 20) (hj : j < 20) (e : nmB i = nmB j) : i = j := by
  rcases Nat.lt_trichotomy i j with h | h | h
  · exact absurd e (lt_ne (nmB_lt i hi j hj h))
  · exact h
  · exact absurd e.symm (lt_ne (nmB_lt j hj i hi h))
theorem pick_it (f : Nat → Bool) {k : Nat} (h : k ≤ 20) : pickL ((itK (fun _ => true) k).filter told) (chosen (wantK f k) true) = (itK f k).filter told := by
  rw [pickL, if_pos (ord_it _ h)]
  unfold itK
  rw [List.filter_filter, List.filter_map, List.filter_map]
  have e1 : ∀ i ∈ List.range k, ((fun x : Lb => chosen (wantK f k) true x.1 && told x) ∘ fun i => (selB (fun _ => true) i, xs i)) i = (told ∘ fun i => (selB f i, xs i)) i := by
    intro i hi
    have ki := List.mem_range.1 hi
    show (chosen (wantK f k) true (nmB i) && told (nmB i, xs i)) = told (selB f i, xs i)
    have hm : nmB i ∈ wantK f k ↔ f i = true := by
      unfold wantK
      rw [List.mem_map]
      constructor
      · rintro ⟨j, hj, e⟩
        obtain ⟨hj1, hj2⟩ := List.mem_filter.1 hj
        have kj := List.mem_range.1 hj1
        rw [← nmB_inj (i := j) (j := i) (by omega) (by omega) e]
        exact hj2
      · exact fun hf => ⟨i, List.mem_filter.2 ⟨hi, hf⟩, rfl⟩
    unfold chosen
    cases hf : f i with
    | true =>
      rw [decide_eq_true (hm.2 hf)]
      unfold selB
      rw [if_pos hf]
      rfl
    | false =>
      rw [decide_eq_false (fun q => by rw [hm.1 q] at hf; cases hf)]
      unfold selB
      rw [if_neg (by rw [hf]; decide)]
      rfl
  rw [List.filter_congr e1]
  refine List.map_congr_left fun i hi => ?_
  obtain ⟨hi1, hi2⟩ := List.mem_filter.1 hi
  have ki := List.mem_range.1 hi1
  have h3 : told (selB f i, xs i) = true := hi2
  unfold told at h3
  simp only [Bool.and_eq_true, decide_eq_true_eq] at h3
  have fa := (sel_us f (i := i) (by omega)).1 h3.1
  unfold selB
  rw [if_pos fa]
  rfl
theorem wantK_succ (f : Nat → Bool) (k : Nat) : wantK f (k + 1) = wantK f k ++ (if f k then [nmB k] else []) := by
  unfold wantK
  rw [List.range_succ, List.filter_append, List.map_append]
  cases h : f k <;> simp [h]
theorem wantK_all {k : Nat} (h : 0 < k) : wantK (fun _ => true) k ≠ [] := by
  intro e
  have hm : nmB 0 ∈ wantK (fun _ => true) k := List.mem_map.2 ⟨0, List.mem_filter.2 ⟨List.mem_range.2 h, rfl⟩, rfl⟩
  rw [e] at hm
  cases hm
end Go.Proofs.Ytomjdicedjdpnaa
