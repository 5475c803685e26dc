/- The patterns of CutsBack, made part by part. -/
import Derived.Test.YtomjdicedjdpnaaCBackM
namespace Go.Proofs.Ytomjdicedjdpnaa
open Go.RowKit

theorem catQ_app : ∀ a b, catQ (a ++ b) = catQ a ++ catQ b
  | [], b => rfl
  | x :: a, b => by rw [List.cons_append, catQ, catQ, catQ_app a b]; simp
theorem lineP_app : ∀ (a c : List Pt3) (b : ByteArray), lineP (a ++ c) b = lineP a (lineP c b)
  | [], c, b => rfl
  | x :: a, c, b => by rw [List.cons_append, lineP, lineP, lineP_app a c b]
theorem lineP_end : ∀ (a : List Pt3) (b : ByteArray), lineP a b = lineP a ByteArray.empty ++ b
  | [], b => by simp [lineP]
  | x :: a, b => by rw [lineP, lineP, lineP_end a b]; simp only [ByteArray.append_assoc]
def lt60 : ByteArray := ⟨#[60]⟩
/-- The names and pieces, as bytes. -/
def bls (m : List Lb) : List (List Nat × List Nat) := m.map fun x => (bl x.1, bl x.2)
/-- A pattern: '<', and the parts. -/
def IsPat (P : ByteArray) (m : List Lb) : Prop := bl P = 60 :: catQ (bls m)
theorem isPat_nil : IsPat lt60 [] := by unfold IsPat; rfl
theorem isPat_snoc {P : ByteArray} {m : List Lb} (h : IsPat P m) (n p : ByteArray) : IsPat ((((P ++ ⟨#[60]⟩) ++ n) ++ ⟨#[62]⟩) ++ p) (m ++ [(n, p)]) := by
  unfold IsPat at h ⊢
  unfold bls at h ⊢
  simp only [bl_append, h, List.map_append, catQ_app]
  simp [catQ, bl]
/-- What the parts of a pattern must be. -/
def goodM (m : List Lb) : Prop := (∀ x ∈ m, nameB (bl x.1) = true ∧ x.1 ≠ ⟨#[95]⟩ ∧ 60 ∉ bl x.2) ∧ (m.map (·.1)).Nodup ∧ ∀ x ∈ m.dropLast, x.2 ≠ ByteArray.empty
theorem pat_segs {P : ByteArray} {m : List Lb} (h : IsPat P m) (hg : goodM m) : segs 0 (bl P) = ([60], bls m) := by
  rw [show bl P = 60 :: catQ (bls m) from h]
  refine segs_back _ fun x hx => ?_
  obtain ⟨y, hy, rfl⟩ := List.mem_map.1 hx
  exact ⟨(hg.1 y hy).1, (hg.1 y hy).2.2⟩
theorem pat_start {P : ByteArray} {m : List Lb} (h : IsPat P m) (hg : goodM m) : ofl (segs 0 (bl P)).1 = lt60 ∧ capsL (bl P) = m := by
  unfold capsL
  rw [pat_segs h hg]
  refine ⟨rfl, ?_⟩
  unfold bls
  rw [List.map_map]
  refine (List.map_congr_left fun x _ => ?_).trans (List.map_id m)
  show (ofl (bl x.1), ofl (bl x.2)) = x
  rw [ofl_bl8, ofl_bl8]
theorem pat_ok {P : ByteArray} {m : List Lb} (h : IsPat P m) (hg : goodM m) (hm : m ≠ []) (hs : P.size ≤ 256) : okC (bl P) := by
  unfold okC
  rw [pat_segs h hg, bl_len]
  have hf : namesC (bls m) = m.map fun x => bl x.1 := by
    unfold namesC bls
    rw [List.map_map]
    refine List.filter_eq_self.2 fun n hn => ?_
    obtain ⟨x, hx, rfl⟩ := List.mem_map.1 hn
    refine decide_eq_true fun e => (hg.1 x hx).2.1 (bl_inj ?_)
    exact e.trans under_name.2.symm
  refine ⟨hs, ⟨fun x hx => ?_, ?_⟩, fun e => hm ?_⟩
  · unfold bls at hx
    rw [← List.map_dropLast] at hx
    obtain ⟨y, hy, rfl⟩ := List.mem_map.1 hx
    intro e
    have e2 : bl y.2 = [] := e
    refine hg.2.2 y hy (ByteArray.size_eq_zero_iff.1 ?_)
    rw [← bl_len, e2]
    rfl
  · show (namesC (bls m)).Nodup
    rw [hf, List.Nodup, List.pairwise_map]
    have hd := hg.2.1
    rw [List.Nodup, List.pairwise_map] at hd
    exact hd.imp fun hab e => hab (bl_inj e)
  · rw [show namesC ([60], bls m).2 = namesC (bls m) from rfl, hf] at e
    exact List.map_eq_nil_iff.1 e
theorem pat_cut {P : ByteArray} {m : List Lb} (h : IsPat P m) (hg : goodM m) (hm : m ≠ []) (hs : P.size ≤ 256) (r : ByteArray) : cutV P (lt60 ++ r) = goM m r [] := by
  unfold cutV
  rw [if_pos (pat_ok h hg hm hs), (pat_start h hg).1, (pat_start h hg).2]
  unfold matchC
  have e1 := ext_left lt60 r
  have e2 := ext_right ByteArray.empty lt60 r
  rw [show (ByteArray.empty ++ (lt60 ++ r)) = lt60 ++ r by simp, show ByteArray.empty.size = 0 from rfl, Nat.zero_add] at e2
  rw [if_pos ⟨by rw [ByteArray.size_append]; omega, e1⟩, e2]
/-- The parts as names and pieces; what is set. -/
def mOf (l : List Pt3) : List Lb := l.map fun x => (x.1, x.2.2)
def wOf (l : List Pt3) : List Lb := l.foldl (fun a x => putN x.1 x.2.1 a) []
/-- Parts made so far. -/
def Made (k : Nat) (l : List Pt3) : Prop := l.map (·.1) = (List.range k).map nmB ∧ ∀ x ∈ l, fineP x ∧ 60 ∉ bl x.2.2 ∧ x.2.2.size ≤ 3 ∧ x.2.1.size ≤ 60
theorem made_nil : Made 0 [] := ⟨rfl, fun x h => by cases h⟩
theorem made_snoc {k : Nat} {l : List Pt3} (h : Made k l) {s p : ByteArray} (hf : fineP (nmB k, s, p)) (hp : 60 ∉ bl p) (hps : p.size ≤ 3) (hss : s.size ≤ 60) : Made (k + 1) (l ++ [(nmB k, s, p)]) := by
  refine ⟨by rw [List.map_append, h.1, List.range_succ, List.map_append]; rfl, fun x hx => ?_⟩
  rcases List.mem_append.1 hx with hx | hx
  · exact h.2 x hx
  · rw [List.mem_singleton.1 hx]
    exact ⟨hf, hp, hps, hss⟩
theorem mOf_snoc (l : List Pt3) (n s p : ByteArray) : mOf (l ++ [(n, s, p)]) = mOf l ++ [(n, p)] := by unfold mOf; rw [List.map_append]; rfl
theorem wOf_snoc {k : Nat} (hk : k < 20) (l : List Pt3) (s p : ByteArray) : wOf (l ++ [(nmB k, s, p)]) = setL (wOf l) (nmB k) s := by
  unfold wOf
  rw [List.foldl_append]
  show putN (nmB k) s _ = _
  unfold putN
  rw [if_neg (nmB_all k hk).2.1]
theorem made_len {k : Nat} {l : List Pt3} (h : Made k l) : l.length = k := by
  have := congrArg List.length h.1
  simpa using this
def zB : ByteArray := ⟨#[122]⟩
theorem nmB_z : ∀ i < 20, nmB i ≠ zB := by decide +kernel
theorem z_name : nameB (bl zB) = true ∧ zB ≠ ⟨#[95]⟩ := by decide
theorem made_good {k : Nat} (hk : k ≤ 10) {l : List Pt3} (h : Made k l) : goodM (mOf l) ∧ goodM (mOf l ++ [(zB, ByteArray.empty)]) := by
  have hn : (mOf l).map (·.1) = (List.range k).map nmB := by
    rw [← h.1]
    unfold mOf
    rw [List.map_map]
    rfl
  have hx : ∀ x ∈ mOf l, (∃ i, i < k ∧ x.1 = nmB i) ∧ x.2 ≠ ByteArray.empty ∧ 60 ∉ bl x.2 := by
    intro x hx
    have h1 : x.1 ∈ (List.range k).map nmB := by rw [← hn]; exact List.mem_map.2 ⟨x, hx, rfl⟩
    obtain ⟨i, hi, e⟩ := List.mem_map.1 h1
    unfold mOf at hx
    obtain ⟨y, hy, rfl⟩ := List.mem_map.1 hx
    exact ⟨⟨i, List.mem_range.1 hi, e.symm⟩, (h.2 y hy).1.1, (h.2 y hy).2.1⟩
  have hd : ((mOf l).map (·.1)).Nodup := by
    rw [hn, List.Nodup, List.pairwise_map]
    have hp : (List.range k).Pairwise (fun a b => a < b) := List.pairwise_lt_range
    refine hp.imp_of_mem fun {a b} ha hb hab => ?_
    have ka := List.mem_range.1 ha
    have kb := List.mem_range.1 hb
    exact lt_ne (nmB_lt a (by omega) b (by omega) hab)
  refine ⟨⟨fun x h1 => ?_, hd, fun x h1 => (hx x ((List.dropLast_sublist _).subset h1)).2.1⟩, ⟨fun x h1 => ?_, ?_, fun x h1 => ?_⟩⟩
  · obtain ⟨⟨i, hi, e⟩, _, h3⟩ := hx x h1
    have q := nmB_all i (by omega)
    exact ⟨by rw [e]; exact q.1, by rw [e]; exact q.2.1, h3⟩
  · rcases List.mem_append.1 h1 with h1 | h1
    · obtain ⟨⟨i, hi, e⟩, _, h3⟩ := hx x h1
      have q := nmB_all i (by omega)
      exact ⟨by rw [e]; exact q.1, by rw [e]; exact q.2.1, h3⟩
    · rw [List.mem_singleton.1 h1]
      exact ⟨z_name.1, z_name.2, by decide⟩
  · rw [List.map_append, List.nodup_append]
    refine ⟨hd, by simp, fun a ha b hb => ?_⟩
    rw [hn] at ha
    obtain ⟨i, hi, rfl⟩ := List.mem_map.1 ha
    have := List.mem_range.1 hi
    have hb' : b = zB := by simpa using hb
    rw [hb']
    exact nmB_z i (by omega)
  · rw [List.dropLast_concat] at h1
    exact (hx x h1).2.1
/-- What both patterns take off the line. -/
theorem back_cuts {k : Nat} (hk : k ≤ 10) (hk0 : 0 < k) {l : List Pt3} (h : Made k l) {P Q L b : ByteArray} (hP : IsPat P (mOf l)) (hQ : IsPat Q (mOf l ++ [(zB, ByteArray.empty)])) (hPs : P.size ≤ 256) (hQs : Q.size ≤ 256) (hL : L = lt60 ++ lineP l b) :
    cutV P L = some (wOf l) ∧ cutV Q L = some (setL (wOf l) zB b) := by
  have hg := made_good hk h
  have hne : mOf l ≠ [] := by
    intro e
    have := made_len h
    unfold mOf at e
    rw [List.map_eq_nil_iff.1 e] at this
    simp at this
    omega
  have h1 := goM_parts l b [] [] (fun x hx => (h.2 x hx).1)
  have h2 := goM_parts l b [(zB, ByteArray.empty)] [] (fun x hx => (h.2 x hx).1)
  rw [List.append_nil] at h1
  subst hL
  constructor
  · rw [pat_cut hP hg.1 hne hPs]
    exact h1
  · rw [pat_cut hQ hg.2 (by simp) hQs]
    refine h2.trans ?_
    rw [goM, if_pos rfl, goM]
    unfold putN
    rw [if_neg z_name.2]
    rfl
end Go.Proofs.Ytomjdicedjdpnaa
