/- Sets of runes: how the program joins what is sorted; how the document goes from one end to the next. -/
import Derived.Test.YtjnnaafkdgoflaaRMath
namespace Go.Proofs.Ytjnnaafkdgoflaa

/-- What came so far is what was joined so far. -/
def MSt (pre out : List Rg) : Prop := Vl out ∧ ∀ n, inR out n ↔ inR pre n
theorem inR_snoc (l : List Rg) (x : Rg) (n : Int) : inR (l ++ [x]) n ↔ inR l n ∨ (x.1 ≤ n ∧ n ≤ x.2) := by
  rw [inR_append, inR_cons]
  exact ⟨fun h => h.imp id (fun h => h.elim id (fun k => absurd k (inR_nil n))), fun h => h.imp id .inl⟩
theorem MSt.nil : MSt [] [] := ⟨Vl.nil, fun _ => Iff.rfl⟩
theorem MSt.join {pre o : List Rg} {a x : Rg} (h : MSt pre (o ++ [a])) (hx : 0 ≤ x.1 ∧ x.1 ≤ x.2 ∧ x.2 ≤ 1114111) (h1 : a.1 ≤ x.1) (h2 : x.1 ≤ a.2 + 1) : MSt (pre ++ [x]) (o ++ [(a.1, max a.2 x.2)]) := by
  obtain ⟨hv, ha, ho⟩ := h.1.front
  refine ⟨hv.snoc (by dsimp only; omega) ho, fun n => ?_⟩
  rw [inR_snoc, inR_snoc, ← h.2, inR_snoc, or_assoc]
  dsimp only
  refine or_congr_right ?_
  omega
theorem MSt.more {pre o : List Rg} {a x : Rg} (h : MSt pre (o ++ [a])) (hx : 0 ≤ x.1 ∧ x.1 ≤ x.2 ∧ x.2 ≤ 1114111) (h2 : a.2 + 1 < x.1) : MSt (pre ++ [x]) (o ++ [a] ++ [x]) := by
  obtain ⟨hv, ha, ho⟩ := h.1.front
  refine ⟨h.1.snoc hx fun y hy => ?_, fun n => by rw [inR_snoc (o ++ [a]), inR_snoc pre, h.2]⟩
  rcases List.mem_append.1 hy with hy | hy
  · have := ho y hy; omega
  · rw [List.mem_singleton.1 hy]; omega
theorem MSt.first {x : Rg} (hx : 0 ≤ x.1 ∧ x.1 ≤ x.2 ∧ x.2 ≤ 1114111) : MSt [x] [x] :=
  ⟨Vl.nil.snoc hx (fun y hy => by cases hy), fun _ => Iff.rfl⟩
/-- What is no rune is cut off. -/
def clipR (x : Rg) : Rg := (max x.1 0, min x.2 1114111)
def clipL (l : List Rg) : List Rg := (l.map clipR).filter fun x => decide (x.1 ≤ x.2)
theorem clipL_snoc (l : List Rg) (x : Rg) : clipL (l ++ [x]) = clipL l ++ (if (clipR x).1 ≤ (clipR x).2 then [clipR x] else []) := by
  simp only [clipL, List.map_append, List.filter_append, List.map_cons, List.map_nil]
  congr 1
  by_cases h : (clipR x).1 ≤ (clipR x).2
  · rw [if_pos h, List.filter_cons_of_pos (by simpa using h), List.filter_nil]
  · rw [if_neg h, List.filter_cons_of_neg (by simpa using h), List.filter_nil]
theorem clipL_len (l : List Rg) : (clipL l).length ≤ l.length := by
  refine Nat.le_trans (List.length_filter_le _ _) ?_
  rw [List.length_map]; exact Nat.le_refl _
theorem clipL_in {l : List Rg} {x : Rg} (h : x ∈ clipL l) : 0 ≤ x.1 ∧ x.1 ≤ x.2 ∧ x.2 ≤ 1114111 := by
  obtain ⟨hm, hd⟩ := List.mem_filter.1 h
  obtain ⟨y, _, rfl⟩ := List.mem_map.1 hm
  have := of_decide_eq_true hd
  unfold clipR at this ⊢
  dsimp only at this ⊢
  omega
theorem clipL_has (l : List Rg) (n : Int) : inR (clipL l) n ↔ has l n := by
  constructor
  · rintro ⟨x, hx, h1, h2⟩
    have h0 := clipL_in hx
    obtain ⟨hm, _⟩ := List.mem_filter.1 hx
    obtain ⟨y, hy, rfl⟩ := List.mem_map.1 hm
    unfold clipR at h0 h1 h2
    dsimp only at h0 h1 h2
    exact ⟨⟨by omega, by omega⟩, y, hy, by omega, by omega⟩
  · rintro ⟨⟨h0, h1⟩, y, hy, h2, h3⟩
    refine ⟨clipR y, List.mem_filter.2 ⟨List.mem_map_of_mem hy, decide_eq_true ?_⟩, ?_, ?_⟩ <;> unfold clipR <;> dsimp only <;> omega
theorem inR_perm {a b : List Rg} (h : ∀ x, x ∈ a ↔ x ∈ b) (n : Int) : inR a n ↔ inR b n :=
  ⟨fun ⟨x, hx, k⟩ => ⟨x, (h x).1 hx, k⟩, fun ⟨x, hx, k⟩ => ⟨x, (h x).2 hx, k⟩⟩
/-- The least number from r on that a list has (or has not), or the one behind the greatest rune. -/
def Nx (l : List Rg) (r : Int) (b : Bool) (m : Int) : Prop := r ≤ m ∧ m ≤ 1114112 ∧ (∀ n, r ≤ n → n < m → (has l n ↔ b = false)) ∧ (m ≤ 1114111 → (has l m ↔ b = true))
theorem Nx.over {l : List Rg} {b : Bool} : Nx l 1114112 b 1114112 := ⟨by omega, by omega, fun n h1 h2 => by omega, fun h => by omega⟩
theorem Nx.here {l : List Rg} {r : Int} {b : Bool} (h1 : r ≤ 1114111) (h : has l r ↔ b = true) : Nx l r b r := ⟨by omega, by omega, fun n h1 h2 => by omega, fun _ => h⟩
theorem Nx.last {l : List Rg} {r : Int} {x : Rg} (h0 : 0 ≤ r) (h1 : r ≤ 1114111) (hx : x ∈ l) (h2 : x.1 ≤ r) (h4 : 1114111 ≤ x.2) : Nx l r false 1114112 :=
  ⟨by omega, by omega, fun n k1 k2 => ⟨fun _ => rfl, fun _ => ⟨⟨by omega, by omega⟩, x, hx, by omega, by omega⟩⟩, fun h => by omega⟩
theorem Nx.out {l : List Rg} {r m : Int} {x : Rg} (h0 : 0 ≤ r) (hx : x ∈ l) (h2 : x.1 ≤ r) (h3 : r ≤ x.2) (h4 : x.2 < 1114111) (h : Nx l (x.2 + 1) false m) : Nx l r false m := by
  refine ⟨by have := h.1; omega, h.2.1, fun n k1 k2 => ?_, h.2.2.2⟩
  by_cases hn : x.2 + 1 ≤ n
  · exact h.2.2.1 n hn k2
  · exact ⟨fun _ => rfl, fun _ => ⟨⟨by omega, by omega⟩, x, hx, by omega, by omega⟩⟩
/-- The least beginning behind r. -/
def Best (l : List Rg) (r m : Int) : Prop := r < m ∧ m ≤ 1114112 ∧ ∀ x ∈ l, r < x.1 → m ≤ x.1
theorem Best.none {l : List Rg} {r m : Int} (hb : Best l r m) (hr : ¬ has l r) (h0 : isRn r) {n : Int} (h1 : r ≤ n) (h2 : n < m) : ¬ has l n := by
  rintro ⟨hn, x, hx, k1, k2⟩
  by_cases h : r < x.1
  · have := hb.2.2 x hx h; omega
  · exact hr ⟨h0, x, hx, by omega, by omega⟩
theorem Nx.far {l : List Rg} {r : Int} (hb : Best l r 1114112) (hr : ¬ has l r) (h0 : isRn r) : Nx l r true 1114112 :=
  ⟨by have := h0.2; omega, by omega, fun n k1 k2 => ⟨fun h => absurd h (hb.none hr h0 k1 k2), fun h => by cases h⟩, fun h => by omega⟩
theorem Nx.best {l : List Rg} {r m : Int} (hb : Best l r m) (hr : ¬ has l r) (h0 : isRn r) (hm : has l m) : Nx l r true m :=
  ⟨by have := hb.1; omega, hb.2.1, fun n k1 k2 => ⟨fun h => absurd h (hb.none hr h0 k1 k2), fun h => by cases h⟩, fun _ => ⟨fun _ => rfl, fun _ => hm⟩⟩
theorem Nx.on {l : List Rg} {r m k : Int} (hb : Best l r m) (hr : ¬ has l r) (h0 : isRn r) (hm : ¬ has l m) (h : Nx l (m + 1) true k) : Nx l r true k := by
  refine ⟨by have := hb.1; have := h.1; omega, h.2.1, fun n k1 k2 => ?_, h.2.2.2⟩
  refine ⟨fun hn => ?_, fun h => by cases h⟩
  by_cases c1 : n < m
  · exact absurd hn (hb.none hr h0 k1 c1)
  · by_cases c2 : n = m
    · subst c2; exact absurd hn hm
    · exact (h.2.2.1 n (by omega) k2).1 hn
/-- From one end to the next: out has all that lies ahead of r. -/
def Gn (l : List Rg) (b : Bool) (out : List Rg) (r : Int) : Prop := Vl out ∧ (∀ y ∈ out, r ≤ 1114111 → y.2 + 2 ≤ r) ∧ 0 ≤ r ∧ r ≤ 1114112 ∧ (r ≤ 1114111 → (has l r ↔ b = true)) ∧ ∀ n, inR out n ↔ isRn n ∧ n < r ∧ (has l n ↔ b = true)
theorem Gn.start {l : List Rg} {b : Bool} {m : Int} (h : Nx l 0 b m) : Gn l b [] m := by
  refine ⟨Vl.nil, fun y hy => (by cases hy), h.1, h.2.1, h.2.2.2, fun n => ⟨fun k => absurd k (inR_nil n), fun ⟨k0, k1, k2⟩ => ?_⟩⟩
  have k3 := h.2.2.1 n k0.1 k1
  cases b
  · exact absurd (k3.2 rfl) (fun k => by have := k2.1 k; cases this)
  · have := k3.1 (k2.2 rfl); cases this
theorem Gn.step {l : List Rg} {b : Bool} {out : List Rg} {r t m : Int} (h : Gn l b out r) (hr : r ≤ 1114111) (h1 : Nx l r (!b) t) (h2 : Nx l t b m) : Gn l b (out ++ [(r, t - 1)]) m := by
  obtain ⟨hv, hy, h0, _, hb, hn⟩ := h
  have hrt : r < t := by
    rcases Int.lt_or_eq_of_le h1.1 with k | k
    · exact k
    · have k1 := h1.2.2.2 (by omega)
      rw [← k] at k1
      have := hb hr
      cases b <;> simp_all
  have hb1 : ∀ n, r ≤ n → n < t → (has l n ↔ b = true) := fun n k1 k2 => by
    have := h1.2.2.1 n k1 k2
    cases b <;> simpa using this
  have htm : t ≤ 1114111 → t < m := fun ht => by
    rcases Int.lt_or_eq_of_le h2.1 with k | k
    · exact k
    · have k1 := h2.2.2.2 (by omega)
      have k2 := h1.2.2.2 ht
      rw [← k] at k1
      cases b <;> simp_all
  have ht9 := h1.2.1
  have hm1 := h2.1
  refine ⟨hv.snoc ⟨h0, by dsimp only; omega, by dsimp only; omega⟩ (fun y k => hy y k hr), fun y k hm => ?_, by omega, h2.2.1, h2.2.2.2, fun n => ?_⟩
  · rcases List.mem_append.1 k with k | k
    · have := hy y k hr; omega
    · rw [List.mem_singleton.1 k]
      dsimp only
      have := htm (by omega)
      omega
  · rw [inR_snoc, hn]
    dsimp only
    constructor
    · rintro (⟨k0, k1, k2⟩ | ⟨k1, k2⟩)
      · exact ⟨k0, by omega, k2⟩
      · exact ⟨⟨by omega, by omega⟩, by omega, hb1 n k1 (by omega)⟩
    · rintro ⟨k0, k1, k2⟩
      by_cases c1 : n < r
      · exact .inl ⟨k0, c1, k2⟩
      · by_cases c2 : n < t
        · exact .inr ⟨by omega, by omega⟩
        · have k3 := h2.2.2.1 n (by omega) k1
          cases b
          · exact absurd (k3.2 rfl) (fun k => by have := k2.1 k; cases this)
          · have := k3.1 (k2.2 rfl); cases this
theorem Gn.all {l : List Rg} {b : Bool} {out : List Rg} {r : Int} (h : Gn l b out r) (hr : 1114111 < r) : Of (fun n => isRn n ∧ (has l n ↔ b = true)) out :=
  ⟨h.1, fun n => (h.2.2.2.2.2 n).trans ⟨fun k => ⟨k.1, k.2.2⟩, fun k => ⟨k.1, by have := k.1.2; omega, k.2⟩⟩⟩
end Go.Proofs.Ytjnnaafkdgoflaa
