/- Compare is an order; keys and texts tell labels: the mathematics. -/
import Derived.Test.YtdeohgfnlcbncaaDoorLNearM
namespace Go.Proofs.YtdeohgfnlcbncaaDoor
open Go.RowKit Go.Shelf Go.Lib

theorem cmpL_self (a : List Lb) : cmpL a a = 0 := (cmpL_eq a a).2 rfl
theorem cmpL_n1 {x y : Lb} (a b : List Lb) (h : lt x.1 y.1) : cmpL (x :: a) (y :: b) = -1 := by
  rw [cmpL, if_neg (lt_ne h), if_pos h]
theorem cmpL_n2 {x y : Lb} (a b : List Lb) (h : lt y.1 x.1) : cmpL (x :: a) (y :: b) = 1 := by
  rw [cmpL, if_neg (Ne.symm (lt_ne h)), if_neg (lt_asymm h)]
theorem cmpL_v1 {x y : Lb} (a b : List Lb) (e : x.1 = y.1) (h : lt x.2 y.2) : cmpL (x :: a) (y :: b) = -1 := by
  rw [cmpL, if_pos e, if_neg (lt_ne h), if_pos h]
theorem cmpL_v2 {x y : Lb} (a b : List Lb) (e : x.1 = y.1) (h : lt y.2 x.2) : cmpL (x :: a) (y :: b) = 1 := by
  rw [cmpL, if_pos e, if_neg (Ne.symm (lt_ne h)), if_neg (lt_asymm h)]
theorem cmpL_t {x y : Lb} (a b : List Lb) (e : x.1 = y.1) (h : x.2 = y.2) : cmpL (x :: a) (y :: b) = cmpL a b := by
  rw [cmpL, if_pos e, if_pos h]
/-- How two heads stand. -/
theorem heads (x y : Lb) : lt x.1 y.1 ∨ lt y.1 x.1 ∨ (x.1 = y.1 ∧ lt x.2 y.2) ∨ (x.1 = y.1 ∧ lt y.2 x.2) ∨ (x.1 = y.1 ∧ x.2 = y.2) := by
  rcases lt_tri x.1 y.1 with h | h | h
  · exact .inl h
  · rcases lt_tri x.2 y.2 with k | k | k
    · exact .inr (.inr (.inl ⟨h, k⟩))
    · exact .inr (.inr (.inr (.inr ⟨h, k⟩)))
    · exact .inr (.inr (.inr (.inl ⟨h, k⟩)))
  · exact .inr (.inl h)
theorem cmpL_neg : ∀ a b : List Lb, cmpL b a = - cmpL a b
  | [], [] => by simp [cmpL]
  | [], _ :: _ => by simp [cmpL]
  | _ :: _, [] => by simp [cmpL]
  | x :: a, y :: b => by
    have ih := cmpL_neg a b
    rcases heads x y with h | h | ⟨e, h⟩ | ⟨e, h⟩ | ⟨e, h⟩
    · rw [cmpL_n1 a b h, cmpL_n2 b a h]; rfl
    · rw [cmpL_n2 a b h, cmpL_n1 b a h]
    · rw [cmpL_v1 a b e h, cmpL_v2 b a e.symm h]; rfl
    · rw [cmpL_v2 a b e h, cmpL_v1 b a e.symm h]
    · rw [cmpL_t a b e h, cmpL_t b a e.symm h.symm, ih]
theorem cmpL_mid : ∀ a b : List Lb, -1 ≤ cmpL a b ∧ cmpL a b ≤ 1
  | [], [] => by simp [cmpL]
  | [], _ :: _ => by simp [cmpL]
  | _ :: _, [] => by simp [cmpL]
  | x :: a, y :: b => by
    have ih := cmpL_mid a b
    rcases heads x y with h | h | ⟨e, h⟩ | ⟨e, h⟩ | ⟨e, h⟩
    · rw [cmpL_n1 a b h]; omega
    · rw [cmpL_n2 a b h]; omega
    · rw [cmpL_v1 a b e h]; omega
    · rw [cmpL_v2 a b e h]; omega
    · rw [cmpL_t a b e h]; exact ih
theorem cmpL_trans : ∀ a b c : List Lb, cmpL a b ≤ 0 → cmpL b c ≤ 0 → cmpL a c ≤ 0 ∧ (cmpL a b < 0 → cmpL a c < 0)
  | [], [], [] => by simp [cmpL]
  | [], [], _ :: _ => by simp [cmpL]
  | [], _ :: _, [] => by simp [cmpL]
  | [], _ :: _, _ :: _ => by simp [cmpL]
  | _ :: _, [], _ => by simp [cmpL]
  | _ :: _, _ :: _, [] => by simp [cmpL]
  | x :: a, y :: b, z :: c => by
    intro h1 h2
    have ih := cmpL_trans a b c
    rcases heads x y with h | h | ⟨e, h⟩ | ⟨e, h⟩ | ⟨e, h⟩
    · rcases heads y z with k | k | ⟨f, k⟩ | ⟨f, k⟩ | ⟨f, k⟩
      · rw [cmpL_n1 a c (lt_trans h k)]; omega
      · rw [cmpL_n2 b c k] at h2; omega
      · rw [cmpL_n1 a c (f ▸ h)]; omega
      · rw [cmpL_v2 b c f k] at h2; omega
      · rw [cmpL_n1 a c (f ▸ h)]; omega
    · rw [cmpL_n2 a b h] at h1; omega
    · rcases heads y z with k | k | ⟨f, k⟩ | ⟨f, k⟩ | ⟨f, k⟩
      · rw [cmpL_n1 a c (e ▸ k)]; omega
      · rw [cmpL_n2 b c k] at h2; omega
      · rw [cmpL_v1 a c (e.trans f) (lt_trans h k)]; omega
      · rw [cmpL_v2 b c f k] at h2; omega
      · rw [cmpL_v1 a c (e.trans f) (k ▸ h)]; omega
    · rw [cmpL_v2 a b e h] at h1; omega
    · rw [cmpL_t a b e h] at h1 ⊢
      rcases heads y z with k | k | ⟨f, k⟩ | ⟨f, k⟩ | ⟨f, k⟩
      · rw [cmpL_n1 a c (e ▸ k)]; omega
      · rw [cmpL_n2 b c k] at h2; omega
      · rw [cmpL_v1 a c (e.trans f) (h ▸ k)]; omega
      · rw [cmpL_v2 b c f k] at h2; omega
      · rw [cmpL_t b c f k] at h2
        rw [cmpL_t a c (e.trans f) (h.trans k)]
        exact ih h1 h2

/-! Keys. -/
theorem decD_one {i : Nat} (h : i < 10) : Lib.decDigits i = [UInt8.ofNat (48 + i)] := by rw [Lib.decDigits, dif_pos h]
theorem partK_small {s : ByteArray} (h : s.size < 10) : partK s = (48 + s.size) :: 58 :: bl s := by
  unfold partK
  rw [decD_one h]
  show (UInt8.ofNat (48 + s.size)).toNat :: _ = _
  rw [UInt8.toNat_ofNat', Nat.mod_eq_of_lt (by omega)]
  rfl
theorem partK_inj {s t : ByteArray} (hs : s.size < 10) (ht : t.size < 10) {r r' : List Nat} (h : partK s ++ r = partK t ++ r') : s = t ∧ r = r' := by
  rw [partK_small hs, partK_small ht] at h
  injection h with h1 h2
  injection h2 with _ h2
  have hl : (bl s).length = (bl t).length := by rw [bl_len, bl_len]; omega
  obtain ⟨h3, h4⟩ := List.append_inj h2 hl
  exact ⟨bl_inj h3, h4⟩
def SmallL (l : List Lb) : Prop := ∀ x ∈ l, x.1.size < 10 ∧ x.2.size < 10
theorem partK_ne (s : ByteArray) : partK s ≠ [] := by unfold partK; simp
theorem keyL_inj : ∀ {a b : List Lb}, SmallL a → SmallL b → keyL a = keyL b → a = b
  | [], [], _, _, _ => rfl
  | [], y :: b, _, _, h => by
    simp only [keyL, List.flatMap_nil, List.flatMap_cons] at h
    have h := congrArg List.length h
    simp only [List.length_nil, List.length_append] at h
    have := List.length_pos_iff.2 (partK_ne y.1)
    omega
  | x :: a, [], _, _, h => by
    simp only [keyL, List.flatMap_nil, List.flatMap_cons] at h
    have h := congrArg List.length h
    simp only [List.length_nil, List.length_append] at h
    have := List.length_pos_iff.2 (partK_ne x.1)
    omega
  | x :: a, y :: b, ha, hb, h => by
    simp only [keyL, List.flatMap_cons, List.append_assoc] at h
    have hx := ha x List.mem_cons_self
    have hy := hb y List.mem_cons_self
    obtain ⟨e1, h⟩ := partK_inj hx.1 hy.1 h
    obtain ⟨e2, h⟩ := partK_inj hx.2 hy.2 h
    have ih := keyL_inj (a := a) (b := b) (fun z hz => ha z (List.mem_cons_of_mem _ hz)) (fun z hz => hb z (List.mem_cons_of_mem _ hz)) h
    rw [ih, show x = y from Prod.ext e1 e2]
theorem ofl_inj {l m : List Nat} (h : Byt l) (k : Byt m) (e : ofl l = ofl m) : l = m := by
  rw [← bl_ofl h, ← bl_ofl k, e]

/-! Texts. -/
theorem qv (z : Nat) (h : z ≤ 4) : quoteL (List.replicate z 118) = 34 :: (List.replicate z 118 ++ [34]) := by
  rcases (by omega : z = 0 ∨ z = 1 ∨ z = 2 ∨ z = 3 ∨ z = 4) with rfl | rfl | rfl | rfl | rfl <;> rfl
/-- The labels of which near makes sets. -/
def NearL (x : Lb) : Prop := ∃ i z : Nat, i < 9 ∧ z ≤ 4 ∧ x = (nmI i, repV (z : Int))
theorem bl_nm {i : Nat} (h : i < 9) : bl (nmI i) = [97 + i] := bl_ofl (Byt.cons (by omega) Byt.nil)
theorem byt_rep (z : Nat) : Byt (List.replicate z 118) := fun x hx => by rw [List.eq_of_mem_replicate hx]; omega
theorem bl_rep (z : Nat) : bl (repV (z : Int)) = List.replicate z 118 := bl_ofl (byt_rep z)
theorem partT_near {i z : Nat} (h : i < 9) (hz : z ≤ 4) : bl (partT (nmI i, repV (z : Int))) = (97 + i) :: 61 :: 34 :: (List.replicate z 118 ++ [34]) := by
  unfold partT
  rw [bl_append, bl_append, bl_nm h, bl_rep, qv z hz, bl_ofl (Byt.cons (by omega) ((byt_rep z).app (Byt.cons (by omega) Byt.nil)))]
  rfl
theorem rep_inj : ∀ {z z' : Nat} {r r' : List Nat}, List.replicate z 118 ++ 34 :: r = List.replicate z' 118 ++ 34 :: r' → z = z' ∧ r = r'
  | 0, 0, r, r', h => ⟨rfl, (List.cons.inj h).2⟩
  | 0, z' + 1, r, r', h => by
    rw [List.replicate_succ] at h
    have := (List.cons.inj h).1
    omega
  | z + 1, 0, r, r', h => by
    rw [List.replicate_succ] at h
    have := (List.cons.inj h).1
    omega
  | z + 1, z' + 1, r, r', h => by
    rw [List.replicate_succ, List.replicate_succ] at h
    obtain ⟨e, k⟩ := rep_inj (List.cons.inj h).2
    exact ⟨by omega, k⟩
theorem part_inj {x y : Lb} (hx : NearL x) (hy : NearL y) {r r' : List Nat} (h : bl (partT x) ++ r = bl (partT y) ++ r') : x = y ∧ r = r' := by
  obtain ⟨i, z, hi, hz, rfl⟩ := hx
  obtain ⟨i', z', hi', hz', rfl⟩ := hy
  rw [partT_near hi hz, partT_near hi' hz'] at h
  injection h with h1 h
  injection h with _ h
  injection h with _ h
  replace h : (List.replicate z 118 ++ [34]) ++ r = (List.replicate z' 118 ++ [34]) ++ r' := h
  rw [List.append_assoc, List.append_assoc] at h
  obtain ⟨e, k⟩ := rep_inj h
  obtain rfl : i = i' := by omega
  subst e
  exact ⟨rfl, k⟩
/-- What stands behind the first part. -/
def tailT (l : List Lb) : List Nat := l.flatMap fun x => 44 :: 32 :: bl (partT x)
theorem tailT_inj : ∀ {a b : List Lb}, (∀ x ∈ a, NearL x) → (∀ x ∈ b, NearL x) → tailT a = tailT b → a = b
  | [], [], _, _, _ => rfl
  | [], y :: b, _, _, h => by simp [tailT] at h
  | x :: a, [], _, _, h => by simp [tailT] at h
  | x :: a, y :: b, ha, hb, h => by
    simp only [tailT, List.flatMap_cons, List.cons_append, List.cons.injEq, true_and] at h
    obtain ⟨e, k⟩ := part_inj (ha x List.mem_cons_self) (hb y List.mem_cons_self) h
    rw [e, tailT_inj (fun z hz => ha z (List.mem_cons_of_mem _ hz)) (fun z hz => hb z (List.mem_cons_of_mem _ hz)) k]
def joinN : List Lb → List Nat
  | [] => []
  | x :: l => bl (partT x) ++ tailT l
theorem joinN_inj : ∀ {a b : List Lb}, (∀ x ∈ a, NearL x) → (∀ x ∈ b, NearL x) → joinN a = joinN b → a = b
  | [], [], _, _, _ => rfl
  | [], y :: b, _, hb, h => by
    obtain ⟨i, z, hi, hz, e⟩ := hb y List.mem_cons_self
    rw [e] at h
    simp only [joinN, partT_near hi hz, List.cons_append] at h
    cases h
  | x :: a, [], ha, _, h => by
    obtain ⟨i, z, hi, hz, e⟩ := ha x List.mem_cons_self
    rw [e] at h
    simp only [joinN, partT_near hi hz, List.cons_append] at h
    cases h
  | x :: a, y :: b, ha, hb, h => by
    obtain ⟨e, k⟩ := part_inj (ha x List.mem_cons_self) (hb y List.mem_cons_self) h
    rw [e, tailT_inj (fun z hz => ha z (List.mem_cons_of_mem _ hz)) (fun z hz => hb z (List.mem_cons_of_mem _ hz)) k]
theorem join_cons (x : List UInt8) (l : List (List UInt8)) (sep : List UInt8) : Lib.join (x :: l) sep = x ++ (l.map (sep ++ ·)).flatten := by
  unfold Lib.join
  induction l generalizing x with
  | nil => simp [List.intercalate]
  | cons y l ih =>
    have h := ih y
    simp only [List.intercalate, List.intersperse_cons_cons, List.flatten_cons, List.map_cons] at h ⊢
    rw [h]
    simp
theorem join_bl (l : List Lb) : (Lib.join ((l.map partT).map (·.data.toList)) [44, 32]).map UInt8.toNat = joinN l := by
  cases l with
  | nil => rfl
  | cons x l =>
    rw [List.map_cons, List.map_cons, join_cons, List.map_append]
    show bl (partT x) ++ _ = bl (partT x) ++ _
    congr 1
    unfold tailT
    induction l with
    | nil => rfl
    | cons y l ih =>
      rw [List.map_cons, List.map_cons, List.map_cons, List.flatten_cons, List.map_append, List.flatMap_cons, ih]
      rfl
theorem textS_bl (l : List Lb) : bl (textS l) = 123 :: (joinN l ++ [125]) := by
  unfold textS
  rw [bl_append, bl_append]
  show 123 :: ((Lib.join ((l.map partT).map (·.data.toList)) [44, 32]).map UInt8.toNat ++ [125]) = _
  rw [join_bl]
theorem textS_inj {a b : List Lb} (ha : ∀ x ∈ a, NearL x) (hb : ∀ x ∈ b, NearL x) (h : textS a = textS b) : a = b := by
  have h := congrArg bl h
  rw [textS_bl, textS_bl] at h
  injection h with _ h
  exact joinN_inj ha hb (List.append_cancel_right h)
theorem near_all (l : List Int) : ∀ x ∈ nearTo (vOf l) 8, NearL x := by
  intro x hx
  obtain ⟨i, hi, hp, rfl⟩ := mem_near.1 hx
  have hv := vOf_ok l
  have h4 := hv.2 ((vOf l).getD i 0) (by rw [List.getD_eq_getElem?_getD, List.getElem?_eq_getElem (by omega)]; exact List.getElem_mem _)
  exact ⟨i, ((vOf l).getD i 0).toNat, by omega, by omega, by rw [Int.toNat_of_nonneg h4.1]⟩
theorem near_smallL {l : List Lb} (h : ∀ x ∈ l, NearL x) : SmallL l := by
  intro x hx
  obtain ⟨i, z, hi, hz, rfl⟩ := h x hx
  refine ⟨by show (ofl [97 + i]).size < 10; rw [ofl_size]; exact by simp, ?_⟩
  show (repV (z : Int)).size < 10
  rw [repV_size (by omega)]
  omega
end Go.Proofs.YtdeohgfnlcbncaaDoor
