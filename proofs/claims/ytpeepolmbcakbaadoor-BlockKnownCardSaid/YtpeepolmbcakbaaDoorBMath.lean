/- Blocks: the bytes of entries, and the entries of bytes. -/
import Derived.Test.YtpeepolmbcakbaaDoorVStates
namespace Go.Proofs.YtpeepolmbcakbaaDoor

def entT (es : List (Int × List Int)) : List Int := es.map (·.1)
def entL (es : List (Int × List Int)) : List (List Int) := es.map (·.2)
/-- The differences of times. -/
def encD : Int → List Int → List Int
  | _, [] => []
  | p, t :: r => leb (t - p).toNat ++ encD t r
def encT : List Int → List Int
  | [] => []
  | t :: r => leb (zz t) ++ encD t r
def encL (ls : List (List Int)) : List Int := ls.flatMap fun s => leb s.length ++ s
def encB (es : List (Int × List Int)) : List Int := leb es.length ++ (encT (entT es) ++ encL (entL es))

/-- What may not be an entry behind a time (none at the first one). -/
def chkL : Option Int → List (Int × List Int) → Int
  | _, [] => 0
  | p, (t, s) :: r => if t < -9007199254740991 ∨ 9007199254740991 < t then 9 else if p.any (fun q => decide (t < q)) = true then 140 else if 4096 < s.length then 141 else chkL (some t) r
def chkB (es : List (Int × List Int)) : Int := if es.length < 1 ∨ 32 < es.length then 2 else chkL none es

/-- Reading a number, off what is left and the error. -/
def nU (p : List Int × Int) : List Int × Int := (uL p.1 p.2, uX p.1 p.2)
def nT (p : List Int × Int) : List Int × Int := (tL p.1 p.2 4096, tX p.1 p.2 4096)
/-- Behind the k'th time: the time, what is left, the error. -/
def rdAt (p : List Int × Int) : Nat → Int × (List Int × Int)
  | 0 => (unzz (uV p.1 p.2), nU p)
  | k + 1 => ((rdAt p k).1 + uV (rdAt p k).2.1 (rdAt p k).2.2, nU (rdAt p k).2)
def rdLn (p : List Int × Int) : Nat → List Int × Int
  | 0 => p
  | k + 1 => nT (rdLn p k)
def lnAt (p : List Int × Int) (k : Nat) : List Int := tV (rdLn p k).1 (rdLn p k).2 4096

theorem uX_zero {l : List Int} {x : Int} (h : uX l x = 0) : x = 0 ∧ (rdU l).2.2 = 0 := by
  unfold uX at h
  by_cases hx : x = 0
  · rw [if_pos hx] at h; exact ⟨hx, h⟩
  · rw [if_neg hx] at h; exact absurd h hx
theorem tX_zero {l : List Int} {x m : Int} (h : tX l x m = 0) : uX l x = 0 ∧ uV l x ≤ m ∧ uV l x ≤ ((uL l x).length : Int) := by
  unfold tX at h
  by_cases h1 : uX l x ≠ 0
  · rw [if_pos h1] at h; exact absurd h h1
  · rw [if_neg h1] at h
    by_cases h2 : m < uV l x
    · rw [if_pos h2] at h; exact absurd h (by decide)
    · rw [if_neg h2] at h
      by_cases h3 : ((uL l x).length : Int) < uV l x
      · rw [if_pos h3] at h; exact absurd h (by decide)
      · exact ⟨by simpa using h1, by omega, by omega⟩
abbrev Byt8 (l : List Int) : Prop := ∀ x ∈ l, 0 ≤ x ∧ x ≤ 255
/-- A number that was read stands ahead of what is left. -/
theorem nU_inv {p : List Int × Int} (hu : Byt8 p.1) (h : (nU p).2 = 0) : p.2 = 0 ∧ ∃ m : Nat, m ≤ 18014398509481982 ∧ uV p.1 p.2 = (m : Int) ∧ p.1 = leb m ++ (nU p).1 ∧ Byt8 (nU p).1 := by
  obtain ⟨h1, h2⟩ := uX_zero h
  obtain ⟨m, rest, hm, hr, hl⟩ := rdU_inv hu h2
  refine ⟨h1, m, hm, ?_, ?_, ?_⟩
  · rw [uV, if_pos h1, hr]
  · rw [nU, uL, if_pos h1, hr]; exact hl
  · rw [nU, uL, if_pos h1, hr]
    intro x hx
    exact hu x (by rw [hl]; exact List.mem_append_right _ hx)
theorem nU_leb {m : Nat} (h : m ≤ 18014398509481982) (rest : List Int) : nU (leb m ++ rest, 0) = (rest, 0) ∧ uV (leb m ++ rest) 0 = (m : Int) := by
  have := rdU_leb h rest
  exact ⟨by rw [nU, uL, uX, if_pos rfl, if_pos rfl, this], by rw [uV, if_pos rfl, this]⟩
theorem nT_inv {p : List Int × Int} (hu : Byt8 p.1) (h : (nT p).2 = 0) : p.2 = 0 ∧ p.1 = leb (tV p.1 p.2 4096).length ++ tV p.1 p.2 4096 ++ (nT p).1 ∧ (tV p.1 p.2 4096).length ≤ 4096 ∧ Byt8 (nT p).1 ∧ Byt8 (tV p.1 p.2 4096) := by
  obtain ⟨h1, h2, h3⟩ := tX_zero h
  obtain ⟨h4, m, hm, hv, hl, hb⟩ := nU_inv hu h1
  have e1 : tV p.1 p.2 4096 = (nU p).1.take m := by
    rw [tV, if_neg (by omega), hv]; rfl
  have e2 : (nT p).1 = (nU p).1.drop m := by
    show tL p.1 p.2 4096 = _
    rw [tL, if_neg (by omega), if_neg (by omega), hv]; rfl
  have e3 : ((nU p).1.take m).length = m := by
    rw [List.length_take]
    have : m ≤ (nU p).1.length := by rw [hv] at h3; exact Int.ofNat_le.1 h3
    omega
  refine ⟨h4, ?_, ?_, ?_, ?_⟩
  · rw [e1, e2, e3, List.append_assoc, List.take_append_drop]; exact hl
  · rw [e1, e3]; omega
  · rw [e2]; exact fun x hx => hb x (List.mem_of_mem_drop hx)
  · rw [e1]; exact fun x hx => hb x (List.mem_of_mem_take hx)
theorem nT_leb {s : List Int} (h : s.length ≤ 4096) (rest : List Int) : nT (leb s.length ++ s ++ rest, 0) = (rest, 0) ∧ tV (leb s.length ++ s ++ rest) 0 4096 = s := by
  rw [List.append_assoc]
  obtain ⟨h1, h2⟩ := nU_leb (m := s.length) (by omega) (s ++ rest)
  have hL : uL (leb s.length ++ (s ++ rest)) 0 = s ++ rest := congrArg Prod.fst h1
  have hX : uX (leb s.length ++ (s ++ rest)) 0 = 0 := congrArg Prod.snd h1
  have hlen : (((s ++ rest).length : Nat) : Int) = s.length + rest.length := by rw [List.length_append]; omega
  constructor
  · rw [nT]
    refine Prod.ext ?_ ?_
    · show tL _ _ _ = rest
      rw [tL, hX, if_neg (by simp), h2, hL, if_neg (by omega), Int.toNat_natCast, List.drop_left]
    · show tX _ _ _ = 0
      rw [tX, hX, if_neg (by simp), h2, hL, if_neg (by omega), if_neg (by omega)]
  · rw [tV, hX, h2, hL, if_neg (by omega), Int.toNat_natCast, List.take_left]
theorem zz_unzz {m : Nat} (h : m ≤ 18014398509481982) : sOk (unzz m) ∧ zz (unzz m) = m := by
  unfold sOk zz unzz
  by_cases h0 : ((m : Nat) : Int) % 2 = 1
  · rw [if_pos h0]
    refine ⟨by omega, ?_⟩
    rw [if_pos (by omega)]; omega
  · rw [if_neg h0]
    refine ⟨by omega, ?_⟩
    rw [if_neg (by omega)]; omega

/-- The times 0 .. k. -/
def tms (p : List Int × Int) (k : Nat) : List Int := (List.range k).map fun i => (rdAt p i).1
def lns (p : List Int × Int) (k : Nat) : List (List Int) := (List.range k).map (lnAt p)
theorem tms_succ (p : List Int × Int) (k : Nat) : tms p (k + 1) = tms p k ++ [(rdAt p k).1] := by
  rw [tms, List.range_succ, List.map_append]; rfl
theorem lns_succ (p : List Int × Int) (k : Nat) : lns p (k + 1) = lns p k ++ [lnAt p k] := by
  rw [lns, List.range_succ, List.map_append]; rfl
theorem encD_snoc (p : Int) (ts : List Int) (q t : Int) (h : (p :: ts).getLast? = some q) : encD p (ts ++ [t]) = encD p ts ++ leb (t - q).toNat := by
  induction ts generalizing p with
  | nil => simp at h; subst h; simp [encD]
  | cons a r ih =>
    rw [List.cons_append, encD, encD, ih a (by simpa using h), List.append_assoc]
theorem encT_snoc (ts : List Int) (q t : Int) (h : ts.getLast? = some q) : encT (ts ++ [t]) = encT ts ++ leb (t - q).toNat := by
  cases ts with
  | nil => simp at h
  | cons a r => rw [List.cons_append, encT, encT, encD_snoc a r q t h, List.append_assoc]
theorem encL_snoc (ls : List (List Int)) (s : List Int) : encL (ls ++ [s]) = encL ls ++ (leb s.length ++ s) := by
  rw [encL, List.flatMap_append]; simp [encL]
/-- If no reading failed, the bytes of the times stand ahead. -/
theorem rdAt_inv {p : List Int × Int} (hu : Byt8 p.1) : ∀ k, (rdAt p k).2.2 = 0 → p.2 = 0 ∧ p.1 = encT (tms p (k + 1)) ++ (rdAt p k).2.1 ∧ Byt8 (rdAt p k).2.1 ∧ (tms p (k + 1)).getLast? = some (rdAt p k).1
  | 0, h => by
    obtain ⟨h1, m, hm, hv, hl, hb⟩ := nU_inv hu h
    have e : tms p 1 = [unzz (uV p.1 p.2)] := rfl
    refine ⟨h1, ?_, hb, by rw [e]; rfl⟩
    rw [e, encT, encD, List.append_nil, hv, (zz_unzz hm).2]
    exact hl
  | k + 1, h => by
    have hk : (rdAt p k).2.2 = 0 := (uX_zero h).1
    obtain ⟨h1, h2, h3, h4⟩ := rdAt_inv hu k hk
    obtain ⟨_, m, hm, hv, hl, hb⟩ := nU_inv h3 h
    have e := tms_succ p (k + 1)
    refine ⟨h1, ?_, hb, by rw [e]; simp⟩
    rw [e, encT_snoc _ _ _ h4, List.append_assoc]
    have e2 : ((rdAt p (k + 1)).1 - (rdAt p k).1).toNat = m := by
      show ((rdAt p k).1 + uV (rdAt p k).2.1 (rdAt p k).2.2 - (rdAt p k).1).toNat = m
      rw [hv]; omega
    rw [e2]
    show p.1 = _ ++ (leb m ++ (nU (rdAt p k).2).1)
    rw [← hl]
    exact h2
theorem rdLn_inv {p : List Int × Int} (hu : Byt8 p.1) : ∀ k, (rdLn p k).2 = 0 → p.2 = 0 ∧ p.1 = encL (lns p k) ++ (rdLn p k).1 ∧ Byt8 (rdLn p k).1 ∧ ∀ s ∈ lns p k, s.length ≤ 4096
  | 0, h => ⟨h, rfl, hu, by simp [lns]⟩
  | k + 1, h => by
    have h0 : (rdLn p k).2 = 0 := (uX_zero (tX_zero h).1).1
    obtain ⟨h1, h2, h3, h4⟩ := rdLn_inv hu k h0
    obtain ⟨_, h5, h6, h7, _⟩ := nT_inv h3 h
    refine ⟨h1, ?_, h7, ?_⟩
    · rw [lns_succ, encL_snoc, List.append_assoc]
      show p.1 = _ ++ (_ ++ (nT (rdLn p k)).1)
      have : (leb (lnAt p k).length ++ lnAt p k) ++ (nT (rdLn p k)).1 = (rdLn p k).1 := h5.symm
      rw [this]; exact h2
    · rw [lns_succ]
      intro s hs
      rcases List.mem_append.1 hs with hs | hs
      · exact h4 s hs
      · rw [List.mem_singleton.1 hs]; exact h6

/-- Times that may be: in order, each within the bounds. -/
def TimesOk (ts : List Int) : Prop := (∀ t ∈ ts, sOk t) ∧ ∀ k, k + 1 < ts.length → ts.getD k 0 ≤ ts.getD (k + 1) 0
theorem drop_getD {ts : List Int} {k : Nat} (h : k < ts.length) : ts.drop k = ts.getD k 0 :: ts.drop (k + 1) := by
  rw [List.drop_eq_getElem_cons h, List.getD_eq_getElem?_getD, List.getElem?_eq_getElem h]; rfl
theorem getD_mem' {ts : List Int} {k : Nat} (h : k < ts.length) : ts.getD k 0 ∈ ts := by
  rw [List.getD_eq_getElem?_getD, List.getElem?_eq_getElem h]; exact List.getElem_mem h
theorem unzz_of {n : Int} (h : sOk n) : unzz (zz n) = n := by
  unfold sOk at h
  unfold zz unzz
  by_cases h0 : n < 0
  · rw [if_pos h0, Int.toNat_of_nonneg (by omega), if_pos (by omega)]; omega
  · rw [if_neg h0, Int.toNat_of_nonneg (by omega), if_neg (by omega)]; omega
theorem rdAt_enc {ts : List Int} (hok : TimesOk ts) (rest : List Int) : ∀ k, k < ts.length → rdAt (encT ts ++ rest, 0) k = (ts.getD k 0, (encD (ts.getD k 0) (ts.drop (k + 1)) ++ rest, 0))
  | 0, h => by
    cases ts with
    | nil => simp at h
    | cons t r =>
      have ht := hok.1 t (List.mem_cons_self ..)
      obtain ⟨h1, h2⟩ := nU_leb (zz_le ht) (encD t r ++ rest)
      have e : encT (t :: r) ++ rest = leb (zz t) ++ (encD t r ++ rest) := by rw [encT, List.append_assoc]
      rw [rdAt, e, h1, h2, unzz_of ht]
      rfl
  | k + 1, h => by
    have ih := rdAt_enc hok rest k (by omega)
    have h1 := hok.2 k h
    have b1 := hok.1 _ (getD_mem' (k := k) (by omega))
    have b2 := hok.1 _ (getD_mem' h)
    unfold sOk at b1 b2
    rw [drop_getD h, encD, List.append_assoc] at ih
    obtain ⟨h2, h3⟩ := nU_leb (m := (ts.getD (k + 1) 0 - ts.getD k 0).toNat) (by omega) (encD (ts.getD (k + 1) 0) (ts.drop (k + 1 + 1)) ++ rest)
    rw [rdAt, ih]
    show (ts.getD k 0 + uV _ 0, nU (_, 0)) = _
    rw [h2, h3]
    congr 1
    omega
theorem rdLn_enc {ls : List (List Int)} (hok : ∀ s ∈ ls, s.length ≤ 4096) (rest : List Int) : ∀ k, k ≤ ls.length → rdLn (encL ls ++ rest, 0) k = (encL (ls.drop k) ++ rest, 0) ∧ (k < ls.length → lnAt (encL ls ++ rest, 0) k = ls.getD k [])
  | k, h => by
    have step : ∀ k, k < ls.length → encL (ls.drop k) ++ rest = leb (ls.getD k []).length ++ ls.getD k [] ++ (encL (ls.drop (k + 1)) ++ rest) := fun k hk => by
      rw [List.drop_eq_getElem_cons hk, List.getD_eq_getElem?_getD, List.getElem?_eq_getElem hk, encL, List.flatMap_cons, List.append_assoc]; rfl
    have hm : ∀ k, k < ls.length → (ls.getD k []).length ≤ 4096 := fun k hk => hok _ (by rw [List.getD_eq_getElem?_getD, List.getElem?_eq_getElem hk]; exact List.getElem_mem hk)
    have main : ∀ k, k ≤ ls.length → rdLn (encL ls ++ rest, 0) k = (encL (ls.drop k) ++ rest, 0) := fun k => by
      induction k with
      | zero => intro _; rfl
      | succ k ih =>
        intro hk
        rw [rdLn, ih (by omega), step k (by omega)]
        exact (nT_leb (hm k (by omega)) _).1
    refine ⟨main k h, fun hk => ?_⟩
    rw [lnAt, main k h, step k hk]
    exact (nT_leb (hm k hk) _).2

theorem chkL_ok : ∀ (es : List (Int × List Int)) (p : Option Int), chkL p es = 0 → (∀ e ∈ es, sOk e.1 ∧ e.2.length ≤ 4096) ∧ (∀ q, p = some q → ∀ e, es[0]? = some e → q ≤ e.1) ∧ ∀ k, k + 1 < es.length → (entT es).getD k 0 ≤ (entT es).getD (k + 1) 0
  | [], _, _ => ⟨fun _ h => (by cases h), fun _ _ _ h => (by cases h), fun k h => by simp at h⟩
  | (t, s) :: r, p, h => by
    rw [chkL] at h
    by_cases h1 : t < -9007199254740991 ∨ 9007199254740991 < t
    · rw [if_pos h1] at h; cases h
    · rw [if_neg h1] at h
      by_cases h2 : p.any (fun q => decide (t < q)) = true
      · rw [if_pos h2] at h; cases h
      · rw [if_neg h2] at h
        by_cases h3 : 4096 < s.length
        · rw [if_pos h3] at h; cases h
        · rw [if_neg h3] at h
          obtain ⟨i1, i2, i3⟩ := chkL_ok r (some t) h
          refine ⟨?_, ?_, ?_⟩
          · intro e he
            rcases List.mem_cons.1 he with rfl | he
            · unfold sOk; exact ⟨by omega, by show s.length ≤ 4096; omega⟩
            · exact i1 e he
          · rintro q rfl e he
            obtain rfl : (t, s) = e := by simpa using he
            simp at h2; exact h2
          · intro k hk
            cases k with
            | zero =>
              cases r with
              | nil => simp at hk
              | cons a r => exact i2 t rfl a rfl
            | succ k => exact i3 k (by simpa using hk)
theorem entT_len (es : List (Int × List Int)) : (entT es).length = es.length := by simp [entT]
theorem entL_len (es : List (Int × List Int)) : (entL es).length = es.length := by simp [entL]
theorem chkB_ok {es : List (Int × List Int)} (h : chkB es = 0) : 1 ≤ es.length ∧ es.length ≤ 32 ∧ TimesOk (entT es) ∧ ∀ s ∈ entL es, s.length ≤ 4096 := by
  unfold chkB at h
  by_cases h1 : es.length < 1 ∨ 32 < es.length
  · rw [if_pos h1] at h; cases h
  · rw [if_neg h1] at h
    obtain ⟨i1, _, i3⟩ := chkL_ok es none h
    refine ⟨by omega, by omega, ⟨?_, ?_⟩, ?_⟩
    · intro t ht
      obtain ⟨e, he, rfl⟩ := List.mem_map.1 ht
      exact (i1 e he).1
    · intro k hk
      exact i3 k (by rwa [entT_len] at hk)
    · intro s hs
      obtain ⟨e, he, rfl⟩ := List.mem_map.1 hs
      exact (i1 e he).2
/-- How many bytes there are at most. -/
theorem encD_len : ∀ (ts : List Int) (p : Int), sOk p → (∀ t ∈ ts, sOk t) → (encD p ts).length ≤ 8 * ts.length
  | [], _, _, _ => by simp [encD]
  | t :: r, p, hp, h => by
    have ht := h t (List.mem_cons_self ..)
    have ih := encD_len r t ht (fun x hx => h x (List.mem_cons_of_mem _ hx))
    unfold sOk at hp ht
    have := leb_len8 (n := (t - p).toNat) (by omega)
    rw [encD, List.length_append, List.length_cons]
    omega
theorem encT_len (ts : List Int) (h : ∀ t ∈ ts, sOk t) : (encT ts).length ≤ 8 * ts.length := by
  cases ts with
  | nil => simp [encT]
  | cons t r =>
    have ht := h t (List.mem_cons_self ..)
    have h1 := encD_len r t ht (fun x hx => h x (List.mem_cons_of_mem _ hx))
    have h2 := leb_len8 (zz_le ht)
    rw [encT, List.length_append, List.length_cons]
    omega
theorem encL_len : ∀ (ls : List (List Int)), (∀ s ∈ ls, s.length ≤ 4096) → (encL ls).length ≤ 5000 * ls.length
  | [], _ => by simp [encL]
  | s :: r, h => by
    have hs := h s (List.mem_cons_self ..)
    have ih := encL_len r (fun x hx => h x (List.mem_cons_of_mem _ hx))
    have := leb_len8 (n := s.length) (by omega)
    rw [encL, List.flatMap_cons, List.length_append, List.length_append, List.length_cons]
    rw [encL] at ih
    omega
theorem take_snoc {α : Type} [Inhabited α] {l : List α} {k : Nat} (d : α) (h : k < l.length) : l.take (k + 1) = l.take k ++ [l.getD k d] := by
  rw [List.take_succ_eq_append_getElem h, List.getD_eq_getElem?_getD, List.getElem?_eq_getElem h]; rfl
theorem last_take {l : List Int} {k : Nat} (h : k < l.length) : (l.take (k + 1)).getLast? = some (l.getD k 0) := by
  rw [take_snoc 0 h]; simp
theorem leb_u8 {n : Nat} (h : n ≤ 18014398509481982) : ∀ x ∈ leb n, 0 ≤ x ∧ x ≤ 255 := leb_byte 8 n (by omega)
theorem encD_u8 : ∀ (ts : List Int) (p : Int), sOk p → (∀ t ∈ ts, sOk t) → ∀ x ∈ encD p ts, 0 ≤ x ∧ x ≤ 255
  | [], _, _, _ => by simp [encD]
  | t :: r, p, hp, h => by
    have ht := h t (List.mem_cons_self ..)
    have ih := encD_u8 r t ht (fun x hx => h x (List.mem_cons_of_mem _ hx))
    unfold sOk at hp ht
    intro x hx
    rw [encD] at hx
    rcases List.mem_append.1 hx with hx | hx
    · exact leb_u8 (by omega) x hx
    · exact ih x hx
theorem encB_u8 {es : List (Int × List Int)} (h : chkB es = 0) (hb : ∀ e ∈ es, Byt8 e.2) : Byt8 (encB es) := by
  obtain ⟨_, h2, h3, h4⟩ := chkB_ok h
  intro x hx
  rw [encB] at hx
  rcases List.mem_append.1 hx with hx | hx
  · exact leb_u8 (by omega) x hx
  · rcases List.mem_append.1 hx with hx | hx
    · cases he : entT es with
      | nil => rw [he] at hx; simp [encT] at hx
      | cons t r =>
        rw [he] at hx h3
        have ht := h3.1 t (List.mem_cons_self ..)
        rw [encT] at hx
        rcases List.mem_append.1 hx with hx | hx
        · exact leb_u8 (zz_le ht) x hx
        · exact encD_u8 r t ht (fun y hy => h3.1 y (List.mem_cons_of_mem _ hy)) x hx
    · obtain ⟨s, hs, hx⟩ := List.mem_flatMap.1 hx
      have hl := h4 s hs
      obtain ⟨e, he, rfl⟩ := List.mem_map.1 hs
      rcases List.mem_append.1 hx with hx | hx
      · exact leb_u8 (by omega) x hx
      · exact hb e he x hx
theorem encB_len {es : List (Int × List Int)} (h : chkB es = 0) : (encB es).length ≤ 200000 := by
  obtain ⟨_, h2, h3, h4⟩ := chkB_ok h
  have l1 := leb_len8 (n := es.length) (by omega)
  have l2 := encT_len _ h3.1
  have l3 := encL_len _ h4
  rw [entT_len] at l2
  rw [entL_len] at l3
  rw [encB, List.length_append, List.length_append]
  omega
/-- The entries of what stands inside a block, as they are read. -/
def cnt (l : List Int) : Nat := (uV l 0).toNat
def esOf (l : List Int) : List (Int × List Int) := (List.range (cnt l)).map fun k => ((rdAt (nU (l, 0)) k).1, lnAt (rdAt (nU (l, 0)) (cnt l - 1)).2 k)
def endOf (l : List Int) : List Int × Int := rdLn (rdAt (nU (l, 0)) (cnt l - 1)).2 (cnt l)
/-- May it be what stands inside a block? -/
def goodB (l : List Int) : Bool := decide ((endOf l).2 = 0) && decide ((endOf l).1 = []) && decide (chkB (esOf l) = 0)
end Go.Proofs.YtpeepolmbcakbaaDoor
