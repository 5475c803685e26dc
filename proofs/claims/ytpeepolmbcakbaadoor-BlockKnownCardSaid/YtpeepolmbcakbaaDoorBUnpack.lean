/- The cells of entries; block.Unpack. -/
import Derived.Test.YtpeepolmbcakbaaDoorBPack
namespace Go.Proofs.YtpeepolmbcakbaaDoor
open Go.RowKit

/-- The cells of n entries. -/
def ec (n : Nat) (T : Nat → Int) (S : Nat → ByteArray) : List Value := (List.range (n * 2)).map fun i => if i % 2 = 0 then Value.int .i64 (T (i / 2)) else Value.string (S (i / 2))
theorem ec_len (n : Nat) (T : Nat → Int) (S : Nat → ByteArray) : (ec n T S).length = n * 2 := by simp [ec]
theorem ec_get {n i : Nat} (T : Nat → Int) (S : Nat → ByteArray) (h : i < n * 2) : (ec n T S)[i]? = some (if i % 2 = 0 then Value.int .i64 (T (i / 2)) else Value.string (S (i / 2))) := by
  simp [ec, h]
theorem ec_t {n k : Nat} (T : Nat → Int) (S : Nat → ByteArray) (h : k < n) : (ec n T S)[k * 2]? = some (.int .i64 (T k)) := by
  rw [ec_get T S (by omega), if_pos (by omega), show k * 2 / 2 = k by omega]
theorem ec_s {n k : Nat} (T : Nat → Int) (S : Nat → ByteArray) (h : k < n) : (ec n T S)[k * 2 + 1]? = some (.string (S k)) := by
  rw [ec_get T S (by omega), if_neg (by omega), show (k * 2 + 1) / 2 = k by omega]
theorem ec_congr {n : Nat} {T T' : Nat → Int} {S S' : Nat → ByteArray} (h : ∀ j, j < n → T j = T' j ∧ S j = S' j) : ec n T S = ec n T' S' := by
  apply List.ext_getElem?
  intro i
  by_cases hi : i < n * 2
  · rw [ec_get T S hi, ec_get T' S' hi, (h (i / 2) (by omega)).1, (h (i / 2) (by omega)).2]
  · rw [List.getElem?_eq_none (by rw [ec_len]; omega), List.getElem?_eq_none (by rw [ec_len]; omega)]
theorem ec_setT {n k : Nat} (T : Nat → Int) (S : Nat → ByteArray) (h : k < n) (t : Int) : (ec n T S).set (k * 2) (.int .i64 t) = ec n (fun j => if j = k then t else T j) S := by
  apply List.ext_getElem?
  intro i
  rw [List.getElem?_set]
  by_cases hi : i < n * 2
  · rw [ec_get (fun j => if j = k then t else T j) S hi]
    by_cases hk : k * 2 = i
    · rw [if_pos hk, if_pos (by rw [ec_len]; omega), if_pos (by omega), if_pos (by omega)]
    · rw [if_neg hk, ec_get T S hi]
      by_cases h2 : i % 2 = 0
      · rw [if_pos h2, if_pos h2, if_neg (by omega)]
      · rw [if_neg h2, if_neg h2]
  · rw [List.getElem?_eq_none (by rw [ec_len]; omega), List.getElem?_eq_none (by rw [ec_len]; omega), if_neg (by omega)]
theorem ec_setS {n k : Nat} (T : Nat → Int) (S : Nat → ByteArray) (h : k < n) (s : ByteArray) : (ec n T S).set (k * 2 + 1) (.string s) = ec n T (fun j => if j = k then s else S j) := by
  apply List.ext_getElem?
  intro i
  rw [List.getElem?_set]
  by_cases hi : i < n * 2
  · rw [ec_get T (fun j => if j = k then s else S j) hi]
    by_cases hk : k * 2 + 1 = i
    · rw [if_pos hk, if_pos (by rw [ec_len]; omega), if_neg (by omega), if_pos (by omega)]
    · rw [if_neg hk, ec_get T S hi]
      by_cases h2 : i % 2 = 0
      · rw [if_pos h2, if_pos h2]
      · rw [if_neg h2, if_neg h2, if_neg (by omega)]
  · rw [List.getElem?_eq_none (by rw [ec_len]; omega), List.getElem?_eq_none (by rw [ec_len]; omega), if_neg (by omega)]
theorem made_ec (n : Nat) : (madeCells #[.int .i64 0, .string ByteArray.empty] (n * 2)).toList = ec n (fun _ => 0) (fun _ => ByteArray.empty) := by
  apply List.ext_getElem?
  intro i
  by_cases hi : i < n * 2
  · rw [ec_get _ _ hi]
    by_cases h2 : i % 2 = 0
    · rw [if_pos h2]; simp [madeCells, hi, h2]
    · have h3 : i % 2 = 1 := by omega
      rw [if_neg h2]; simp [madeCells, hi, h3]
  · rw [List.getElem?_eq_none (by simp [madeCells]; omega), List.getElem?_eq_none (by rw [ec_len]; omega)]
theorem RowE.own {w : World} {base n c : Nat} {A : Option Addr} {T : Nat → Int} {S : Nat → ByteArray} (h : w.ownsRow base 43 2 (.slice A n c) n (ec n T S)) : RowE w w.heap.size A n ((List.range n).map fun j => (T j, S j)) := by
  refine ⟨by simp, fun h0 => ?_⟩
  obtain ⟨g, cap', hv, _, hlt⟩ := h.form h0
  injection hv with hA
  subst hA
  refine ⟨g, 0, rfl, hlt, fun j hj => ?_⟩
  have e : ((List.range n).map fun j => (T j, S j)).getD j (0, ByteArray.empty) = (T j, S j) := by simp [List.getD_eq_getElem?_getD, hj]
  rw [e, Nat.zero_add]
  exact ⟨(h.cellAt (j * 2) (by omega)).trans (ec_t T S hj), (h.cellAt (j * 2 + 1) (by omega)).trans (ec_s T S hj)⟩
theorem ent_info : (Tryd.prog.info? 43).map (fun i => (i.zero, i.size, i.bytes)) = some (some (.agg #[.int .i64 0, .string ByteArray.empty]), 2, 24) := by kernel_rfl

theorem Rd.other {w w' : World} {g B m : Nat} {l : List Int} {x : Int} (h : Rd w g B l x) (ho : Only m w w') (hg : g ≠ m) (hB : B ≤ m) : Rd w' g B l x := by
  obtain ⟨A, c, hblk, hrow, hne, h1, h2, h3, h4⟩ := h
  refine ⟨A, c, (ho.block g hblk.lt (fun e => hg (by injection e))).trans hblk, ?_, hne, h1, h2, Nat.le_trans h3 ho.size, h4⟩
  exact ⟨hrow.1, fun hn => by
    obtain ⟨b, off, e, hb, hc⟩ := hrow.2 hn
    exact ⟨b, off, e, hb, fun j hj => (World.cell?_of_block (ho.block b (by omega) (fun e' => by injection e'; omega))).trans (hc j hj)⟩⟩
theorem Err_state (g B : Nat) (l : List Int) (x : Int) (w : World) (h : Rd w g B l x) :
    Calls Tryd.prog 37 #[.pointer (some ⟨g, 0, none⟩)] w fun e w' => e = .returned (.int .i64 x) ∧ w = w' := by
  obtain ⟨A, c, hblk, _⟩ := h
  exact Err_made g _ x w hblk
theorem Left_state (g B : Nat) (l : List Int) (x : Int) (w : World) (h : Rd w g B l x) (hx : x ≠ 0 → l = []) :
    Calls Tryd.prog 38 #[.pointer (some ⟨g, 0, none⟩)] w fun e w' => e = .returned (.int .i64 (l.length : Int)) ∧ w = w' := by
  obtain ⟨A, c, hblk, _⟩ := h
  refine Left_made g A _ c x w hblk ?_
  by_cases h0 : x = 0
  · exact .inl h0
  · exact .inr (by rw [hx h0]; rfl)
theorem nums_ofNums {l : List Int} (h : ∀ x ∈ l, 0 ≤ x ∧ x ≤ 255) : nums (strOfNums l) = l := by
  simp only [nums, strOfNums, List.map_map, Function.comp_def]
  conv => rhs; rw [← List.map_id l]
  apply List.map_congr_left
  intro x hx
  have := h x hx
  simp only [UInt8.toNat_ofNat', id]
  omega

/-- What is left of bytes are bytes. -/
theorem uL_u8 {l : List Int} {x : Int} (h : Byt8 l) : Byt8 (uL l x) := by
  unfold uL rdU
  intro y hy
  split at hy
  · cases he : endAt l with
    | none => rw [he] at hy; simp at hy; split at hy <;> simp at hy
    | some i =>
      rw [he] at hy
      simp only at hy
      repeat' split at hy
      all_goals first
        | (simp at hy; done)
        | exact h y (List.mem_of_mem_drop hy)
  · exact h y hy
theorem tL_u8 {l : List Int} {x m : Int} (h : Byt8 l) : Byt8 (tL l x m) := by
  have h1 := uL_u8 (x := x) h
  unfold tL
  split
  · exact h1
  · split
    · intro y hy; cases hy
    · exact fun y hy => h1 y (List.mem_of_mem_drop hy)
theorem tV_u8 {l : List Int} {x m : Int} (h : Byt8 l) : Byt8 (tV l x m) := by
  have h1 := uL_u8 (x := x) h
  unfold tV
  split
  · intro y hy; cases hy
  · exact fun y hy => h1 y (List.mem_of_mem_take hy)
theorem rdAt_u8 {p : List Int × Int} (h : Byt8 p.1) : ∀ k, Byt8 (rdAt p k).2.1
  | 0 => uL_u8 h
  | k + 1 => uL_u8 (rdAt_u8 h k)
theorem rdLn_u8 {p : List Int × Int} (h : Byt8 p.1) : ∀ k, Byt8 (rdLn p k).1
  | 0 => h
  | k + 1 => tL_u8 (rdLn_u8 h k)
theorem lnAt_u8 {p : List Int × Int} (h : Byt8 p.1) (k : Nat) : Byt8 (lnAt p k) := tV_u8 (rdLn_u8 h k)
theorem nU_bad {p : List Int × Int} (h : p.2 ≠ 0 → p.1 = []) : (nU p).2 ≠ 0 → (nU p).1 = [] := uL_err h
theorem rdAt_bad {p : List Int × Int} (h : p.2 ≠ 0 → p.1 = []) : ∀ k, (rdAt p k).2.2 ≠ 0 → (rdAt p k).2.1 = []
  | 0 => nU_bad h
  | k + 1 => nU_bad (rdAt_bad h k)
theorem rdLn_bad {p : List Int × Int} (h : p.2 ≠ 0 → p.1 = []) : ∀ k, (rdLn p k).2 ≠ 0 → (rdLn p k).1 = []
  | 0 => h
  | k + 1 => tL_err (rdLn_bad h k)
theorem rdAt_bd (p : List Int × Int) : ∀ k : Nat, -9007199254740991 - 1 ≤ (rdAt p k).1 ∧ (rdAt p k).1 ≤ 9007199254740991 + 18014398509481982 * (k : Int)
  | 0 => by
    have := uV_bd p.1 p.2
    show -9007199254740991 - 1 ≤ unzz (uV p.1 p.2) ∧ unzz (uV p.1 p.2) ≤ _
    unfold unzz
    split <;> omega
  | k + 1 => by
    have ih := rdAt_bd p k
    have := uV_bd (rdAt p k).2.1 (rdAt p k).2.2
    show _ ≤ (rdAt p k).1 + uV _ _ ∧ (rdAt p k).1 + uV _ _ ≤ _
    omega

/-- The entries that bytes are unpacked to, and the error. -/
def okU (b : List Int) : Bool := sealedI b && goodB (cutOf b)
def esS (l : List Int) : List (Int × ByteArray) := (List.range (cnt l)).map fun k => ((rdAt (nU (l, 0)) k).1, strOfNums (lnAt (rdAt (nU (l, 0)) (cnt l - 1)).2 k))
def esU (b : List Int) : List (Int × ByteArray) := if okU b then esS (cutOf b) else []
def xU (b : List Int) : Int := if okU b then 0 else 80
theorem mm_esS {l : List Int} (h : Byt8 l) : mm (esS l) = esOf l := by
  unfold mm esS esOf
  rw [List.map_map]
  apply List.map_congr_left
  intro k _
  show ((rdAt (nU (l, 0)) k).1, nums (strOfNums _)) = _
  rw [nums_ofNums (lnAt_u8 (rdAt_u8 (p := nU (l, 0)) (show Byt8 (uL l 0) from uL_u8 h) _) k)]
/-- What a call that answers entries and an error leaves behind. -/
def EOut (w : World) (es : List (Int × ByteArray)) (x : Int) (e : Ending) (w' : World) : Prop :=
  ∃ A c, e = .returned (.tuple #[.slice A es.length c, .int .i64 x]) ∧ w'.ownsRow w.heap.size 43 2 (.slice A es.length c) es.length (ec es.length (fun j => (es.getD j (0, ByteArray.empty)).1) (fun j => (es.getD j (0, ByteArray.empty)).2)) ∧ Below w.heap.size w w'
theorem EOut.bad {w w' : World} {b : List Int} (h : okU b = false) (hb : Below w.heap.size w w') : EOut w (esU b) (xU b) (.returned (.tuple #[.slice none 0 0, .int .i64 80])) w' := by
  have e1 : esU b = [] := by rw [esU, h]; rfl
  have e2 : xU b = 80 := by rw [xU, h]; rfl
  rw [e1, e2]
  exact ⟨none, 0, rfl, World.ownsRow_nil _ _ _ _, hb⟩
end Go.Proofs.YtpeepolmbcakbaaDoor
