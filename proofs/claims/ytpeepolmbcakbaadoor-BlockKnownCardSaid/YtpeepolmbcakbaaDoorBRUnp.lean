/- The document's Unpack. -/
import Derived.Test.YtpeepolmbcakbaaDoorBAgain
namespace Go.Proofs.YtpeepolmbcakbaaDoor
open Go.RowKit

theorem Rm.other {w w' : World} {g L B m : Nat} {l : List Int} {x : Int} (h : Rm w g L B l x) (ho : Only m w w') (hg : g ≠ m) (hB : B ≤ m) : Rm w' g L B l x := by
  obtain ⟨A, c, hblk, hrow, hne, h1, h2, h3, h4⟩ := h
  refine ⟨A, c, (ho.block g hblk.lt (fun e => hg (by injection e))).trans hblk, ?_, hne, h1, h2, Nat.le_trans h3 ho.size, h4⟩
  exact ⟨hrow.1, fun hn => by
    obtain ⟨b, off, e, hb, hc⟩ := hrow.2 hn
    exact ⟨b, off, e, hb, fun j hj => (World.cell?_of_block (ho.block b (by omega) (fun e' => by injection e'; omega))).trans (hc j hj)⟩⟩
theorem Rm.lt {w : World} {g L B : Nat} {l : List Int} {x : Int} (h : Rm w g L B l x) : g < w.heap.size := by
  obtain ⟨A, c, hblk, _⟩ := h
  exact hblk.lt
theorem Rm.errCell {w : World} {g L B : Nat} {l : List Int} {x : Int} (h : Rm w g L B l x) : w.cell? ⟨g, 1, none⟩ = some (.int .i64 x) := by
  obtain ⟨A, c, hblk, _⟩ := h
  exact hblk.cell 1
theorem NewM (A : Option Addr) (c n : Nat) (l : List Int) (w : World) (hn : l.length = n) (hr : Row w w.heap.size A n (ints .u8 l)) (hl : n ≤ 150000000000000) (hu : ∀ x ∈ l, 0 ≤ x ∧ x ≤ 255) :
    Calls Tryd.prog 40 #[.slice A n c] w fun e w' => ∃ g, e = .returned (.pointer (some ⟨g, 0, none⟩)) ∧ w.heap.size ≤ g ∧ g < w'.heap.size ∧ Below w.heap.size w w' ∧ Rm w' g w.heap.size w'.heap.size l 0 := by
  obtain ⟨i0, hi, hz0, hz1, hz2⟩ := info_parts u8_info
  go_enter Tryd.func40, Tryd.ntmps40
  go_wp2_with (at_builtin; refine wpList_app _ rfl (.tmp 4) (.tmp 5) 24 rfl w.heap.size 5 i0 (.int .u8 0) 1 Tryd.underlying24 hi hz0 hz1 hz2 rfl _ 0 [] rfl (World.ownsRow_nil _ _ _ _) _ _ _ _ _ rfl hr (ints_one _ _) (by unfold maxLen; omega) (by omega) (Nat.le_refl _) ?_)
  intro v' w1 hown0 _ hb
  obtain ⟨A1, c1, rfl⟩ := own_slice hown0
  have hc1 := own_cap hown0
  go_wp2
  go_ret
  have hsz := hb.size
  have hlow : ∀ x, A1 = some x → w.heap.size ≤ x.block ∧ x.block < w1.heap.size := fun x e => hown0.lt x.block (by rw [e]; rfl)
  refine ⟨w1.heap.size, rfl, hb.size, by simp, hb.alloc hb.size _, ?_⟩
  subst hn
  refine ⟨A1, c1, by simpa using Blk.made w1 64 [.slice A1 l.length c1, .int .i64 0], ?_, fun a e => by have := hlow a e; exact ⟨by omega, this.1⟩, hl, by simpa using hc1, Nat.le_refl _, hu⟩
  simpa using ((Row.own hown0).alloc (Nat.le_refl _) (.cells #[.slice A1 l.length c1, .int .i64 0] 64)).wide (B' := w1.heap.size + 1) (by omega)

theorem good_first {l : List Int} (hu : Byt8 l) (h : goodB l = true) : uX l 0 = 0 ∧ 1 ≤ cnt l ∧ cnt l ≤ 32 := by
  unfold goodB at h
  simp only [Bool.and_eq_true, decide_eq_true_eq] at h
  obtain ⟨⟨h1, _⟩, h3⟩ := h
  have hel : (esOf l).length = cnt l := by simp [esOf]
  have h4 := chkB_ok h3
  rw [hel] at h4
  have hu1 : Byt8 (nU (l, 0)).1 := show Byt8 (uL l 0) from uL_u8 hu
  unfold endOf at h1
  obtain ⟨a1, _⟩ := rdLn_inv (rdAt_u8 hu1 (cnt l - 1)) (cnt l) h1
  obtain ⟨b1, _⟩ := rdAt_inv hu1 (cnt l - 1) a1
  exact ⟨b1, h4.1, h4.2.1⟩
/-- Packed again it is the same just if it may be unpacked. -/
theorem same_again {b : List Int} (hu : U8 b) (hs : sealedI b = true) (hx : (endOf (cutOf b)).2 = 0) (hk : chkB (mm (esS (cutOf b))) = 0) : okU b = decide (b = packL (esS (cutOf b))) := by
  by_cases h : okU b = true
  · obtain ⟨_, h2, _⟩ := again hu h
    rw [esU, if_pos h] at h2
    rw [h, h2]; simp
  · have hf : okU b = false := by simpa using h
    rw [hf]
    symm
    rw [decide_eq_false_iff_not]
    intro he
    rw [packL, if_pos hk] at he
    have := (back hk).1
    rw [← he] at this
    exact h this
def tA (p : List Int × Int) (j : Nat) : Int := (rdAt p j).1
theorem ec_snoc (k : Nat) (T : Nat → Int) (S : Nat → ByteArray) : ec k T S ++ [.int .i64 (T k), .string (S k)] = ec (k + 1) T S := by
  apply List.ext_getElem?
  intro i
  rw [List.getElem?_append, ec_len]
  by_cases h : i < k * 2
  · rw [if_pos h, ec_get _ _ h, ec_get _ _ (by omega)]
  · rw [if_neg h]
    by_cases h2 : i = k * 2
    · subst h2; rw [ec_t _ _ (by omega)]; simp
    · by_cases h3 : i = k * 2 + 1
      · subst h3; rw [ec_s _ _ (by omega), show k * 2 + 1 - k * 2 = 1 by omega]; rfl
      · rw [List.getElem?_eq_none (by simp; omega), List.getElem?_eq_none (by rw [ec_len]; omega)]
theorem own_first (w : World) (base : Nat) (t : Int) (hb : base ≤ w.heap.size) : (w.alloc (.cells #[.int .i64 t, .string ByteArray.empty] 43)).ownsRow base 43 2 (.slice (some ⟨w.heap.size, 0, none⟩) 1 1) 1 [.int .i64 t, .string ByteArray.empty] :=
  ⟨rfl, .inr ⟨w.heap.size, 1, _, rfl, hb, heap_alloc_new w _, Nat.le_refl _, by unfold maxLen; omega, rfl, rfl⟩⟩
end Go.Proofs.YtpeepolmbcakbaaDoor
