/- The document's Text, walked. -/
import Derived.Test.YtdmflofdchmfhaaGreatDoorLZKey2
import Derived.Test.YtdmflofdchmfhaaGreatDoorLText
import Derived.Test.YtdmflofdchmfhaaGreatDoorQuoteR
namespace Go.Proofs.YtdmflofdchmfhaaGreatDoor
open Go.RowKit Go.Shelf Go.Lib

/-- A label's text, and the text of the first k labels. -/
def tpZ (x : Lb) : List Nat := bl x.1 ++ [61] ++ quoteL (bl x.2)
def tkZ (l : List Lb) : Nat → List Nat
  | 0 => [123]
  | k + 1 => tkZ l k ++ (if k = 0 then [] else [44, 32]) ++ tpZ (l.getD k noL)
theorem tpZ_byt (x : Lb) : Byt (tpZ x) := ((bl_byt _).app (Byt.cons (by omega) Byt.nil)).app (quote_byt _)
theorem tkZ_byt (l : List Lb) : ∀ k, Byt (tkZ l k)
  | 0 => Byt.cons (by omega) Byt.nil
  | k + 1 => by
    refine ((tkZ_byt l k).app ?_).app (tpZ_byt _)
    split
    · exact Byt.nil
    · exact Byt.cons (by omega) (Byt.cons (by omega) Byt.nil)
theorem tpZ_len {x : Lb} (h1 : x.1.size ≤ 2000000) (h2 : x.2.size ≤ 2000000) : (tpZ x).length ≤ 12000003 := by
  have := (quote_len (bl_byt x.2)).2
  rw [bl_len] at this
  simp only [tpZ, List.length_append, List.length_singleton, bl_len]
  omega
theorem tkZ_len (l : List Lb) (h : ∀ x ∈ l, x.1.size ≤ 2000000 ∧ x.2.size ≤ 2000000) : ∀ k, (tkZ l k).length ≤ 1 + k * 12000005
  | 0 => by simp [tkZ]
  | k + 1 => by
    have ih := tkZ_len l h k
    have hx : (tpZ (l.getD k noL)).length ≤ 12000003 := by
      by_cases hk : k < l.length
      · have := h _ (getD_memL hk)
        exact tpZ_len this.1 this.2
      · rw [List.getD_eq_getElem?_getD, List.getElem?_eq_none (by omega)]
        exact tpZ_len (by decide) (by decide)
    have : (if k = 0 then ([] : List Nat) else [44, 32]).length ≤ 2 := by split <;> simp
    simp only [tkZ, List.length_append]
    omega
set_option maxRecDepth 100000 in
set_option maxHeartbeats 4000000 in
theorem rTextL_any (A : Option Addr) (n c : Nat) (l : List Lb) (w : World) (hr : RowL w w.heap.size A n l) (hn : n ≤ 40) (hsz : ∀ x ∈ l, x.1.size ≤ 2000000 ∧ x.2.size ≤ 2000000) :
    Calls Tryz.prog 21 #[.slice A n c] w fun e w' => e = .returned (.string (ofl (tkZ l n ++ [125]))) ∧ Below w.heap.size w w' := by
  have HR := Lib.hid hr
  have HL := Lib.hid hr.1
  have HZ := Lib.hid hsz
  clear hr hsz
  go_enter Tryz.func21, Tryz.ntmps21
  go_wp2_with fail
  go_loopw [3, 4] (fun o p wr => ∃ k : Nat, k ≤ n ∧ o = .string (ofl (tkZ l k)) ∧ p = .int .i64 (k : Int) ∧ Hid (Below w.heap.size w wr)) (fun _ p _ => n - (intOf p).toNat)
  case atStart => exact ⟨0, by omega, rfl, rfl, Lib.hid (Below.refl _ _)⟩
  case round =>
    obtain ⟨k, hk, rfl, rfl, HB⟩ := hrel
    by_cases hlt : k < n
    · obtain ⟨b, off, rfl, hbB, hc⟩ := HR.out.2 (by omega)
      have a1 := (HB.out.cell (p := ⟨b, off + k * 2, none⟩) hbB).trans (hc k hlt).1
      have a2 := (HB.out.cell (p := ⟨b, off + k * 2 + 1, none⟩) hbB).trans (hc k hlt).2
      have hkl : k < l.length := by rw [HL.out]; exact hlt
      have hmem := getD_memL hkl
      have hkey : (tkZ l k).length ≤ 600000000 := by
        have h := tkZ_len l HZ.out k
        omega
      obtain ⟨x, hx⟩ : ∃ x, l.getD k noL = x := ⟨_, rfl⟩
      have hnext : tkZ l (k + 1) = tkZ l k ++ (if k = 0 then [] else [44, 32]) ++ (bl x.1 ++ [61] ++ quoteL (bl x.2)) := by rw [tkZ, hx, tpZ]
      rw [hx] at a1 a2 hmem
      have hz := HZ.out x hmem
      obtain ⟨x1, x2⟩ := x
      dsimp only at a1 a2 hz hnext
      obtain ⟨o, ho⟩ : ∃ o, ofl (tkZ l k) = o := ⟨_, rfl⟩
      have hos : o.size ≤ 600000000 := by rw [← ho, ofl_sizeZ]; exact hkey
      obtain ⟨q, hq⟩ : ∃ q, ofl (quoteL (bl x2)) = q := ⟨_, rfl⟩
      have hqs : q.size ≤ 10000000 := by
        rw [← hq, ofl_sizeZ]
        have := (quote_len (bl_byt x2)).2
        rw [bl_len] at this
        omega
      have g0 : (0 : Int) ≤ (k : Int) := by omega
      have g1 : (k : Int) < (n : Int) := by omega
      have f1 : decide ((k : Int) < (n : Int)) = true := decide_eq_true g1
      have HC := Lib.hid (fun v => (show Calls Tryz.prog 45 #[.string x2] v fun e w' => e = .returned (.string q) ∧ Below v.heap.size v w' from by
        refine (rQuote_any x2 hz.2 v).mono ?_
        rintro e w1 ⟨S, rfl, h1, h2⟩
        have e : S = q := bl_inj (by rw [h1, ← hq, bl_ofl (quote_byt x2)])
        exact ⟨by rw [e], h2⟩))
      have HBo : b < wr.heap.size := Nat.lt_of_lt_of_le hbB HB.out.size
      have HQ := Lib.hid (fun v (h : Below wr.heap.size wr v) => And.intro ((h.cell (p := ⟨b, off + k * 2, none⟩) HBo).trans a1) ((h.cell (p := ⟨b, off + k * 2 + 1, none⟩) HBo).trans a2))
      have hbd : Below wr.heap.size wr wr.drew := (Below.refl _ _).drew
      have HK := Lib.hid hlt
      have one : (⟨#[61]⟩ : ByteArray).size = 1 := rfl
      have two : (⟨#[44, 32]⟩ : ByteArray).size = 2 := rfl
      obtain ⟨o0, ho0⟩ : ∃ o0, (if k = 0 then o else o ++ ⟨#[44, 32]⟩) = o0 := ⟨_, rfl⟩
      have hos0 : o0.size ≤ 600000002 := by
        rw [← ho0]
        split
        · omega
        · rw [ByteArray.size_append]; omega
      obtain ⟨o1, ho1⟩ : ∃ o1, o0 ++ x1 = o1 := ⟨_, rfl⟩
      have hs1 : o1.size = o0.size + x1.size := by rw [← ho1, ByteArray.size_append]
      obtain ⟨o2, ho2⟩ : ∃ o2, o1 ++ ⟨#[61]⟩ = o2 := ⟨_, rfl⟩
      have hs2 : o2.size = o1.size + 1 := by rw [← ho2, ByteArray.size_append]; rfl
      obtain ⟨o3, ho3⟩ : ∃ o3, ofl (tkZ l (k + 1)) = o3 := ⟨_, rfl⟩
      have ha := add_runZ o0 x1 o1 ho1 (by omega)
      have hb := add_runZ o1 ⟨#[61]⟩ o2 ho2 (by omega)
      have hc2 := add_runZ o2 q o3 (by
        refine bl_inj ?_
        rw [← ho3, bl_ofl (tkZ_byt l _), hnext, bl_append, ← ho2, bl_append, ← ho1, bl_append, ← hq, bl_ofl (quote_byt x2), ← ho0]
        have h1 : bl (⟨#[61]⟩ : ByteArray) = [61] := rfl
        have h2 : bl (⟨#[44, 32]⟩ : ByteArray) = [44, 32] := rfl
        split
        · rw [← ho, bl_ofl (tkZ_byt l k), h1]; simp
        · rw [bl_append, ← ho, bl_ofl (tkZ_byt l k), h1, h2]; simp) (by omega)
      have HO2 := Lib.hid ho3
      rw [ho]
      by_cases k0 : k = 0
      · rw [if_pos k0] at ho0
        have f2 : decide ((0 : Int) < (k : Int)) = false := decide_eq_false (by omega)
        have f3 : ¬ 0 < k := by omega
        have f4 : decide (0 < k) = false := decide_eq_false f3
        subst ho0
        clear k0 hc hkl hmem hkey hnext hx hz ho hos hq hqs hos0 ho1 hs1 ho2 hs2 ho3 hlt one two
        go_wp2_with fail
        go_region_held3 (fun v => v.cell? ⟨b, off + k * 2, none⟩ = some (.string x1) ∧ v.cell? ⟨b, off + k * 2 + 1, none⟩ = some (.string x2))
          (first | exact HQ.out _ hbd | exact HQ.out _ hb2)
          ((go_at_call 45
            (with_reducible refine (HC.out _).mono ?_
             rintro e s2 ⟨rfl, b2⟩
             have hb2 := next hbd b2)))
        have HB2 := Lib.hid (next HB.out hb2)
        clear b2 hb2 hbd a1 a2
        go_wp2_with fail
        exact ⟨⟨k + 1, HK.out, by rw [HO2.out], by go_num, HB2⟩, by have := HK.out; simp [intOf]; omega⟩
      · rw [if_neg k0] at ho0
        have f2 : decide ((0 : Int) < (k : Int)) = true := decide_eq_true (by omega)
        have hd := add_runZ o ⟨#[44, 32]⟩ o0 ho0 (by omega)
        clear hc hkl hmem hkey hnext hx hz ho hos hq hqs hos0 ho0 ho1 hs1 ho2 hs2 ho3 hlt one two
        go_wp2_with fail
        go_region_held3 (fun v => v.cell? ⟨b, off + k * 2, none⟩ = some (.string x1) ∧ v.cell? ⟨b, off + k * 2 + 1, none⟩ = some (.string x2))
          (first | exact HQ.out _ hbd | exact HQ.out _ hb2)
          ((go_at_call 45
            (with_reducible refine (HC.out _).mono ?_
             rintro e s2 ⟨rfl, b2⟩
             have hb2 := next hbd b2)))
        have HB2 := Lib.hid (next HB.out hb2)
        clear b2 hb2 hbd a1 a2
        go_wp2_with fail
        exact ⟨⟨k + 1, HK.out, by rw [HO2.out], by go_num, HB2⟩, by have := HK.out; simp [intOf]; omega⟩
    · obtain rfl : k = n := by omega
      have f1 : decide ((k : Int) < (k : Int)) = false := decide_eq_false (by omega)
      obtain ⟨o, ho⟩ : ∃ o, ofl (tkZ l k) = o := ⟨_, rfl⟩
      have hos : o.size ≤ 600000000 := by rw [← ho, ofl_sizeZ]; have := tkZ_len l HZ.out k; omega
      obtain ⟨S, hS⟩ : ∃ S, ofl (tkZ l k ++ [125]) = S := ⟨_, rfl⟩
      have one : (⟨#[125]⟩ : ByteArray).size = 1 := rfl
      have ha := add_runZ o ⟨#[125]⟩ S (by
        refine bl_inj ?_
        rw [bl_append, ← ho, ← hS, bl_ofl (tkZ_byt l k), bl_ofl ((tkZ_byt l k).app (Byt.cons (by omega) Byt.nil))]; rfl) (by omega)
      rw [ho]
      go_wp2_with fail
      go_ret
      exact ⟨by rw [hS]; rfl, HB.out⟩
end Go.Proofs.YtdmflofdchmfhaaGreatDoor
