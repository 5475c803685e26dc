/- nat.isNumeral. -/
import Derived.Test.YtlpfcilgndbopaaDoorNGcd
import Derived.Test.YtlpfcilgndbopaaDoorShelf
import Derived.Laws.IdiomStrings
import Derived.Deep.LoopGhost
namespace Go.Proofs.YtlpfcilgndbopaaDoor
open Go.RowKit

/-- The bytes are decimal digits without a zero in front, one at least. -/
def digit (b : UInt8) : Bool := 48 ≤ b.toNat && b.toNat ≤ 57
def isNum (l : List UInt8) : Bool := l.all digit && (l.length == 1 || decide (1 < l.length) && l.getD 0 0 != 48)

/-- What '[]byte(s)' lays, read at j. -/
theorem bytes_cell (w : World) (s : ByteArray) (cap j : Nat) (m : Nat × Nat) (hj : j < s.data.toList.length) :
    (w.alloc (.cells (bytesRow s cap) 5 m)).cell? ⟨w.heap.size, j, none⟩ = some (.int .u8 ((s.data.toList.getD j 0).toNat : Int)) := by
  rw [World.cell?_alloc_mark]
  have h : j < s.data.size := by simpa using hj
  have := bytesRow_at s cap j h
  rw [this]
  simp only [List.getD_eq_getElem?_getD, Array.getElem?_toList, Array.getElem?_eq_getElem h, Option.getD_some]
theorem all_succ {l : List UInt8} {k : Nat} (hk : k < l.length) (h : (l.take k).all digit = true) (hd : digit (l.getD k 0) = true) : (l.take (k + 1)).all digit = true := by
  rw [List.take_succ_eq_append_getElem hk, List.all_append, h]
  simpa [List.getD_eq_getElem?_getD, hk] using hd
theorem all_no {l : List UInt8} {k : Nat} (hk : k < l.length) (hd : digit (l.getD k 0) = false) : l.all digit = false := by
  rw [← Bool.not_eq_true, List.all_eq_true]
  intro h
  have := h l[k] (List.getElem_mem hk)
  rw [List.getD_eq_getElem?_getD, List.getElem?_eq_getElem hk, Option.getD_some, this] at hd
  cases hd
theorem byte_ne (b : UInt8) : ((b.toNat : Int) != 48) = (b != 48) := by
  by_cases h : b = 48
  · subst h; rfl
  · have h2 : ¬ (b.toNat : Int) = 48 := fun h' => h (UInt8.toNat.inj (by simp; omega))
    rw [bne, bne, beq_eq_false_iff_ne.2 h, beq_eq_false_iff_ne.2 h2]
theorem str_at {l : List UInt8} {s : ByteArray} (h : s.data.toList = l) : ∀ j, j < l.length → s.data[j]? = some (l.getD j 0) := by
  intro j hj
  subst h
  simp at hj
  simp [List.getD_eq_getElem?_getD, hj]

set_option maxRecDepth 100000 in
set_option maxHeartbeats 1000000 in
theorem isNumeral_any (s : ByteArray) (l : List UInt8) (hl : s.data.toList = l) (hs : s.size ≤ 1000000) (w : World) :
    Calls Tryd.prog 63 #[.string s] w fun e w' => e = .returned (.bool (isNum l)) ∧ Below w.heap.size w w' := by
  have hcv := fun w s => run_bytes_of_string (P := Tryd.prog) w 9 44 5 s Tryd.underlying9 Tryd.underlying44 Tryd.underlying5
  go_enter Tryd.func63, Tryd.ntmps63
  go_wp2_with fail
  have hsz : s.data.toList.length = s.size := Array.length_toList
  have hC := fun j m (hj : j < s.data.toList.length) => bytes_cell w s (grownCap w s.size 0 5) j m hj
  have hB : Below w.heap.size w ((w.alloc (.cells (bytesRow s (grownCap w s.size 0 5)) 5 ((bytesRow s (grownCap w s.size 0 5)).size, (bytesRow s (grownCap w s.size 0 5)).size + 1))).drew) := ((Below.refl _ w).alloc (Nat.le_refl _) _).drew
  replace hC := fun j (hj : j < s.data.toList.length) => hC j ((bytesRow s (grownCap w s.size 0 5)).size, (bytesRow s (grownCap w s.size 0 5)).size + 1) hj
  obtain ⟨g, hg⟩ : ∃ g, w.heap.size = g := ⟨_, rfl⟩
  rw [hg] at hC
  rw [hg] at hB ⊢
  obtain ⟨W, hW⟩ : ∃ W, (w.alloc (.cells (bytesRow s (grownCap w s.size 0 5)) 5 ((bytesRow s (grownCap w s.size 0 5)).size, (bytesRow s (grownCap w s.size 0 5)).size + 1))).drew = W := ⟨_, rfl⟩
  replace hC : ∀ j, j < s.data.toList.length → ((w.alloc (.cells (bytesRow s (grownCap w s.size 0 5)) 5 ((bytesRow s (grownCap w s.size 0 5)).size, (bytesRow s (grownCap w s.size 0 5)).size + 1))).drew).cell? ⟨g, j, none⟩ = some (.int .u8 ((s.data.toList.getD j 0).toNat : Int)) := hC
  rw [hW] at hB hC ⊢
  clear hcv hW
  have hS := str_at hl
  rw [hl] at hC hsz
  have HL := Lib.hid hl
  clear hl
  have hC0 : ∀ j, j < l.length → W.cell? ⟨g, 0 + j, none⟩ = some (.int .u8 ((l.getD j 0).toNat : Int)) := fun j hj => by rw [Nat.zero_add]; exact hC j hj
  have HC := Lib.hid (And.intro hC hC0)
  clear hC hC0
  go_loopw [8] (fun i wr => ∃ k q : Nat, k ≤ s.size ∧ i = .int .i64 k ∧ (l.take k).all digit = true ∧ wr = W.drewN q) (fun i _ => s.size - (intOf i).toNat)
  case atStart => exact ⟨0, 0, Nat.zero_le _, rfl, rfl, rfl⟩
  case round =>
    obtain ⟨k, q, hk, rfl, ht, rfl⟩ := hrel
    by_cases hlt : k < s.size
    · have hkl : k < l.length := by omega
      have hc := HC.out.1 k hkl
      have hlt' : (k : Int) < (s.size : Int) := by omega
      obtain ⟨b, hb⟩ : ∃ b, l.getD k 0 = b := ⟨_, rfl⟩
      rw [hb] at hc
      have HT := Lib.hid ht
      have HB := Lib.hid hb
      clear ht hb
      have HBe : Hid (∀ q : Nat, Below g w (W.drewN q)) := Lib.hid fun q => hB.trans ⟨rfl, rfl, rfl, Nat.le_refl _, fun _ _ => rfl⟩
      clear hB
      by_cases h1 : (b.toNat : Int) < 48
      · have HN : Hid (isNum l = false) := Lib.hid (by rw [isNum, all_no hkl (by rw [HB.out, digit, decide_eq_false (by omega), Bool.false_and])]; rfl)
        go_wp2
        go_ret
        rw [HN.out]
        exact ⟨rfl, by first | exact HBe.out q | exact hg.symm ▸ HBe.out q⟩
      · by_cases h2 : (57 : Int) < (b.toNat : Int)
        · have HN : Hid (isNum l = false) := Lib.hid (by rw [isNum, all_no hkl (by rw [HB.out, digit, decide_eq_false (show ¬ b.toNat ≤ 57 by omega), Bool.and_false])]; rfl)
          go_wp2
          go_ret
          rw [HN.out]
          exact ⟨rfl, by first | exact HBe.out q | exact hg.symm ▸ HBe.out q⟩
        · have HN : Hid ((l.take (k + 1)).all digit = true) := Lib.hid (all_succ hkl HT.out (by rw [HB.out, digit, decide_eq_true (show 48 ≤ b.toNat by omega), decide_eq_true (show b.toNat ≤ 57 by omega)]; rfl))
          have hk1 : k + 1 ≤ s.size := by omega
          go_wp2
          refine ⟨⟨k + 1, q, hk1, rfl, HN.out, rfl⟩, ?_⟩
          simp only [intOf]
          omega
    · have hks : k = s.size := by omega
      rw [List.take_of_length_le (by omega)] at ht
      have HBe : Hid (∀ q : Nat, Below g w (W.drewN q)) := Lib.hid fun q => hB.trans ⟨rfl, rfl, rfl, Nat.le_refl _, fun _ _ => rfl⟩
      have HT := Lib.hid ht
      clear hB ht
      by_cases h1 : s.size = 1
      · have HN : Hid (isNum l = true) := Lib.hid (by rw [isNum, HT.out, hsz, h1]; rfl)
        go_wp2
        go_ret
        rw [HN.out]
        exact ⟨rfl, by first | exact HBe.out q | exact hg.symm ▸ HBe.out q⟩
      · have h1' : ((s.size : Int) == 1) = false := beq_eq_false_iff_ne.2 (by omega)
        by_cases h2 : 1 < s.size
        · obtain ⟨b, hb⟩ : ∃ b, l.getD 0 0 = b := ⟨_, rfl⟩
          have hs0 := hS 0 (by omega)
          rw [hb] at hs0
          have hlt0 : 0 < s.data.size := by have : s.size = s.data.size := rfl; omega
          have HE : Hid (∀ h, s.data[0]'h = b) := Lib.hid fun h => by rw [Array.getElem?_eq_getElem h] at hs0; injection hs0
          have HN : Hid (isNum l = (b != 48)) := Lib.hid (by rw [isNum, HT.out, hsz, hb, decide_eq_true h2, beq_eq_false_iff_ne.2 h1, Bool.true_and, Bool.true_and, Bool.false_or])
          clear hs0
          go_wp2
          go_ret
          rw [HN.out]
          refine ⟨ret_bool ?_, by first | exact HBe.out q | exact hg.symm ▸ HBe.out q⟩
          rw [← byte_ne, ← HE.out hlt0]
          rfl
        · have HN : Hid (isNum l = false) := Lib.hid (by rw [isNum, HT.out, hsz, decide_eq_false h2, beq_eq_false_iff_ne.2 h1]; rfl)
          go_wp2
          go_ret
          rw [HN.out]
          exact ⟨rfl, by first | exact HBe.out q | exact hg.symm ▸ HBe.out q⟩
end Go.Proofs.YtlpfcilgndbopaaDoor
