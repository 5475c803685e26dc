/- Key, where each part is shorter than a hundred bytes. -/
import Derived.Test.YtdmflofdchmfhaaGreatDoorLBld
namespace Go.Proofs.YtdmflofdchmfhaaGreatDoor
open Go.RowKit Go.Shelf

theorem dec_len {i : Nat} (h : i < 100) : (Lib.decDigits i).length ≤ 2 := by
  by_cases h1 : i < 10
  · rw [Lib.decDigits, dif_pos h1]; simp
  · rw [Lib.decDigits, dif_neg h1, Lib.decDigits, dif_pos (by omega)]; simp
/-- How long, a colon, the bytes. -/
def partK (s : ByteArray) : List Nat := bl ⟨(Lib.decDigits s.size).toArray⟩ ++ 58 :: bl s
def partS (s : ByteArray) : ByteArray := (⟨(Lib.decDigits s.size).toArray⟩ ++ ⟨#[58]⟩) ++ s
theorem partS_bl (s : ByteArray) : bl (partS s) = partK s := by
  unfold partS partK
  rw [bl_append, bl_append, List.append_assoc]
  rfl
theorem partK_byt (s : ByteArray) : Byt (partK s) := (bl_byt _).app (Byt.cons (by omega) (bl_byt _))
theorem partK_len {s : ByteArray} (h : s.size < 100) : (partK s).length ≤ 102 := by
  unfold partK
  rw [List.length_append, List.length_cons, bl_len, bl_len]
  have := dec_len h
  show (Lib.decDigits s.size).toArray.size + _ ≤ _
  rw [List.size_toArray]
  omega
theorem partS_len {s : ByteArray} (h : s.size < 100) : (partS s).size ≤ 102 := by rw [← bl_len, partS_bl]; exact partK_len h
def keyL (l : List Lb) : List Nat := l.flatMap fun x => partK x.1 ++ partK x.2
theorem keyL_snoc (l : List Lb) (x : Lb) : keyL (l ++ [x]) = keyL l ++ partK x.1 ++ partK x.2 := by simp [keyL]
theorem keyL_byt : ∀ l, Byt (keyL l)
  | [] => Byt.nil
  | x :: l => by
    have := keyL_byt l
    unfold keyL at this ⊢
    rw [List.flatMap_cons]
    exact ((partK_byt _).app (partK_byt _)).app this
theorem keyL_len : ∀ l : List Lb, (∀ x ∈ l, x.1.size < 100 ∧ x.2.size < 100) → (keyL l).length ≤ l.length * 204
  | [], _ => by simp [keyL]
  | x :: l, h => by
    have h1 := keyL_len l fun y hy => h y (List.mem_cons_of_mem _ hy)
    have h2 := h x List.mem_cons_self
    have a := partK_len h2.1
    have b := partK_len h2.2
    unfold keyL at h1 ⊢
    rw [List.flatMap_cons, List.length_append, List.length_append, List.length_cons]
    omega
/-- The parts of one label, the first r of them. -/
def inK (x : Lb) (r : Nat) : List Nat := if r = 0 then [] else if r = 1 then partK x.1 else partK x.1 ++ partK x.2
def prtS (x : Lb) (r : Nat) : ByteArray := if r = 0 then x.1 else x.2
theorem inK_step (x : Lb) {r : Nat} (h : r < 2) : inK x (r + 1) = inK x r ++ partK (prtS x r) := by
  rcases (by omega : r = 0 ∨ r = 1) with rfl | rfl <;> simp [inK, prtS]
theorem inK_len {x : Lb} (h : x.1.size < 100 ∧ x.2.size < 100) (r : Nat) : (inK x r).length ≤ 204 := by
  have a := partK_len h.1
  have b := partK_len h.2
  unfold inK
  split
  · simp
  · split
    · omega
    · rw [List.length_append]; omega
theorem Bd.onw {B b : Nat} {l : List Nat} {w : World} (h : Bd B b l w) (o : Obj) : Bd B b l (w.alloc o) := bd_own (β := Unit) B b 0 (fun _ => l) () w _ none h (World.grownBy_alloc w _ none) (fun r e => by cases e)
set_option maxRecDepth 100000 in
set_option maxHeartbeats 4000000 in
theorem Key_any (A : Option Addr) (n c : Nat) (l : List Lb) (w : World) (hr : RowL w w.heap.size A n l) (hn : n ≤ 2000) (hsz : ∀ x ∈ l, x.1.size < 100 ∧ x.2.size < 100) :
    Calls Tryz.prog 22 #[.slice A n c] w fun e w' => e = .returned (.string (ofl (keyL l))) ∧ Below w.heap.size w w' := by
  have HR := Lib.hid hr
  have HL := Lib.hid hr.1
  have HZ := Lib.hid hsz
  have HB0 := Lib.hid (Bd.new w)
  have hb0 := (Below.refl w.heap.size w).alloc (Nat.le_refl _) (.cells #[.pointer none, .slice none 0 0] 55)
  have HBl := Lib.hid hb0
  have HI2 := Lib.hid (fun (i : Nat) (hi : i < 100) (v : World) => Tryz.strconv_Itoa_small i hi v)
  clear hr hsz hb0
  go_enter Tryz.func22, Tryz.ntmps22
  go_wp2_with fail
  go_loopw [10] (fun p wr => ∃ k : Nat, k ≤ n ∧ p = .int .i64 (k : Int) ∧ Hid (Bd w.heap.size w.heap.size (keyL (l.take k)) wr) ∧ Hid (Below w.heap.size w wr)) (fun p _ => n - (intOf p).toNat)
  case atStart => exact ⟨0, by omega, rfl, by simpa [keyL] using HB0, HBl⟩
  case round =>
    obtain ⟨k, hk, rfl, HBd, HBw⟩ := hrel
    rename World => wo
    by_cases hlt : k < n
    · obtain ⟨b, off, hA, hbB, hc⟩ := HR.out.2 (by omega)
      subst hA
      have c1 := (HBw.out.cell (p := ⟨b, off + k * 2, none⟩) hbB).trans (hc k hlt).1
      have c2 := (HBw.out.cell (p := ⟨b, off + k * 2 + 1, none⟩) hbB).trans (hc k hlt).2
      obtain ⟨x, hx⟩ : ∃ x, l.getD k noL = x := ⟨_, rfl⟩
      rw [hx] at c1 c2
      have HX := Lib.hid hx
      have HXs : Hid (x.1.size < 100 ∧ x.2.size < 100) := Lib.hid (HZ.out x (by
        rw [← hx, List.getD_eq_getElem?_getD, List.getElem?_eq_getElem (by rw [HL.out]; exact hlt)]
        exact List.getElem_mem _))
      obtain ⟨x1, x2⟩ := x
      dsimp only at c1 c2
      have g0 : (0 : Int) ≤ (k : Int) := by omega
      have g1 : (k : Int) < (n : Int) := by omega
      have f1 : decide ((k : Int) < (n : Int)) = true := decide_eq_true g1
      have HK := Lib.hid hlt
      clear hx hlt hc
      have HB1 := Lib.hid ((HBd.out.onw (.cells #[.string x1, .string x2] 29)).onw (.cells #[.string x1, .string x2] 9))
      have hbl := (HBw.out.alloc HBw.out.size (.cells #[.string x1, .string x2] 29))
      have HBl1 := Lib.hid (hbl.alloc hbl.size (.cells #[.string x1, .string x2] 9))
      have HH1 : Hid (((wo.alloc (.cells #[.string x1, .string x2] 29)).alloc (.cells #[.string x1, .string x2] 9)).heap[wo.heap.size + 1]? = some (.cells #[.string x1, .string x2] 9 (0, 0))) := Lib.hid (by
        have h := heap_alloc_new (wo.alloc (.cells #[.string x1, .string x2] 29)) (.cells #[.string x1, .string x2] 9)
        rwa [World.size_alloc] at h)
      clear hbl
      go_wp2_with fail
      go_loopw [20] (fun p v => ∃ r : Nat, r ≤ 2 ∧ p = .int .i64 (r : Int) ∧ Hid (Bd w.heap.size w.heap.size (keyL (l.take k) ++ inK (x1, x2) r) v) ∧ Hid (Below w.heap.size w v) ∧ Hid (v.heap[wo.heap.size + 1]? = some (.cells #[.string x1, .string x2] 9 (0, 0)))) (fun p _ => 2 - (intOf p).toNat)
      case atStart => exact ⟨0, by omega, rfl, Lib.hid (by have h := HB1.out; simpa [inK] using h), HBl1, HH1⟩
      case round =>
        obtain ⟨r, hr2, rfl, HBr, HBlr, HHr⟩ := hrel
        by_cases hr : r < 2
        · have d1 : wr.cell? ⟨wo.heap.size + 1, r, none⟩ = some (.string (prtS (x1, x2) r)) := by
            rw [Lib.cell_of_heap HHr.out]
            rcases (by omega : r = 0 ∨ r = 1) with rfl | rfl <;> rfl
          have hz : (prtS (x1, x2) r).size < 100 := by
            unfold prtS
            split
            · exact HXs.out.1
            · exact HXs.out.2
          have HS := Lib.hid (inK_step (x1, x2) hr)
          have hkl : (keyL (l.take k) ++ inK (x1, x2) r).length ≤ 1000000000 := by
            have a := keyL_len (l.take k) (fun y hy => HZ.out y (List.mem_of_mem_take hy))
            have b := inK_len (x := (x1, x2)) HXs.out r
            rw [List.length_take] at a
            rw [List.length_append]
            have := Nat.min_le_left k l.length
            omega
          obtain ⟨s, hs⟩ : ∃ s, prtS (x1, x2) r = s := ⟨_, rfl⟩
          rw [hs] at d1 hz HS
          have hW := WriteString_o w.heap.size w.heap.size _ (partS s) wr HBr.out hkl (by have := partS_len hz; omega) HBlr.out.size
          rw [partS_bl] at hW
          unfold partS at hW
          have HW := Lib.hid hW
          have hdl := dec_len hz
          have m1 : ¬ 9223372036854775807 < (Lib.decDigits s.size).length + 1 := by omega
          have m2 : ¬ 9223372036854775807 < (Lib.decDigits s.size).length + 1 + s.size := by omega
          have HIt := Lib.hid (HI2.out s.size hz)
          have e0 : (0 : Int) ≤ (r : Int) := by omega
          have e1 : (r : Int) < (2 : Int) := by omega
          have e2 : decide ((r : Int) < (2 : Int)) = true := decide_eq_true e1
          clear hs hkl hz hW hdl
          go_wp2_with fail
          with_reducible refine (HIt.out _).mono ?_
          rintro e v ⟨rfl, rfl⟩
          go_wp2_with fail
          with_reducible refine HW.out.mono ?_
          rintro e v2 ⟨rfl, b1, b2, b3⟩
          have HB2 : Hid (Bd w.heap.size w.heap.size (keyL (l.take k) ++ inK (x1, x2) (r + 1)) v2) := Lib.hid (by rw [HS.out, ← List.append_assoc]; exact b1)
          have HBl2 := Lib.hid (HBlr.out.trans (b2.mono (Nat.le_refl _)))
          have HH2 : Hid (v2.heap[wo.heap.size + 1]? = some (.cells #[.string x1, .string x2] 9 (0, 0))) := Lib.hid (b3 _ _ HHr.out (fun e => by injection e with e; have := HBw.out.size; omega) (fun c fz e => by injection e with e1 e2 e3; cases e2))
          clear b1 b2 b3
          go_wp2_with fail
          exact ⟨⟨r + 1, by omega, by go_num, HB2, HBl2, HH2⟩, by simp [intOf]; omega⟩
        · obtain rfl : r = 2 := by omega
          have HT : Hid (keyL (l.take (k + 1)) = keyL (l.take k) ++ inK (x1, x2) 2) := Lib.hid (by
            rw [take_snocL (by rw [HL.out]; exact HK.out), HX.out, keyL_snoc, List.append_assoc]; rfl)
          rw [← HT.out] at HBr
          go_wp2_with fail
          exact ⟨⟨k + 1, HK.out, by go_num, HBr, HBlr⟩, by have := HK.out; simp [intOf]; omega⟩
    · obtain rfl : k = n := by omega
      have f1 : decide ((k : Int) < (k : Int)) = false := decide_eq_false (by omega)
      have HT : l.take k = l := List.take_of_length_le (by rw [HL.out]; exact Nat.le_refl _)
      rw [HT] at HBd
      have HSt := Lib.hid (String_any w.heap.size w.heap.size (keyL l) (keyL_byt l) wo HBd.out HBw.out.size)
      clear HT
      go_wp2_with fail
      with_reducible refine HSt.out.mono ?_
      rintro e v ⟨rfl, b2, _⟩
      have HBe := Lib.hid (HBw.out.trans (b2.mono (Nat.le_refl _)))
      clear b2
      go_wp2_with fail
      go_ret
      exact ⟨rfl, HBe.out⟩
end Go.Proofs.YtdmflofdchmfhaaGreatDoor
