/- The program's Key, with great parts. -/
import Derived.Test.YtdmflofdchmfhaaGreatDoorLZKey2
import Derived.Test.YtdmflofdchmfhaaGreatDoorQuoteB
namespace Go.Proofs.YtdmflofdchmfhaaGreatDoor
open Go.RowKit Go.Shelf Go.Lib

theorem Bd.onb {B b : Nat} {l : List Nat} {w w' : World} (h : Bd B b l w) (hb : Below w.heap.size w w') : Bd B b l w' := bd_own (β := Unit) B b 0 (fun _ => l) () w w' none h (below_grown hb) (fun r e => by cases e)
theorem inZ_len {x : Lb} (h : x.1.size ≤ 2000000 ∧ x.2.size ≤ 2000000) (r : Nat) : (inK x r).length ≤ 4000016 := by
  have a := partZ_len h.1
  have b := partZ_len h.2
  unfold inK
  split
  · simp
  · split
    · omega
    · rw [List.length_append]; omega
theorem partSZ_len {s : ByteArray} (h : s.size ≤ 2000000) : (partS s).size ≤ 2000008 := by rw [← bl_len, partS_bl]; exact partZ_len h
set_option maxRecDepth 100000 in
set_option maxHeartbeats 4000000 in
theorem KeyW_any (A : Option Addr) (n c : Nat) (l : List Lb) (w : World) (hr : RowL w w.heap.size A n l) (hn : n ≤ 40) (hsz : ∀ x ∈ l, x.1.size ≤ 2000000 ∧ x.2.size ≤ 2000000) (hT : Tab w) :
    Calls Tryz.prog 22 #[.slice A n c] w fun e w' => e = .returned (.string (ofl (keyL l))) ∧ Below w.heap.size w w' := by
  have HR := Lib.hid hr
  have HL := Lib.hid hr.1
  have HZ := Lib.hid hsz
  have HB0 := Lib.hid (Bd.new w)
  have hb0 := (Below.refl w.heap.size w).alloc (Nat.le_refl _) (.cells #[.pointer none, .slice none 0 0] 55)
  have HBl := Lib.hid hb0
  have HT0 := Lib.hid hT
  clear hr hsz hb0 hT
  go_enter Tryz.func22, Tryz.ntmps22
  go_wp2_with fail
  go_loopw [10] (fun p wr => ∃ k : Nat, k ≤ n ∧ p = .int .i64 (k : Int) ∧ Hid (Bd w.heap.size w.heap.size (keyL (l.take k)) wr) ∧ Hid (Below w.heap.size w wr)) (fun p _ => n - (intOf p).toNat)
  case atStart => exact ⟨0, by omega, rfl, by simpa [keyL] using HB0, HBl⟩
  case round =>
    obtain ⟨k, hk, rfl, HBd, HBw⟩ := hrel
    rename World => wo
    by_cases hlt : k < n
    · obtain ⟨b, off, hA, hbB, hc⟩ := HR.out.2 (by omega)
      subst hA
      have c1 := (HBw.out.cell (p := ⟨b, off + k * 2, none⟩) hbB).trans (hc k hlt).1
      have c2 := (HBw.out.cell (p := ⟨b, off + k * 2 + 1, none⟩) hbB).trans (hc k hlt).2
      obtain ⟨x, hx⟩ : ∃ x, l.getD k noL = x := ⟨_, rfl⟩
      rw [hx] at c1 c2
      have HX := Lib.hid hx
      have HXs : Hid (x.1.size ≤ 2000000 ∧ x.2.size ≤ 2000000) := Lib.hid (HZ.out x (by
        rw [← hx, List.getD_eq_getElem?_getD, List.getElem?_eq_getElem (by rw [HL.out]; exact hlt)]
        exact List.getElem_mem _))
      obtain ⟨x1, x2⟩ := x
      dsimp only at c1 c2
      have g0 : (0 : Int) ≤ (k : Int) := by omega
      have g1 : (k : Int) < (n : Int) := by omega
      have f1 : decide ((k : Int) < (n : Int)) = true := decide_eq_true g1
      have HK := Lib.hid hlt
      clear hx hlt hc
      have HB1 := Lib.hid ((HBd.out.onw (.cells #[.string x1, .string x2] 29)).onw (.cells #[.string x1, .string x2] 9))
      have hbl := (HBw.out.alloc HBw.out.size (.cells #[.string x1, .string x2] 29))
      have HBl1 := Lib.hid (hbl.alloc hbl.size (.cells #[.string x1, .string x2] 9))
      have HH1 : Hid (((wo.alloc (.cells #[.string x1, .string x2] 29)).alloc (.cells #[.string x1, .string x2] 9)).heap[wo.heap.size + 1]? = some (.cells #[.string x1, .string x2] 9 (0, 0))) := Lib.hid (by
        have h := heap_alloc_new (wo.alloc (.cells #[.string x1, .string x2] 29)) (.cells #[.string x1, .string x2] 9)
        rwa [World.size_alloc] at h)
      clear hbl
      go_wp2_with fail
      go_loopw [20] (fun p v => ∃ r : Nat, r ≤ 2 ∧ p = .int .i64 (r : Int) ∧ Hid (Bd w.heap.size w.heap.size (keyL (l.take k) ++ inK (x1, x2) r) v) ∧ Hid (Below w.heap.size w v) ∧ Hid (v.heap[wo.heap.size + 1]? = some (.cells #[.string x1, .string x2] 9 (0, 0)))) (fun p _ => 2 - (intOf p).toNat)
      case atStart => exact ⟨0, by omega, rfl, Lib.hid (by have h := HB1.out; simpa [inK] using h), HBl1, HH1⟩
      case round =>
        obtain ⟨r, hr2, rfl, HBr, HBlr, HHr⟩ := hrel
        by_cases hr : r < 2
        · have d1 : wr.cell? ⟨wo.heap.size + 1, r, none⟩ = some (.string (prtS (x1, x2) r)) := by
            rw [Lib.cell_of_heap HHr.out]
            rcases (by omega : r = 0 ∨ r = 1) with rfl | rfl <;> rfl
          have hz : (prtS (x1, x2) r).size ≤ 2000000 := by
            unfold prtS
            split
            · exact HXs.out.1
            · exact HXs.out.2
          have HS := Lib.hid (inK_step (x1, x2) hr)
          have hkl : (keyL (l.take k) ++ inK (x1, x2) r).length ≤ 1000000000 := by
            have a := keyZ_len (l.take k) (fun y hy => HZ.out y (List.mem_of_mem_take hy))
            have b := inZ_len (x := (x1, x2)) HXs.out r
            have hm : (l.take k).length ≤ 40 := by rw [List.length_take]; omega
            have a := Nat.le_trans a (Nat.mul_le_mul_right _ hm)
            rw [List.length_append]
            omega
          obtain ⟨s, hs⟩ : ∃ s, prtS (x1, x2) r = s := ⟨_, rfl⟩
          rw [hs] at d1 hz HS
          have hW := fun (v : World) (hv : Below wr.heap.size wr v) => WriteString_o w.heap.size w.heap.size _ (partS s) v (HBr.out.onb hv) hkl (by have := partSZ_len hz; omega) (Nat.le_trans HBlr.out.size hv.size)
          rw [partS_bl] at hW
          unfold partS at hW
          have HW := Lib.hid hW
          have hdl := decZ_len s.size hz
          have m1 : ¬ 9223372036854775807 < (Lib.decDigits s.size).length + 1 := by omega
          have m2 : ¬ 9223372036854775807 < (Lib.decDigits s.size).length + 1 + s.size := by omega
          have HIt := Lib.hid (itoa_any s.size (by omega) wr (HT0.out.below HBlr.out))
          have e0 : (0 : Int) ≤ (r : Int) := by omega
          have e1 : (r : Int) < (2 : Int) := by omega
          have e2 : decide ((r : Int) < (2 : Int)) = true := decide_eq_true e1
          clear hs hkl hz hW hdl
          go_wp2_with fail
          with_reducible refine HIt.out.mono ?_
          rintro e v ⟨rfl, hbv⟩
          have HBv := Lib.hid hbv
          replace HW := Lib.hid (HW.out v hbv)
          clear hbv
          go_wp2_with fail
          with_reducible refine HW.out.mono ?_
          rintro e v2 ⟨rfl, b1, b2, b3⟩
          have HB2 : Hid (Bd w.heap.size w.heap.size (keyL (l.take k) ++ inK (x1, x2) (r + 1)) v2) := Lib.hid (by rw [HS.out, ← List.append_assoc]; exact b1)
          have HBl2 := Lib.hid ((HBlr.out.trans (HBv.out.mono HBlr.out.size)).trans (b2.mono (Nat.le_refl _)))
          have HH2 : Hid (v2.heap[wo.heap.size + 1]? = some (.cells #[.string x1, .string x2] 9 (0, 0))) := Lib.hid (b3 _ _ ((HBv.out.block _ (Array.getElem?_eq_some_iff.1 HHr.out).1).trans HHr.out) (fun e => by injection e with e; have := HBw.out.size; omega) (fun c fz e => by injection e with e1 e2 e3; cases e2))
          clear b1 b2 b3
          go_wp2_with fail
          exact ⟨⟨r + 1, by omega, by go_num, HB2, HBl2, HH2⟩, by simp [intOf]; omega⟩
        · obtain rfl : r = 2 := by omega
          have HT : Hid (keyL (l.take (k + 1)) = keyL (l.take k) ++ inK (x1, x2) 2) := Lib.hid (by
            rw [take_snocL (by rw [HL.out]; exact HK.out), HX.out, keyL_snoc, List.append_assoc]; rfl)
          rw [← HT.out] at HBr
          go_wp2_with fail
          exact ⟨⟨k + 1, HK.out, by go_num, HBr, HBlr⟩, by have := HK.out; simp [intOf]; omega⟩
    · obtain rfl : k = n := by omega
      have f1 : decide ((k : Int) < (k : Int)) = false := decide_eq_false (by omega)
      have HT : l.take k = l := List.take_of_length_le (by rw [HL.out]; exact Nat.le_refl _)
      rw [HT] at HBd
      have HSt := Lib.hid (String_any w.heap.size w.heap.size (keyL l) (keyL_byt l) wo HBd.out HBw.out.size)
      clear HT
      go_wp2_with fail
      with_reducible refine HSt.out.mono ?_
      rintro e v ⟨rfl, b2, _⟩
      have HBe := Lib.hid (HBw.out.trans (b2.mono (Nat.le_refl _)))
      clear b2
      go_wp2_with fail
      go_ret
      exact ⟨rfl, HBe.out⟩
end Go.Proofs.YtdmflofdchmfhaaGreatDoor
