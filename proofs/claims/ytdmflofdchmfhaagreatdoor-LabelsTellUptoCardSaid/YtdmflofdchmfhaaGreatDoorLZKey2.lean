/- The document's Key, walked. -/
import Derived.Test.YtdmflofdchmfhaaGreatDoorLZKey
import Derived.Deep.RegionHeld3
namespace Go.Proofs.YtdmflofdchmfhaaGreatDoor
open Go.RowKit Go.Shelf Go.Lib

theorem ofl_sizeZ (l : List Nat) : (ofl l).size = l.length := by
  show (l.map UInt8.ofNat).toArray.size = _
  simp
theorem partZ_len {s : ByteArray} (h : s.size ≤ 2000000) : (partK s).length ≤ 2000008 := by
  unfold partK
  rw [List.length_append, List.length_cons, bl_len, bl_len]
  have h2 : (ByteArray.mk (Lib.decDigits s.size).toArray).size = (Lib.decDigits s.size).length := List.size_toArray
  have := decZ_len s.size h
  omega
theorem keyZ_len : ∀ l : List Lb, (∀ x ∈ l, x.1.size ≤ 2000000 ∧ x.2.size ≤ 2000000) → (keyL l).length ≤ l.length * 4000016
  | [], _ => by simp [keyL]
  | x :: l, h => by
    have ih := keyZ_len l fun y hy => h y (List.mem_cons_of_mem _ hy)
    have h1 := partZ_len (h x List.mem_cons_self).1
    have h2 := partZ_len (h x List.mem_cons_self).2
    unfold keyL at ih ⊢
    rw [List.flatMap_cons, List.length_append, List.length_append, List.length_cons]
    omega
set_option maxRecDepth 100000 in
set_option maxHeartbeats 4000000 in
theorem rKey_any (A : Option Addr) (n c : Nat) (l : List Lb) (w : World) (hr : RowL w w.heap.size A n l) (hn : n ≤ 40) (hsz : ∀ x ∈ l, x.1.size ≤ 2000000 ∧ x.2.size ≤ 2000000) :
    Calls Tryz.prog 23 #[.slice A n c] w fun e w' => e = .returned (.string (ofl (keyL l))) ∧ Below w.heap.size w w' := by
  have HR := Lib.hid hr
  have HL := Lib.hid hr.1
  have HZ := Lib.hid hsz
  clear hr hsz
  go_enter Tryz.func23, Tryz.ntmps23
  go_wp2_with fail
  go_loopw [3, 4] (fun o p wr => ∃ k : Nat, k ≤ n ∧ o = .string (ofl (keyL (l.take k))) ∧ p = .int .i64 (k : Int) ∧ Hid (Below w.heap.size w wr)) (fun _ p _ => n - (intOf p).toNat)
  case atStart => exact ⟨0, by omega, rfl, rfl, Lib.hid (Below.refl _ _)⟩
  case round =>
    obtain ⟨k, hk, rfl, rfl, HB⟩ := hrel
    by_cases hlt : k < n
    · obtain ⟨b, off, rfl, hbB, hc⟩ := HR.out.2 (by omega)
      have a1 := (HB.out.cell (p := ⟨b, off + k * 2, none⟩) hbB).trans (hc k hlt).1
      have a2 := (HB.out.cell (p := ⟨b, off + k * 2 + 1, none⟩) hbB).trans (hc k hlt).2
      have hkl : k < l.length := by rw [HL.out]; exact hlt
      have hmem := getD_memL hkl
      have hkey : (keyL (l.take k)).length ≤ 40 * 4000016 := by
        have h := keyZ_len (l.take k) (fun y hy => HZ.out y (List.mem_of_mem_take hy))
        have hm : (l.take k).length ≤ 40 := by rw [List.length_take]; omega
        exact Nat.le_trans h (Nat.mul_le_mul_right _ hm)
      have hnext : keyL (l.take (k + 1)) = keyL (l.take k) ++ partK (l.getD k noL).1 ++ partK (l.getD k noL).2 := by rw [take_snocL hkl, keyL_snoc]
      obtain ⟨x, hx⟩ : ∃ x, l.getD k noL = x := ⟨_, rfl⟩
      rw [hx] at a1 a2 hmem hnext
      have hz := HZ.out x hmem
      obtain ⟨x1, x2⟩ := x
      dsimp only at a1 a2 hz hnext
      obtain ⟨o, ho⟩ : ∃ o, ofl (keyL (l.take k)) = o := ⟨_, rfl⟩
      have hos : o.size ≤ 40 * 4000016 := by rw [← ho, ofl_sizeZ]; exact hkey
      obtain ⟨p1, hp1⟩ : ∃ p, partS x1 = p := ⟨_, rfl⟩
      obtain ⟨p2, hp2⟩ : ∃ p, partS x2 = p := ⟨_, rfl⟩
      have hs1 : p1.size ≤ 2000008 := by rw [← hp1, ← bl_len, partS_bl]; exact partZ_len hz.1
      have hs2 : p2.size ≤ 2000008 := by rw [← hp2, ← bl_len, partS_bl]; exact partZ_len hz.2
      obtain ⟨o1, ho1⟩ : ∃ o1, o ++ p1 = o1 := ⟨_, rfl⟩
      have hs3 : o1.size = o.size + p1.size := by rw [← ho1, ByteArray.size_append]
      have ha := add_runZ o p1 o1 ho1 (by omega)
      have hb := add_runZ o1 p2 (ofl (keyL (l.take (k + 1)))) (by
        refine bl_inj ?_
        rw [bl_append, ← ho1, bl_append, ← ho, bl_ofl (keyL_byt _), bl_ofl (keyL_byt _), ← hp1, ← hp2, partS_bl, partS_bl, hnext]) (by omega)
      obtain ⟨o2, ho2⟩ : ∃ o2, ofl (keyL (l.take (k + 1))) = o2 := ⟨_, rfl⟩
      rw [ho2] at hb
      have HO2 := Lib.hid ho2
      have HC1 := Lib.hid (fun v => (show Calls Tryz.prog 49 #[.string x1] v fun e w' => e = .returned (.string p1) ∧ Below v.heap.size v w' from by have h := counted_any x1 hz.1 v; rwa [hp1] at h))
      have HC2 := Lib.hid (fun v => (show Calls Tryz.prog 49 #[.string x2] v fun e w' => e = .returned (.string p2) ∧ Below v.heap.size v w' from by have h := counted_any x2 hz.2 v; rwa [hp2] at h))
      have HBo : b < wr.heap.size := Nat.lt_of_lt_of_le hbB HB.out.size
      have HQ := Lib.hid (fun v (h : Below wr.heap.size wr v) => And.intro ((h.cell (p := ⟨b, off + k * 2, none⟩) HBo).trans a1) ((h.cell (p := ⟨b, off + k * 2 + 1, none⟩) HBo).trans a2))
      have hbd : Below wr.heap.size wr wr.drew := (Below.refl _ _).drew
      have g0 : (0 : Int) ≤ (k : Int) := by omega
      have g1 : (k : Int) < (n : Int) := by omega
      have f1 : decide ((k : Int) < (n : Int)) = true := decide_eq_true g1
      have HK := Lib.hid hlt
      rw [ho]
      clear hc hkl hmem hkey hnext hx hz ho hos hp1 hp2 hs1 hs2 hs3 ho1 ho2 hlt
      go_wp2_with fail
      go_region_held3 (fun v => v.cell? ⟨b, off + k * 2, none⟩ = some (.string x1) ∧ v.cell? ⟨b, off + k * 2 + 1, none⟩ = some (.string x2))
        (first | exact HQ.out _ hbd | exact HQ.out _ hb2 | exact HQ.out _ hb1)
        ((go_at_call 49
          first
           | (with_reducible refine (HC1.out _).mono ?_
              rintro e s1 ⟨rfl, b1⟩
              have hb1 := next hbd b1)
           | (with_reducible refine (HC2.out _).mono ?_
              rintro e s2 ⟨rfl, b2⟩
              have hb2 := next hb1 b2)))
      have HB2 := Lib.hid (next HB.out hb2)
      clear b1 b2 hb1 hb2 hbd a1 a2
      go_wp2_with fail
      exact ⟨⟨k + 1, HK.out, by rw [HO2.out], by go_num, HB2⟩, by have := HK.out; simp [intOf]; omega⟩
    · obtain rfl : k = n := by omega
      have f1 : decide ((k : Int) < (k : Int)) = false := decide_eq_false (by omega)
      have HF : Hid (l.take k = l) := Lib.hid (List.take_of_length_le (by rw [HL.out]; exact Nat.le_refl _))
      go_wp2_with fail
      go_ret
      rw [HF.out]
      exact ⟨rfl, HB.out⟩
end Go.Proofs.YtdmflofdchmfhaaGreatDoor
