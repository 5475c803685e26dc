/- The laws' set: labels of a text. -/
import Derived.Test.YtdmflofdchmfhaaGreatDoorLText
import Derived.Test.YtdmflofdchmfhaaGreatDoorLPut
import Derived.Deep.RegionHeld3
namespace Go.Proofs.YtdmflofdchmfhaaGreatDoor
open Go.RowKit Go.Shelf

/-- The label at i. -/
def lbAt (s : ByteArray) (i : Nat) : Lb := (s.extract i (i + 1), ⟨(Lib.trimPrefix (s.extract (i + 1) (i + 2)).data.toList [45]).toArray⟩)
def setLs (s : ByteArray) : List Lb := (List.range (s.size / 2)).map fun k => lbAt s (2 * k)
def setTo (s : ByteArray) (k : Nat) : List Lb := (List.range k).map fun k => lbAt s (2 * k)
theorem setTo_len (s : ByteArray) (k : Nat) : (setTo s k).length = k := by simp [setTo]
theorem setTo_snoc (s : ByteArray) (k : Nat) : setTo s (k + 1) = setTo s k ++ [lbAt s (2 * k)] := by simp [setTo, List.range_succ]
set_option maxRecDepth 100000 in
set_option maxHeartbeats 4000000 in
theorem set_any (s : ByteArray) (hs : s.size ≤ 1000000) (w : World) : Calls Tryz.prog 50 #[.string s] w (LOut w (setLs s)) := by
  obtain ⟨i0, hi0, hz0, hz1, hz2⟩ := info_partsL lb_info
  have HS := Lib.hid hs
  have HT0 := Lib.hid (fun x (v : World) => Tryz.strings_TrimPrefix x ⟨#[45]⟩ v)
  go_enter Tryz.func50, Tryz.ntmps50
  go_wp2_with fail
  go_loopw [3, 4] (fun o p wr => ∃ (k i : Nat) (A : Option Addr) (c : Nat), o = .slice A k c ∧ i = 2 * k ∧ i ≤ s.size ∧ p = .int .i64 (i : Int) ∧ Hid (wr.ownsRow w.heap.size 29 2 (.slice A k c) k (cL (setTo s k))) ∧ Hid (Below w.heap.size w wr)) (fun _ p _ => s.size - (intOf p).toNat)
  case atStart => exact ⟨0, 0, none, 0, rfl, rfl, by omega, rfl, Lib.hid (World.ownsRow_nil _ _ _ _), Lib.hid (Below.refl _ _)⟩
  case round =>
    obtain ⟨k, i, A, c, rfl, hik, hi, rfl, HO, HBw⟩ := hrel
    have w1 : IntKind.i64.wrap ((i : Int) + 1) = (i : Int) + 1 := by rw [IntKind.wrap_i64]; omega
    have w2 : IntKind.i64.wrap ((i : Int) + 2) = (i : Int) + 2 := by rw [IntKind.wrap_i64]; omega
    by_cases hlt : i + 1 < s.size
    · have f1 : decide ((i : Int) + 1 < (s.size : Int)) = true := decide_eq_true (by omega)
      have g0 : (0 : Int) ≤ (i : Int) := by omega
      have g1 : (i : Int) ≤ (i : Int) + 1 := by omega
      have g2 : (i : Int) + 1 ≤ (s.size : Int) := by omega
      have g3 : (0 : Int) ≤ (i : Int) + 1 := by omega
      have g4 : (i : Int) + 1 ≤ (i : Int) + 2 := by omega
      have g5 : (i : Int) + 2 ≤ (s.size : Int) := by omega
      have HK := Lib.hid hik
      have HL := Lib.hid hlt
      have hkb : k ≤ 1000000 := by omega
      clear hik hlt hs
      obtain ⟨x, hx⟩ : ∃ x, s.extract i (i + 1) = x := ⟨_, rfl⟩
      obtain ⟨y, hy⟩ : ∃ y, s.extract (i + 1) ((i : Int) + 2).toNat = y := ⟨_, rfl⟩
      have HT := Lib.hid (HT0.out y)
      obtain ⟨z, hz⟩ : ∃ z, (⟨(Lib.trimPrefix y.data.toList (ByteArray.mk #[45]).data.toList).toArray⟩ : ByteArray) = z := ⟨_, rfl⟩
      rw [hz] at HT
      have HLb : Hid (lbAt s i = (x, z)) := Lib.hid (by unfold lbAt; rw [hx, show i + 2 = ((i : Int) + 2).toNat by omega, hy, ← hz])
      have hbs := HBw.out.size
      clear hz
      go_wp2_with fail
      go_region_held3 (fun w' => Below w.heap.size w w')
        (first | exact HBw.out.drew | assumption | exact HBw.out.drew.alloc hbs _)
        ((first
          | (go_at_call 68
             with_reducible refine (HT.out _).mono ?_
             rintro e v ⟨rfl, rfl⟩)
          | (refine step_appL _ (by rfl) (.tmp 12) (.tmp 26) 22 (by rfl) w.heap.size 29 i0 Tryz.underlying22 hi0 hz0 hz1 hz2 (.slice A k c) k (cL (setTo s k)) (by rfl) ((HO.out.alloc _).drew) _ _ 1 1 [(x, z)] (by rfl) (RowL.one' _ _ _ _) (by omega) (by simp; omega) (k + 1) rfl ?_
             intro A2 c2 w3 o3 gr3 b3
             have hb3 := (HBw.out.drew.alloc hbs _).trans b3)))
      all_goals
        have HO3 : Hid (w3.ownsRow w.heap.size 29 2 (.slice A2 (k + 1) c2) (k + 1) (cL (setTo s (k + 1)))) := Lib.hid (by
          have h := o3
          have h2 := HLb.out
          rw [HK.out] at h2
          rw [setTo_snoc, h2, cL_app]; exact h)
        have HB3 := Lib.hid hb3
        clear o3 gr3 b3 hb3
        go_wp2_with fail
        exact ⟨⟨k + 1, i + 2, A2, c2, rfl, by have := HK.out; omega, by have := HL.out; omega, by go_num, HO3, HB3⟩, by have := HL.out; simp [intOf]; omega⟩
    · have f1 : decide ((i : Int) + 1 < (s.size : Int)) = false := decide_eq_false (by omega)
      have hk : k = s.size / 2 := by omega
      have HF : Hid (setLs s = setTo s k) := Lib.hid (by rw [hk]; rfl)
      clear hk hlt hik
      go_wp2_with fail
      go_ret
      refine ⟨A, c, ?_, ?_, HBw.out⟩
      · rw [HF.out, setTo_len]; rfl
      · rw [HF.out, setTo_len]; exact HO.out
end Go.Proofs.YtdmflofdchmfhaaGreatDoor
