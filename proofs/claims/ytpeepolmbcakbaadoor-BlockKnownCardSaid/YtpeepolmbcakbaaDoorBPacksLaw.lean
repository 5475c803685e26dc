/- BlockPacks: the walk. -/
import Derived.Test.YtpeepolmbcakbaaDoorBAwake
import Derived.Deep.SlicePairs
namespace Go.Proofs.YtpeepolmbcakbaaDoor
open Go.RowKit

/-- A slice of entries that came in, as the form reads it. -/
theorem RowE.of_pairs {w : World} {a : Addr} {n : Nat} {V0 V1 : Nat → Value} (h : ∀ i, i < n → w.cell? (a.add (i * 2)) = some (V0 i) ∧ w.cell? (a.add (i * 2 + 1)) = some (V1 i) ∧ ∃ (t : Int) (s : ByteArray), V0 i = .int .i64 t ∧ V1 i = .string s) : ∃ es : List (Int × ByteArray), es.length = n ∧ RowE w w.heap.size (some a) n es := by
  have h' : ∀ i, i < n → ∃ q : Int × ByteArray, w.cell? (a.add (i * 2)) = some (.int .i64 q.1) ∧ w.cell? (a.add (i * 2 + 1)) = some (.string q.2) := fun i hi => by
    obtain ⟨h1, h2, t, s, e1, e2⟩ := h i hi
    exact ⟨(t, s), by rw [h1, e1], by rw [h2, e2]⟩
  obtain ⟨q, hq⟩ := Go.Deep.choose_lt h'
  refine ⟨(List.range n).map q, by simp, by simp, fun h0 => ?_⟩
  obtain ⟨b, off, spot⟩ := a
  have hspot : spot = none := by simpa [Addr.add] using World.cell?_spot (hq 0 h0).1
  subst hspot
  obtain ⟨h1, _⟩ := hq 0 h0
  rw [addr_add] at h1
  refine ⟨b, off, rfl, World.block_lt_of_cell? w _ h1, fun j hj => ?_⟩
  obtain ⟨h1, h2⟩ := hq j hj
  rw [addr_add] at h1 h2
  rw [show ((List.range n).map q).getD j (0, ByteArray.empty) = q j by simp [List.getD_eq_getElem?_getD, hj]]
  exact ⟨h1, h2⟩
theorem packL_len (es : List (Int × ByteArray)) : (packL es).length ≤ 200004 := by
  unfold packL
  split
  · rename_i h
    rw [putB, List.length_append, rowI_len]
    have := encB_len h
    omega
  · simp
theorem packL_u8 (es : List (Int × ByteArray)) : U8 (packL es) := by
  unfold packL
  split
  · rename_i h
    rw [putB]
    exact (encB_byt h).app (rowI_u8 _)
  · intro x hx; cases hx

set_option maxRecDepth 100000 in
set_option maxHeartbeats 4000000 in
theorem BlockPacks_walk (A : Option Addr) (es : List (Int × ByteArray)) (c : Nat) (w : World) (hr : RowE w w.heap.size A es.length es) (_hc : es.length ≤ c) (hn : es.length * 24 ≤ 140737488351232) :
    Calls Tryd.prog 3 #[.slice A es.length c] w fun e w' => e = .returned (.bool true) ∧ Below w.heap.size w w' := by
  obtain ⟨n, hln⟩ : ∃ n, es.length = n := ⟨_, rfl⟩
  rw [hln] at hr hn ⊢
  clear _hc
  obtain ⟨m, hm⟩ : ∃ m, (packL es).length = m := ⟨_, rfl⟩
  have hml : m ≤ 200004 := by rw [← hm]; exact packL_len es
  obtain ⟨x, hx⟩ : ∃ x, chkB (mm es) = x := ⟨_, rfl⟩
  have HC := Lib.hid (CopyE_any A n c es w hr hn)
  have HR := Lib.hid hr
  have HP : Hid (∀ (A : Option Addr) (c : Nat) (w : World), RowE w w.heap.size A n es → Calls Tryd.prog 11 #[.slice A n c] w fun e w' => ∃ A' c', e = .returned (.tuple #[.slice A' m c', .int .i64 x]) ∧ Row w' w'.heap.size A' m (ints .u8 (packL es)) ∧ Below w.heap.size w w') := Lib.hid (fun A c w h => by
    refine (Pack_any A n c es w h (by omega)).mono ?_
    rintro e w' ⟨A', c', rfl, o, b⟩
    rw [hx]
    rw [hm] at o ⊢
    exact ⟨A', c', rfl, Row.own o, b⟩)
  have HRP : Hid (∀ (A : Option Addr) (c : Nat) (w : World), RowE w w.heap.size A n es → Calls Tryd.prog 12 #[.slice A n c] w fun e w' => ∃ A' c', e = .returned (.tuple #[.slice A' m c', .int .i64 x]) ∧ Row w' w'.heap.size A' m (ints .u8 (packL es)) ∧ Below w.heap.size w w') := Lib.hid (fun A c w h => by
    refine (rPack_any A n c es w h (by omega)).mono ?_
    rintro e w' ⟨A', c', rfl, o, b⟩
    rw [hx]
    rw [hm] at o ⊢
    exact ⟨A', c', rfl, Row.own o, b⟩)
  have HK : Hid (∀ (A : Option Addr) (c : Nat) (w : World), RowE w w.heap.size A n es → Calls Tryd.prog 14 #[.slice A n c] w fun e w' => e = .returned (.int .i64 x) ∧ Below w.heap.size w w') := Lib.hid (fun A c w h => by
    rw [← hx]; exact Check_any A n c es w h (by omega))
  have HRK : Hid (∀ (A : Option Addr) (c : Nat) (w : World), RowE w w.heap.size A n es → Calls Tryd.prog 15 #[.slice A n c] w fun e w' => e = .returned (.int .i64 x) ∧ Below w.heap.size w w') := Lib.hid (fun A c w h => by
    rw [← hx]; exact rCheck_any A n c es w h (by omega))
  clear hr hx hm hln
  go_enter Tryd.func3, Tryd.ntmps3
  go_wp2_with fail
  with_reducible refine HC.out.mono ?_
  rintro e w1 ⟨A1, c1, rfl, o1, b1⟩
  have HR1 := Lib.hid (ecE_own o1 (by rw [← HR.out.1]))
  replace HR := Lib.hid (HR.out.on b1)
  have HB := Lib.hid b1
  clear HC o1 b1
  go_wp2_with fail
  with_reducible refine (HP.out _ _ w1 HR1.out).mono ?_
  rintro e w2 ⟨A2, c2, rfl, r2, b2⟩
  replace HR := Lib.hid (HR.out.on b2)
  replace HR1 := Lib.hid (HR1.out.on b2)
  replace HB := Lib.hid (next HB.out b2)
  have RA := Lib.hid r2
  clear HP r2 b2
  go_wp2_with fail
  with_reducible refine (HRP.out _ _ w2 HR.out).mono ?_
  rintro e w3 ⟨A3, c3, rfl, r3, b3⟩
  replace HR := Lib.hid (HR.out.on b3)
  replace HR1 := Lib.hid (HR1.out.on b3)
  replace HB := Lib.hid (next HB.out b3)
  replace RA := Lib.hid (RA.out.on b3)
  have HQ : Hid (Calls Tryd.prog 13 #[.slice A2 m c2, .slice A3 m c3] w3 fun e w' => e = .returned (.bool true) ∧ Below w3.heap.size w3 w') := Lib.hid (by
    have := eq_any _ _ m m c2 c3 _ _ (packL es) (packL es) w3 RA.out r3 (by omega)
    rwa [show decide (packL es = packL es) = true by simp] at this)
  clear HRP r3 b3 RA
  go_wp2_with fail
  with_reducible refine HQ.out.mono ?_
  rintro e w4 ⟨rfl, b4⟩
  replace HR := Lib.hid (HR.out.on b4)
  replace HR1 := Lib.hid (HR1.out.on b4)
  replace HB := Lib.hid (next HB.out b4)
  have hx0 : (x == x) = true := beq_self_eq_true x
  clear HQ b4
  go_wp2_with fail
  with_reducible refine (HK.out _ _ w4 HR1.out).mono ?_
  rintro e w5 ⟨rfl, b5⟩
  replace HR := Lib.hid (HR.out.on b5)
  replace HR1 := Lib.hid (HR1.out.on b5)
  replace HB := Lib.hid (next HB.out b5)
  clear HK b5
  go_wp2_with fail
  with_reducible refine (HRK.out _ _ w5 HR.out).mono ?_
  rintro e w6 ⟨rfl, b6⟩
  replace HR := Lib.hid (HR.out.on b6)
  replace HR1 := Lib.hid (HR1.out.on b6)
  replace HB := Lib.hid (next HB.out b6)
  have HSm : Hid (Calls Tryd.prog 16 #[.slice A1 n c1, .slice A n c] w6 fun e w' => e = .returned (.bool true) ∧ Below w6.heap.size w6 w') := Lib.hid (by
    have := SameE_any A1 A n n c1 c es es w6 HR1.out HR.out (by omega) (by omega)
    rwa [show decide (es = es) = true by simp] at this)
  clear HRK b6 HR HR1
  go_wp2_with fail
  with_reducible refine HSm.out.mono ?_
  rintro e w7 ⟨rfl, b7⟩
  replace HB := Lib.hid (next HB.out b7)
  clear HSm b7
  go_wp2_with fail
  with_reducible refine (awake_true w7).mono ?_
  rintro e w8 ⟨rfl, b8⟩
  have hb := next HB.out b8
  clear HB b8
  go_wp2_with fail
  go_ret
  exact ⟨rfl, hb⟩
end Go.Proofs.YtpeepolmbcakbaaDoor
