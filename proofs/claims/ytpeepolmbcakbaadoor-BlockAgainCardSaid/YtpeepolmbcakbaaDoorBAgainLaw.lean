/- BlockAgain: the walk. -/
import Derived.Test.YtpeepolmbcakbaaDoorBAgain
namespace Go.Proofs.YtpeepolmbcakbaaDoor
open Go.RowKit

set_option maxRecDepth 100000 in
set_option maxHeartbeats 4000000 in
theorem BlockAgain_walk (A : Option Addr) (l : List Int) (c : Nat) (w : World) (hr : Row w w.heap.size A l.length (ints .u8 l)) (hc : l.length ≤ c) (hs : c * 1 ≤ 140737488351232) (hw : ∀ x ∈ l, (Lit.int .u8 x).wf = true) :
    Calls Tryd.prog 7 #[.slice A l.length c] w fun e w' => e = .returned (.bool true) ∧ Below w.heap.size w w' := by
  have HU0 : Hid (U8 l) := Lib.hid (fun x hx => by simpa [Lit.wf, IntKind.min, IntKind.max, IntKind.signed, IntKind.bits] using hw x hx)
  obtain ⟨n, hn⟩ : ∃ n, l.length = n := ⟨_, rfl⟩
  rw [hn] at hr hc ⊢
  have HN0 := Lib.hid hn
  have hcm : c ≤ 9223372036854775807 := by omega
  have hnl : n ≤ 140737488351232 := by omega
  clear hw hs hn
  go_enter Tryd.func7, Tryd.ntmps7
  go_wp2_with fail
  go_loopw [0, 3] (fun s0 s3 wr => ∃ (j m d : Nat) (A' : Option Addr) (b : List Int), j ≤ 2 ∧ s3 = .int .i64 j ∧ s0 = .slice A' m d ∧ Row wr wr.heap.size A' m (ints .u8 b) ∧ Hid (b.length = m ∧ U8 b) ∧ m ≤ 140737488351232 + 4 * j ∧ m ≤ d ∧ d ≤ 9223372036854775807 ∧ Below w.heap.size w wr) (fun _ i _ => 2 - (intOf i).toNat)
  case atStart => exact ⟨0, n, c, A, l, by omega, rfl, rfl, hr, Lib.hid ⟨HN0.out, HU0.out⟩, by omega, hc, hcm, Below.refl _ _⟩
  case round =>
    obtain ⟨j, m, d, A', b, hj, rfl, rfl, rb, HB, hml, hmd, hd, hb⟩ := hrel
    rename World => wr
    by_cases hlt : j < 2
    · have hlt' : (j : Int) < 2 := by omega
      have hj1 : j + 1 ≤ 2 := hlt
      obtain ⟨es, hes⟩ : ∃ es, esU b = es := ⟨_, rfl⟩
      obtain ⟨n2, hn2⟩ : ∃ n, es.length = n := ⟨_, rfl⟩
      have hn32 : n2 ≤ 32 := by rw [← hn2, ← hes]; exact esU_small
      obtain ⟨x, hx⟩ : ∃ x, xU b = x := ⟨_, rfl⟩
      have HUn := Lib.hid (Unpack_is A' m d b wr es n2 x ⟨hes, hx⟩ hn2 rb HB.out.1 HB.out.2 (by omega) hmd hd)
      have HX : Hid (x = 0 → chkB (mm es) = 0 ∧ packL es = b) := Lib.hid (by
        intro h
        have ho : okU b = true := by
          rcases hq : okU b with _ | _
          · rw [xU, hq] at hx; rw [← hx] at h; cases h
          · rfl
        obtain ⟨h1, h2, _⟩ := again HB.out.2 ho
        rw [← hes]
        exact ⟨h1, h2⟩)
      have HR := Lib.hid rb
      have HW := Lib.hid hb
      have HPut : Hid (∀ w', Row w' w'.heap.size A' m (ints .u8 b) → Calls Tryd.prog 23 #[.slice A' m d] w' fun e w'' => ∃ A2 c2 m2, e = .returned (.slice A2 m2 c2) ∧ Row w'' w''.heap.size A2 m2 (ints .u8 (putB b)) ∧ m2 = m + 4 ∧ m2 ≤ c2 ∧ c2 ≤ 9223372036854775807 ∧ Below w'.heap.size w' w'') := Lib.hid (fun w' h => by
        refine (Put_at A' d _ m b w' h (Nat.le_refl _) HB.out.2 (by omega)).mono ?_
        rintro e w'' ⟨A2, c2, rfl, o, b2⟩
        obtain ⟨_, h1, h2⟩ := own_some o (by omega)
        exact ⟨A2, c2, m + 4, rfl, Row.own o, rfl, h1, h2, b2⟩)
      have HPB : Hid ((putB b).length = m + 4 ∧ U8 (putB b)) := Lib.hid ⟨by rw [putB, List.length_append, rowI_len, HB.out.1], HB.out.2.app (rowI_u8 _)⟩
      clear rb hb hes hn2 hx hlt
      by_cases hx0 : x = 0
      · subst hx0
        obtain ⟨hk, hp⟩ := HX.out rfl
        have HPk : Hid (∀ (A : Option Addr) (c : Nat) (w : World), RowE w w.heap.size A n2 es → Calls Tryd.prog 11 #[.slice A n2 c] w fun e w' => ∃ A' c', e = .returned (.tuple #[.slice A' m c', .int .i64 0]) ∧ Row w' w'.heap.size A' m (ints .u8 b) ∧ Below w.heap.size w w') := Lib.hid (fun A c w h => by
          refine (Pack_any A n2 c es w h (by omega)).mono ?_
          rintro e w' ⟨A', c', rfl, o, b'⟩
          rw [hk]
          rw [hp, HB.out.1] at o ⊢
          exact ⟨A', c', rfl, Row.own o, b'⟩)
        have HKc : Hid (∀ (A : Option Addr) (c : Nat) (w : World), RowE w w.heap.size A n2 es → Calls Tryd.prog 14 #[.slice A n2 c] w fun e w' => e = .returned (.int .i64 0) ∧ Below w.heap.size w w') := Lib.hid (fun A c w h => by
          rw [← hk]; exact Check_any A n2 c es w h (by omega))
        clear hk hp HX
        go_wp2_with fail
        with_reducible refine HUn.out.mono ?_
        rintro e w1 ⟨A1, c1, rfl, r1, b1⟩
        replace HR := Lib.hid (HR.out.on b1)
        replace HW := Lib.hid (next HW.out b1)
        have HE := Lib.hid r1
        clear HUn b1 r1
        go_wp2_with fail
        with_reducible refine (HPk.out _ _ w1 HE.out).mono ?_
        rintro e w2 ⟨A2, c2, rfl, r2, b2⟩
        replace HR := Lib.hid (HR.out.on b2)
        replace HW := Lib.hid (next HW.out b2)
        replace HE := Lib.hid (HE.out.on b2)
        have HQ : Hid (Calls Tryd.prog 13 #[.slice A' m d, .slice A2 m c2] w2 fun e w' => e = .returned (.bool true) ∧ Below w2.heap.size w2 w') := Lib.hid (by
          have := eq_any _ _ m m d c2 _ _ b b w2 HR.out r2 (by omega)
          rwa [show decide (b = b) = true by simp] at this)
        clear HPk b2 r2
        go_wp2_with fail
        with_reducible refine HQ.out.mono ?_
        rintro e w3 ⟨rfl, b3⟩
        replace HR := Lib.hid (HR.out.on b3)
        replace HW := Lib.hid (next HW.out b3)
        replace HE := Lib.hid (HE.out.on b3)
        clear HQ b3
        go_wp2_with fail
        with_reducible refine (HKc.out _ _ w3 HE.out).mono ?_
        rintro e w4 ⟨rfl, b4⟩
        replace HR := Lib.hid (HR.out.on b4)
        replace HW := Lib.hid (next HW.out b4)
        clear HKc b4 HE
        go_wp2_with fail
        with_reducible refine (HPut.out w4 HR.out).mono ?_
        rintro e w5 ⟨A5, c5, m5, rfl, r5, hm5, h51, h52, b5⟩
        have hw5 := next HW.out b5
        clear HW HPut b5 HR
        go_wp2_with fail
        refine ⟨⟨j + 1, m5, c5, A5, putB b, hj1, by go_num, by rw [hm5], r5, Lib.hid ⟨by rw [HPB.out.1, hm5], HPB.out.2⟩, by omega, h51, h52, hw5⟩, ?_⟩
        simp [intOf]
        omega
      · have hxb : (x == 0) = false := beq_eq_false_iff_ne.2 hx0
        clear HX
        go_wp2_with fail
        with_reducible refine HUn.out.mono ?_
        rintro e w1 ⟨A1, c1, rfl, r1, b1⟩
        replace HR := Lib.hid (HR.out.on b1)
        replace HW := Lib.hid (next HW.out b1)
        clear HUn b1 r1
        go_wp2_with fail
        with_reducible refine (HPut.out w1 HR.out).mono ?_
        rintro e w5 ⟨A5, c5, m5, rfl, r5, hm5, h51, h52, b5⟩
        have hw5 := next HW.out b5
        clear HW HPut b5 HR
        go_wp2_with fail
        refine ⟨⟨j + 1, m5, c5, A5, putB b, hj1, by go_num, by rw [hm5], r5, Lib.hid ⟨by rw [HPB.out.1, hm5], HPB.out.2⟩, by omega, h51, h52, hw5⟩, ?_⟩
        simp [intOf]
        omega
    · have hj2 : j = 2 := by omega
      subst hj2
      clear hlt hj
      replace hb := Lib.hid hb
      go_wp2_with fail
      with_reducible refine (awake_true _).mono ?_
      rintro e w6 ⟨rfl, b6⟩
      have hb2 := next hb.out b6
      go_wp2_with fail
      go_ret
      exact ⟨rfl, hb2⟩
end Go.Proofs.YtpeepolmbcakbaaDoor
