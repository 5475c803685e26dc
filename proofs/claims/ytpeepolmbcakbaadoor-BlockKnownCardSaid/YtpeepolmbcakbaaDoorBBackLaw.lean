/- BlockBack: the walk. -/
import Derived.Test.YtpeepolmbcakbaaDoorBPacksLaw
namespace Go.Proofs.YtpeepolmbcakbaaDoor
open Go.RowKit

/-- What stands behind the entries is left. -/
theorem end_more {es : List (Int × List Int)} (h : chkB es = 0) (rest : List Int) : endOf (encB es ++ rest) = (rest, 0) := by
  obtain ⟨h1, h2, h3, h4⟩ := chkB_ok h
  obtain ⟨e1, e2⟩ := nU_leb (m := es.length) (by omega) (encT (entT es) ++ (encL (entL es) ++ rest))
  have e0 : encB es ++ rest = leb es.length ++ (encT (entT es) ++ (encL (entL es) ++ rest)) := by rw [encB, List.append_assoc, List.append_assoc]
  have hc : cnt (encB es ++ rest) = es.length := by rw [cnt, e0, e2, Int.toNat_natCast]
  have hp : nU (encB es ++ rest, 0) = (encT (entT es) ++ (encL (entL es) ++ rest), 0) := by rw [e0, e1]
  have hd : (rdAt (nU (encB es ++ rest, 0)) (es.length - 1)).2 = (encL (entL es) ++ rest, 0) := by
    rw [hp, rdAt_enc h3 _ (es.length - 1) (by rw [entT_len]; omega), List.drop_eq_nil_of_le (by rw [entT_len]; omega), encD, List.nil_append]
  rw [endOf, hc, hd, (rdLn_enc h4 rest _ (by rw [entL_len]; exact Nat.le_refl _)).1, List.drop_eq_nil_of_le (by rw [entL_len]; exact Nat.le_refl _)]
  rfl
theorem more_bad {es : List (Int × ByteArray)} (h : chkB (mm es) = 0) : esU (putB (encB (mm es) ++ [0])) = [] ∧ xU (putB (encB (mm es) ++ [0])) = 80 := by
  have hu : U8 (encB (mm es) ++ [0]) := (encB_byt h).app (by intro x hx; simp at hx; omega)
  have ho : okU (putB (encB (mm es) ++ [0])) = false := by
    rw [okU, putB, put_sealedI hu, put_cut hu, goodB, end_more h]
    simp
  rw [esU, xU, ho]
  exact ⟨rfl, rfl⟩
theorem CutO (A : Option Addr) (c n m : Nat) (b : List Int) (r : Bool) (w : World) (hr : Row w w.heap.size A n (ints .u8 b)) (hn : b.length = n) (hu : U8 b) (hl : n ≤ 150000000000000) (hc : n ≤ c) (hc2 : c ≤ 9223372036854775807) (hm : (cutOf b).length = m) (hs : sealedI b = r) :
    Calls Tryd.prog 22 #[.slice A n c] w fun e w' => ∃ A' c', e = .returned (.tuple #[.slice A' m c', .bool r]) ∧ w'.ownsRow w.heap.size 5 1 (.slice A' m c') m (ints .u8 (cutOf b)) ∧ Below w.heap.size w w' := by
  subst hm hs hn
  refine (Cut_any A c _ b w hr (Nat.le_refl _) hu hl hc hc2).mono ?_
  rintro e w' ⟨A', c', rfl, o, b'⟩
  exact ⟨A', c', rfl, o, b'⟩

set_option maxRecDepth 100000 in
set_option maxHeartbeats 4000000 in
theorem BlockBack_walk (A : Option Addr) (es : List (Int × ByteArray)) (c : Nat) (w : World) (hr : RowE w w.heap.size A es.length es) (_hc : es.length ≤ c) (hn : es.length * 24 ≤ 140737488351232) :
    Calls Tryd.prog 6 #[.slice A es.length c] w fun e w' => e = .returned (.bool true) ∧ Below w.heap.size w w' := by
  obtain ⟨n, hln⟩ : ∃ n, es.length = n := ⟨_, rfl⟩
  rw [hln] at hr hn ⊢
  clear _hc
  obtain ⟨i0, hi, hz0, hz1, hz2⟩ := info_parts u8_info
  obtain ⟨P, hP⟩ : ∃ P, packL es = P := ⟨_, rfl⟩
  obtain ⟨m, hm⟩ : ∃ m, P.length = m := ⟨_, rfl⟩
  have hml : m ≤ 200004 := by rw [← hm, ← hP]; exact packL_len es
  obtain ⟨x, hx⟩ : ∃ x, chkB (mm es) = x := ⟨_, rfl⟩
  have HR := Lib.hid hr
  have HP : Hid (∀ (A : Option Addr) (c : Nat) (w : World), RowE w w.heap.size A n es → Calls Tryd.prog 11 #[.slice A n c] w fun e w' => ∃ A' c', e = .returned (.tuple #[.slice A' m c', .int .i64 x]) ∧ w'.ownsRow w.heap.size 5 1 (.slice A' m c') m (ints .u8 P) ∧ Below w.heap.size w w') := Lib.hid (fun A c w h => by
    refine (Pack_any A n c es w h (by omega)).mono ?_
    rintro e w' ⟨A', c', rfl, o, b⟩
    rw [hx]
    rw [hP, hm] at o ⊢
    exact ⟨A', c', rfl, o, b⟩)
  have HK : Hid (∀ (A : Option Addr) (c : Nat) (w : World), RowE w w.heap.size A n es → Calls Tryd.prog 14 #[.slice A n c] w fun e w' => e = .returned (.int .i64 x) ∧ Below w.heap.size w w') := Lib.hid (fun A c w h => by
    rw [← hx]; exact Check_any A n c es w h (by omega))
  have hx0 : (x == x) = true := beq_self_eq_true x
  by_cases hxz : x = 0
  case neg =>
    clear hr hx hm hln hP
    go_enter Tryd.func6, Tryd.ntmps6
    go_wp2_with fail
    with_reducible refine (HP.out _ _ w HR.out).mono ?_
    rintro e w1 ⟨A1, c1, rfl, o1, b1⟩
    replace HR := Lib.hid (HR.out.on b1)
    have HB := Lib.hid b1
    clear HP o1 b1
    go_wp2_with fail
    with_reducible refine (HK.out _ _ w1 HR.out).mono ?_
    rintro e w2 ⟨rfl, b2⟩
    replace HB := Lib.hid (next HB.out b2)
    clear HK b2 HR
    go_wp2_with fail
    with_reducible refine (awake_true w2).mono ?_
    rintro e w3 ⟨rfl, b3⟩
    have hb := next HB.out b3
    clear HB b3
    go_wp2_with fail
    go_ret
    exact ⟨rfl, hb⟩
  case pos =>
    subst hxz
    have hPe : P = putB (encB (mm es)) := by rw [← hP, packL, if_pos hx]
    obtain ⟨q, hq⟩ : ∃ q, (encB (mm es)).length = q := ⟨_, rfl⟩
    have hmq : m = q + 4 := by rw [← hm, hPe, putB, List.length_append, rowI_len, hq]
    obtain ⟨E, hE⟩ : ∃ E, encB (mm es) = E := ⟨_, rfl⟩
    have HU : Hid (U8 P) := Lib.hid (by rw [← hP]; exact packL_u8 es)
    have HUE : Hid (U8 (E ++ [0])) := Lib.hid ((by rw [← hE]; exact encB_byt hx : U8 E).app (by intro x hx; simp at hx; omega))
    have HL := Lib.hid hm
    have HX : Hid (esU P = es ∧ xU P = 0) := Lib.hid (by rw [hPe]; exact (back hx).2)
    have HY : Hid (esU (putB (E ++ [0])) = [] ∧ xU (putB (E ++ [0])) = 80) := Lib.hid (by rw [← hE]; exact more_bad hx)
    have HS : Hid (sealedI P = true ∧ cutOf P = E) := Lib.hid (by rw [hPe, putB, ← hE]; exact ⟨put_sealedI (encB_byt hx), put_cut (encB_byt hx)⟩)
    have HQ : Hid (E.length = q) := Lib.hid (by rw [← hE]; exact hq)
    have HN := Lib.hid hln
    have hm0 : (0 : Int) < (m : Int) := by omega
    have hmz : ¬ (m : Int) = 0 := by omega
    have hmb : ((m : Int) == 0) = false := beq_eq_false_iff_ne.2 hmz
    have hql : q ≤ 200004 := by omega
    clear hr hx hm hln hP hPe hq hE hmq
    go_enter Tryd.func6, Tryd.ntmps6
    go_wp2_with fail
    with_reducible refine (HP.out _ _ w HR.out).mono ?_
    rintro e w1 ⟨A1, c1, rfl, o1, b1⟩
    obtain ⟨⟨g, rfl⟩, hc1, hc2⟩ := own_some o1 (by omega)
    replace HR := Lib.hid (HR.out.on b1)
    have HB := Lib.hid b1
    have R1 := Lib.hid (Row.own o1)
    clear HP o1 b1
    have C1 := Lib.hid (Unpack_is _ m c1 P w1 es n 0 HX.out HN.out R1.out HL.out HU.out (by omega) hc1 hc2)
    go_wp2_with fail
    with_reducible refine C1.out.mono ?_
    rintro e w2 ⟨A2, c2, rfl, r2, b2⟩
    replace HR := Lib.hid (HR.out.on b2)
    replace R1 := Lib.hid (R1.out.on b2)
    replace HB := Lib.hid (next HB.out b2)
    have R2 := Lib.hid r2
    clear C1 b2 r2
    have C2 := Lib.hid (CutO _ c1 m q P true w2 R1.out HL.out HU.out (by omega) hc1 hc2 (by rw [HS.out.2]; exact HQ.out) HS.out.1)
    rw [HS.out.2] at C2
    go_wp2_with fail
    with_reducible refine C2.out.mono ?_
    rintro e w3 ⟨A3, c3, rfl, o3, b3⟩
    have hs3 : w2.heap.size ≤ w3.heap.size := b3.size
    have HO3 := Lib.hid o3
    have HB3 := Lib.hid b3
    clear C2 b3 o3 R1
    go_wp2_with (at_builtin; refine wpList_app _ rfl (.tmp 39) (.tmp 40) 24 rfl w2.heap.size 5 i0 (.int .u8 0) 1 Tryd.underlying24 hi hz0 hz1 hz2 rfl _ _ _ rfl (HO3.out.alloc _) _ _ 1 1 _ rfl (Row.one _ _ _) (by simp [Value.oneCell']) (by unfold maxLen; omega) (by omega) (by simp; omega) ?_)
    intro v4 w4 o4 _ b4
    obtain ⟨A4, c4, rfl⟩ := own_slice o4
    have o4' : w4.ownsRow w2.heap.size 5 1 (.slice A4 (q + 1) c4) (q + 1) (ints .u8 (E ++ [0])) := by simpa [ints] using o4
    have b24 : Below w2.heap.size w2 w4 := (HB3.out.alloc HB3.out.size _).trans b4
    replace HR := Lib.hid (HR.out.on b24)
    replace R2 := Lib.hid (R2.out.on b24)
    replace HB := Lib.hid (next HB.out b24)
    have R4 := Row.own o4'
    obtain ⟨q1, hq1⟩ : ∃ q1, q + 1 = q1 := ⟨_, rfl⟩
    obtain ⟨r, hr⟩ : ∃ r, q1 + 4 = r := ⟨_, rfl⟩
    rw [hq1] at R4 ⊢
    have hr4 : r ≤ 200009 := by omega
    have HLr : Hid ((putB (E ++ [0])).length = r) := Lib.hid (by rw [putB, List.length_append, rowI_len, List.length_append, HQ.out, ← hr, ← hq1]; rfl)
    have CP : Hid (Calls Tryd.prog 23 #[.slice A4 q1 c4] w4 fun e w' => ∃ g c, e = .returned (.slice (some ⟨g, 0, none⟩) r c) ∧ Row w' w'.heap.size (some ⟨g, 0, none⟩) r (ints .u8 (putB (E ++ [0]))) ∧ r ≤ c ∧ c ≤ 9223372036854775807 ∧ Below w4.heap.size w4 w') := Lib.hid (by
      refine (Put_at A4 c4 _ q1 (E ++ [0]) w4 R4 (Nat.le_refl _) HUE.out (by omega)).mono ?_
      rintro e w' ⟨A', c', rfl, o, b⟩
      rw [hr] at o ⊢
      obtain ⟨⟨g', rfl⟩, h1, h2⟩ := own_some o (by omega)
      exact ⟨g', c', rfl, Row.own o, h1, h2, b⟩)
    clear o4 o4' b4 b24 R4 HO3 HB3 hq1 hr hs3
    go_wp2_with fail
    with_reducible refine CP.out.mono ?_
    rintro e w5 ⟨g5, c5, rfl, r5, hc5, hc6, b5⟩
    replace HR := Lib.hid (HR.out.on b5)
    replace R2 := Lib.hid (R2.out.on b5)
    replace HB := Lib.hid (next HB.out b5)
    have C3 := Lib.hid (Unpack_is _ r c5 (putB (E ++ [0])) w5 [] 0 80 HY.out rfl r5 HLr.out (HUE.out.app (rowI_u8 _)) (by omega) hc5 hc6)
    clear CP b5 r5
    go_wp2_with fail
    with_reducible refine C3.out.mono ?_
    rintro e w6 ⟨A6, c6, rfl, _, b6⟩
    replace HR := Lib.hid (HR.out.on b6)
    replace R2 := Lib.hid (R2.out.on b6)
    replace HB := Lib.hid (next HB.out b6)
    have HSm : Hid (Calls Tryd.prog 16 #[.slice A2 n c2, .slice A n c] w6 fun e w' => e = .returned (.bool true) ∧ Below w6.heap.size w6 w') := Lib.hid (by
      have := SameE_any A2 A n n c2 c es es w6 R2.out HR.out (by omega) (by omega)
      rwa [show decide (es = es) = true by simp] at this)
    clear C3 b6 HR R2
    go_wp2_with fail
    with_reducible refine HSm.out.mono ?_
    rintro e w7 ⟨rfl, b7⟩
    replace HB := Lib.hid (next HB.out b7)
    clear HSm b7
    go_wp2_with fail
    with_reducible refine (awake_true w7).mono ?_
    rintro e w8 ⟨rfl, b8⟩
    have hb := next HB.out b8
    clear HB b8
    go_wp2_with fail
    go_ret
    exact ⟨rfl, hb⟩
end Go.Proofs.YtpeepolmbcakbaaDoor
