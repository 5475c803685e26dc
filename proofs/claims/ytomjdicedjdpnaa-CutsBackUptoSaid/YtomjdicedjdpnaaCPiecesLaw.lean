/- CutsPieces, walked. -/
import Derived.Test.YtomjdicedjdpnaaCSetM
import Derived.Test.YtomjdicedjdpnaaCMatchLaw
namespace Go.Proofs.Ytomjdicedjdpnaa
open Go.RowKit

theorem index_any (s t : ByteArray) (w : World) (hs : s.size < 4294967281) (hm : MX w) :
    Calls Try.prog 18 #[.string s, .string t] w fun e w' => e = .returned (.int .i64 (idx s t)) ∧ w' = w := by
  obtain ⟨m, hmm⟩ := hm
  exact Try.strings_Index s t m w hs hmm
set_option maxRecDepth 100000 in
set_option maxHeartbeats 8000000 in
theorem CutsPieces_in (s : ByteArray) (x y : Int) (w : World) (_ : s.size ≤ 140737488351232) (hx : (Lit.int .i64 x).wf = true) (hy : (Lit.int .i64 y).wf = true) (hM : MX w) :
    Calls Try.prog 5 #[.string s, .agg #[.int .i64 x, .int .i64 y]] w fun e w' => e = .returned (.bool true) ∧ Below w.heap.size w w' := by
  obtain ⟨k, hk⟩ : ∃ k : Nat, min (s.size : Int) 500 = (k : Int) := ⟨min s.size 500, by omega⟩
  have hk2 : (k : Int) ≤ (s.size : Int) := by omega
  have hk0 : (0 : Int) ≤ (k : Int) := by omega
  obtain ⟨t, ht⟩ : ∃ t, s.extract 0 k = t := ⟨_, rfl⟩
  have hts : t.size ≤ 500 := by rw [← ht, ByteArray.size_extract]; omega
  obtain ⟨p, hp⟩ : ∃ p, pieceL.getD (pcN x) ByteArray.empty = p := ⟨_, rfl⟩
  obtain ⟨q, hq⟩ : ∃ q, pieceL.getD (pcN y) ByteArray.empty = q := ⟨_, rfl⟩
  have HP := Lib.hid (fun u => (show Calls Try.prog 17 #[.int .i64 x] u fun e w' => e = .returned (.string p) ∧ Below u.heap.size u w' from hp ▸ piece_any x u hx))
  have HQ := Lib.hid (fun u => (show Calls Try.prog 17 #[.int .i64 y] u fun e w' => e = .returned (.string q) ∧ Below u.heap.size u w' from hq ▸ piece_any y u hy))
  have hps := (piece_fine _ (pcN_lt x)).1
  have hqs := (piece_fine _ (pcN_lt y)).1
  rw [hp] at hps
  rw [hq] at hqs
  have HF := Lib.hid (cut_pieces (pcN_lt x) (pcN_lt y) hp hq t)
  obtain ⟨P1, hP1⟩ : ∃ P, (⟨#[60, 97, 62]⟩ : ByteArray) ++ p = P := ⟨_, rfl⟩
  obtain ⟨P2, hP2⟩ : ∃ P, P1 ++ ⟨#[60, 98, 62]⟩ = P := ⟨_, rfl⟩
  obtain ⟨P3, hP3⟩ : ∃ P, P2 ++ q = P := ⟨_, rfl⟩
  obtain ⟨P4, hP4⟩ : ∃ P, P3 ++ ⟨#[60, 99, 62]⟩ = P := ⟨_, rfl⟩
  have z1 : P1.size = 3 + p.size := by rw [← hP1, ByteArray.size_append]; rfl
  have z2 : P2.size = P1.size + 3 := by rw [← hP2, ByteArray.size_append]; rfl
  have z3 : P3.size = P2.size + q.size := by rw [← hP3, ByteArray.size_append]
  have z4 : P4.size = P3.size + 3 := by rw [← hP4, ByteArray.size_append]; rfl
  have a1 := add_runC _ _ _ hP1 (by show 3 + p.size ≤ _; omega)
  have a2 := add_runC _ _ _ hP2 (by show P1.size + 3 ≤ _; omega)
  have a3 := add_runC _ _ _ hP3 (by omega)
  have a4 := add_runC _ _ _ hP4 (by show P3.size + 3 ≤ _; omega)
  have hPP : patP p q = P4 := by unfold patP; rw [hP1, hP2, hP3, hP4]
  rw [hPP] at HF
  have HC := Lib.hid (fun u (h : MX u) => (lcut_any P4 t (by omega) (by omega) u h).mono fun _ _ k => k.flat)
  obtain ⟨wb, hwb⟩ : ∃ wb, w.alloc (.cells #[.int .i64 x, .int .i64 y] 46) = wb := ⟨_, rfl⟩
  have hbb : Below w.heap.size w wb := hwb ▸ (Below.refl _ w).alloc (Nat.le_refl _) _
  have c0 : wb.cell? ⟨w.heap.size, 0, none⟩ = some (.int .i64 x) := by rw [← hwb, World.cell?_alloc_at _ _ _ _ (by simp)]; rfl
  have c1 : wb.cell? ⟨w.heap.size, 1, none⟩ = some (.int .i64 y) := by rw [← hwb, World.cell?_alloc_at _ _ _ _ (by simp)]; rfl
  have hlb : w.heap.size < wb.heap.size := by rw [← hwb, World.size_alloc]; omega
  have HC01 := Lib.hid (And.intro hlb (And.intro c0 c1))
  have C := Lib.hid (works_any wb (hM.on hbb))
  have HM := Lib.hid (hM.on hbb)
  have HB := Lib.hid hbb
  clear hM hx hy hPP hP1 hP2 hP3 hP4 z1 z2 z3 z4 hp hq c0 c1 hlb hbb
  go_enter Try.func5, Try.ntmps5
  go_wp2_with fail
  with_reducible refine C.out.mono ?_
  rintro e v1 ⟨rfl, b1⟩
  have HC02 : Hid (w.heap.size < v1.heap.size ∧ v1.cell? ⟨w.heap.size, 0, none⟩ = some (.int .i64 x) ∧ v1.cell? ⟨w.heap.size, 1, none⟩ = some (.int .i64 y)) := Lib.hid ⟨Nat.lt_of_lt_of_le HC01.out.1 b1.size, (b1.cell (p := ⟨w.heap.size, 0, none⟩) HC01.out.1).trans HC01.out.2.1, (b1.cell (p := ⟨w.heap.size, 1, none⟩) HC01.out.1).trans HC01.out.2.2⟩
  replace HM := Lib.hid (HM.out.on b1)
  have HB1 := Lib.hid b1
  clear b1 C HC01
  go_wp2_with fail
  have HS0 : Hid (Below v1.heap.size v1 v1.drew ∧ v1.drew.cell? ⟨w.heap.size, 0, none⟩ = some (.int .i64 x) ∧ v1.drew.cell? ⟨w.heap.size, 1, none⟩ = some (.int .i64 y)) := Lib.hid ⟨(Below.refl _ _).drew, HC02.out.2⟩
  go_region_held3 (fun u => Below v1.heap.size v1 u ∧ u.cell? ⟨w.heap.size, 0, none⟩ = some (.int .i64 x) ∧ u.cell? ⟨w.heap.size, 1, none⟩ = some (.int .i64 y)) (first | exact HS0.out | assumption)
    ((first
      | (go_at_call 17
         first
          | (with_reducible refine (HP.out _).mono ?_
             rintro e v2 ⟨rfl, b2⟩
             have S2 : Below v1.heap.size v1 v2 ∧ v2.cell? ⟨w.heap.size, 0, none⟩ = some (.int .i64 x) ∧ v2.cell? ⟨w.heap.size, 1, none⟩ = some (.int .i64 y) := ⟨next HS0.out.1 b2, (b2.cell (p := ⟨w.heap.size, 0, none⟩) HC02.out.1).trans HS0.out.2.1, (b2.cell (p := ⟨w.heap.size, 1, none⟩) HC02.out.1).trans HS0.out.2.2⟩)
          | (with_reducible refine (HQ.out _).mono ?_
             rintro e v3 ⟨rfl, b3⟩
             have S3 : Below v1.heap.size v1 v3 ∧ v3.cell? ⟨w.heap.size, 0, none⟩ = some (.int .i64 x) ∧ v3.cell? ⟨w.heap.size, 1, none⟩ = some (.int .i64 y) := ⟨next S2.1 b3, (b3.cell (p := ⟨w.heap.size, 0, none⟩) (Nat.lt_of_lt_of_le HC02.out.1 S2.1.size)).trans S2.2.1, (b3.cell (p := ⟨w.heap.size, 1, none⟩) (Nat.lt_of_lt_of_le HC02.out.1 S2.1.size)).trans S2.2.2⟩))))
  have HB3 := Lib.hid (next (next HB.out HB1.out) S3.1)
  replace HM := Lib.hid (HM.out.on S3.1)
  have C := Lib.hid (HC.out v3 HM.out)
  rename_i hHeld
  clear hHeld S2 S3 b2 b3 HS0 HC02 HB HB1 HC HP HQ hwb
  go_wp2_with fail
  with_reducible refine C.out.mono ?_
  rintro e v4 ⟨A, n, c, rfl, b4, r4⟩
  replace HB3 := Lib.hid (next HB3.out b4)
  replace HM := Lib.hid (HM.out.on b4)
  have CI := Lib.hid (index_any t p v4 (by omega) HM.out)
  rcases HF.out with ⟨hi, hv⟩ | ⟨I, hI, hIt, ⟨hi, hv⟩ | ⟨K, u1, u2, u3, hK, hv, hall⟩⟩
  · rw [hv] at r4 ⊢
    rw [hi] at CI
    obtain rfl : 0 = n := r4.1
    clear HF hi hv r4 b4 C
    go_wp2_with fail
    with_reducible refine CI.out.mono ?_
    rintro e v5 ⟨rfl, rfl⟩
    go_wp2_with fail
    go_ret
    exact ⟨rfl, HB3.out⟩
  · rw [hv] at r4 ⊢
    rw [hI] at CI
    obtain rfl : 0 = n := r4.1
    obtain ⟨J, hJ⟩ : ∃ J, I + p.size = J := ⟨_, rfl⟩
    rw [hJ] at hi hIt
    obtain ⟨r, hr⟩ : ∃ r, t.extract J t.size = r := ⟨_, rfl⟩
    rw [hr] at hi
    have CK := Lib.hid (index_any r q v4 (by rw [← hr, ByteArray.size_extract]; omega) HM.out)
    rw [hi] at CK
    have i0 : (0 : Int) ≤ (I : Int) := by omega
    have i1 : decide ((0 : Int) ≤ (I : Int)) = true := decide_eq_true i0
    have j1 : (I : Int) + (p.size : Int) = (J : Int) := by omega
    have j2 : IntKind.i64.wrap (J : Int) = (J : Int) := by rw [IntKind.wrap_i64]; omega
    have j3 : (0 : Int) ≤ (J : Int) := by omega
    have j4 : (J : Int) ≤ (t.size : Int) := by omega
    clear HF hi hv r4 b4 C
    go_wp2_with fail
    with_reducible refine CI.out.mono ?_
    rintro e v5 ⟨rfl, rfl⟩
    go_wp2_with fail
    with_reducible refine CK.out.mono ?_
    rintro e v6 ⟨rfl, rfl⟩
    go_wp2_with fail
    go_ret
    exact ⟨rfl, HB3.out⟩
  · rw [hv] at r4 ⊢
    rw [hI] at CI
    have hn3 : n ≤ 3 := by have := r4.1; have := g3_len u1 u2 u3; simp only [Option.getD_some] at *; omega
    obtain ⟨J, hJ⟩ : ∃ J, I + p.size = J := ⟨_, rfl⟩
    rw [hJ] at hK hIt
    obtain ⟨r, hr⟩ : ∃ r, t.extract J t.size = r := ⟨_, rfl⟩
    rw [hr] at hK
    have CK := Lib.hid (index_any r q v4 (by rw [← hr, ByteArray.size_extract]; omega) HM.out)
    rw [hK] at CK
    have i0 : (0 : Int) ≤ (I : Int) := by omega
    have i1 : decide ((0 : Int) ≤ (I : Int)) = true := decide_eq_true i0
    have k0' : (0 : Int) ≤ (K : Int) := by omega
    have k1' : decide ((0 : Int) ≤ (K : Int)) = true := decide_eq_true k0'
    have j1 : (I : Int) + (p.size : Int) = (J : Int) := by omega
    have j2 : IntKind.i64.wrap (J : Int) = (J : Int) := by rw [IntKind.wrap_i64]; omega
    have j3 : (0 : Int) ≤ (J : Int) := by omega
    have j4 : (J : Int) ≤ (t.size : Int) := by omega
    have hg := g3_get u1 u2 u3
    have hsz := congrArg ByteArray.size hall
    simp only [ByteArray.size_append] at hsz
    obtain ⟨X1, hX1⟩ : ∃ X, u1 ++ p = X := ⟨_, rfl⟩
    obtain ⟨X2, hX2⟩ : ∃ X, X1 ++ u2 = X := ⟨_, rfl⟩
    obtain ⟨X3, hX3⟩ : ∃ X, X2 ++ q = X := ⟨_, rfl⟩
    have hX4 : X3 ++ u3 = t := by rw [← hX3, ← hX2, ← hX1, ← hall]; simp only [ByteArray.append_assoc]
    have y1 : X1.size = u1.size + p.size := by rw [← hX1, ByteArray.size_append]
    have y2 : X2.size = X1.size + u2.size := by rw [← hX2, ByteArray.size_append]
    have y3 : X3.size = X2.size + q.size := by rw [← hX3, ByteArray.size_append]
    have e1 := add_runC _ _ _ hX1 (by omega)
    have e2 := add_runC _ _ _ hX2 (by omega)
    have e3 := add_runC _ _ _ hX3 (by omega)
    have e4 := add_runC _ _ _ hX4 (by omega)
    have tt : (t.toList == t.toList) = true := beq_self_eq_true _
    have C1 := Lib.hid (show Calls Try.prog 22 #[.slice A n c, .string ⟨#[97]⟩] v4 fun e w' => e = .returned (.string u1) ∧ Below v4.heap.size v4 w' from by have h := Get_any A n c _ bA v4 r4 (by omega); rwa [Option.getD_some, hg.1] at h)
    have C2 := Lib.hid (fun z (hz : Below v4.heap.size v4 z) => show Calls Try.prog 22 #[.slice A n c, .string ⟨#[98]⟩] z fun e w' => e = .returned (.string u2) ∧ Below z.heap.size z w' from by have h := Get_any A n c _ bB z (r4.on hz) (by omega); rwa [Option.getD_some, hg.2.1] at h)
    have C3 := Lib.hid (fun z (hz : Below v4.heap.size v4 z) => show Calls Try.prog 22 #[.slice A n c, .string ⟨#[99]⟩] z fun e w' => e = .returned (.string u3) ∧ Below z.heap.size z w' from by have h := Get_any A n c _ bC z (r4.on hz) (by omega); rwa [Option.getD_some, hg.2.2] at h)
    clear HF hK hv r4 b4 C hg hall hsz hX1 hX2 hX3 hX4 y1 y2 y3
    go_wp2_with fail
    with_reducible refine CI.out.mono ?_
    rintro e v5 ⟨rfl, rfl⟩
    go_wp2_with fail
    with_reducible refine CK.out.mono ?_
    rintro e v6 ⟨rfl, rfl⟩
    go_wp2_with fail
    with_reducible refine C1.out.mono ?_
    rintro e z1 ⟨rfl, bz1⟩
    have D2 := Lib.hid (C2.out z1 bz1)
    go_wp2_with fail
    with_reducible refine D2.out.mono ?_
    rintro e z2 ⟨rfl, bz2⟩
    have bz12 := next bz1 bz2
    have D3 := Lib.hid (C3.out z2 bz12)
    go_wp2_with fail
    with_reducible refine D3.out.mono ?_
    rintro e z3 ⟨rfl, bz3⟩
    replace HB3 := Lib.hid (next HB3.out (next bz12 bz3))
    clear bz1 bz2 bz3 bz12
    go_wp2_with fail
    go_ret
    exact ⟨rfl, HB3.out⟩
end Go.Proofs.Ytomjdicedjdpnaa
