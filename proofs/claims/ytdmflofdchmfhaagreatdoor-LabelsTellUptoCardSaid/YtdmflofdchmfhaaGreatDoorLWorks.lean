/- The chapter's examples hold. -/
import Derived.Test.YtdmflofdchmfhaaGreatDoorLWkM
namespace Go.Proofs.YtdmflofdchmfhaaGreatDoor
open Go.RowKit Go.Shelf Go.Lib

/-- A list of labels in new memory, its size said. -/
def RL (w : World) (n : Nat) (l : List Lb) (e : Ending) (w' : World) : Prop :=
  ∃ A c, e = .returned (.slice A n c) ∧ RowL w' w'.heap.size A n l ∧ n ≤ c ∧ c ≤ 9223372036854775807 ∧ Below w.heap.size w w'
theorem LOut.rl {w w' : World} {l : List Lb} {e : Ending} (h : LOut w l e w') {n : Nat} {l' : List Lb} (hl : l = l') (hn : l'.length = n) : RL w n l' e w' := by
  subst hl
  subst hn
  obtain ⟨A, c, rfl, o, b⟩ := h
  have hc := own_cap o
  exact ⟨A, c, rfl, RowL.own o, hc.1, hc.2, b⟩
theorem set_rl (s : ByteArray) (l : List Lb) (n : Nat) (h : setLs s = l) (hn : l.length = n) (hs : s.size ≤ 1000000) (w : World) : Calls Tryz.prog 50 #[.string s] w (RL w n l) :=
  (set_any s hs w).mono fun _ _ k => k.rl h hn
def OfR (w : World) (n : Nat) (l : List Lb) (z : Int) (e : Ending) (w' : World) : Prop :=
  ∃ A c, e = .returned (.tuple #[.slice A n c, .int .i64 z]) ∧ RowL w' w'.heap.size A n l ∧ n ≤ c ∧ c ≤ 9223372036854775807 ∧ Below w.heap.size w w'
theorem of_rl (A : Option Addr) (n c : Nat) (l l' : List Lb) (m : Nat) (z : Int) (w : World) (hr : RowL w w.heap.size A n l) (hn : n ≤ 1000000) (h : ofL nmS l = (l', z)) (hm : l'.length = m) : Calls Tryz.prog 5 #[.slice A n c] w (OfR w m l' z) :=
  (Of_any A n c l w hr hn).mono fun e w' k => by
    subst hm
    obtain ⟨A', c', rfl, o, b⟩ := k
    rw [h] at o ⊢
    have hc := own_cap o
    exact ⟨A', c', rfl, RowL.own o, hc.1, hc.2, b⟩
theorem Row.two (w : World) (e : TypeId) (x y : Value) : Row (w.alloc (.cells #[x, y] e)) (w.alloc (.cells #[x, y] e)).heap.size (some ⟨w.heap.size, 0, none⟩) 2 [x, y] := by
  refine ⟨rfl, fun _ => ⟨w.heap.size, 0, rfl, by rw [World.size_alloc]; omega, fun j hj => ?_⟩⟩
  rw [World.cell?_alloc_at _ _ _ _ (by simp)]
  rcases (by omega : j = 0 ∨ j = 1) with rfl | rfl <;> rfl
theorem eq_yes (A A' : Option Addr) (n c c' : Nat) (l : List Lb) (w : World) (hr : RowL w w.heap.size A n l) (hs : RowL w w.heap.size A' n l) (hn : n ≤ 1000000) :
    Calls Tryz.prog 7 #[.slice A n c, .slice A' n c'] w fun e w' => e = .returned (.bool true) ∧ Below w.heap.size w w' := by
  have h := eq_any A A' n n c c' l l w hr hs (by omega) (by omega)
  rw [decide_eq_true rfl] at h
  exact h
set_option maxRecDepth 100000 in
set_option maxHeartbeats 8000000 in
theorem works_any (w : World) : Calls Tryz.prog 24 #[] w fun e w' => e = .returned (.bool true) ∧ Below w.heap.size w w' := by
  have HB := Lib.hid (Below.refl w.heap.size w)
  have e50 : ((50 : Int) == 50) = true := rfl
  have e00 : ((0 : Int) == 0) = true := rfl
  go_enter Tryz.func24, Tryz.ntmps24
  have C := Lib.hid (set_rl ⟨#[98, 50, 97, 49, 99, 45]⟩ _ 3 set1 rfl (by decide) w)
  go_wp2_with fail
  with_reducible refine C.out.mono ?_
  rintro e v1 ⟨Ap, cp, rfl, r, hnp, hcp, b⟩
  clear C
  replace HB := Lib.hid (next HB.out b)
  have HRp := Lib.hid r
  clear r
  clear b
  have C := Lib.hid (of_rl Ap 3 cp _ _ 2 0 v1 HRp.out (by omega) wOf1 rfl)
  go_wp2_with fail
  with_reducible refine C.out.mono ?_
  rintro e v2 ⟨Aa, ca, rfl, r, hna, hca, b⟩
  clear C
  replace HRp := Lib.hid (HRp.out.on b)
  replace HB := Lib.hid (next HB.out b)
  have HRa := Lib.hid r
  clear r
  clear b
  clear HRp
  have C := Lib.hid (set_rl ⟨#[97, 49, 97, 50]⟩ _ 2 set2 rfl (by decide) v2)
  go_wp2_with fail
  with_reducible refine C.out.mono ?_
  rintro e v3 ⟨Aq, cq, rfl, r, hnq, hcq, b⟩
  clear C
  replace HRa := Lib.hid (HRa.out.on b)
  replace HB := Lib.hid (next HB.out b)
  have HRq := Lib.hid r
  clear r
  clear b
  have C := Lib.hid (of_rl Aq 2 cq _ _ 0 50 v3 HRq.out (by omega) wOf2 rfl)
  go_wp2_with fail
  with_reducible refine C.out.mono ?_
  rintro e v4 ⟨Ab, cb, rfl, r, hnb, hcb, b⟩
  clear C
  replace HRa := Lib.hid (HRa.out.on b)
  replace HRq := Lib.hid (HRq.out.on b)
  replace HB := Lib.hid (next HB.out b)
  have HRb := Lib.hid r
  clear r
  clear b
  clear HRq HRb
  have C := Lib.hid (set_rl ⟨#[97, 49, 98, 50]⟩ _ 2 set3 rfl (by decide) v4)
  go_wp2_with fail
  with_reducible refine C.out.mono ?_
  rintro e v5 ⟨Ad, cd, rfl, r, hnd, hcd, b⟩
  clear C
  replace HRa := Lib.hid (HRa.out.on b)
  replace HB := Lib.hid (next HB.out b)
  have HRd := Lib.hid r
  clear r
  clear b
  have C := Lib.hid (eq_yes Aa Ad 2 ca cd [(bA, b1), (bB, b2)] v5 HRa.out HRd.out (by omega))
  go_wp2_with fail
  with_reducible refine C.out.mono ?_
  rintro e v6 ⟨rfl, b⟩
  clear C
  replace HRa := Lib.hid (HRa.out.on b)
  replace HRd := Lib.hid (HRd.out.on b)
  replace HB := Lib.hid (next HB.out b)
  clear b
  clear HRa HRd
  have C := Lib.hid (set_rl ⟨#[97, 49, 99, 51]⟩ _ 2 set4 rfl (by decide) v6)
  go_wp2_with fail
  with_reducible refine C.out.mono ?_
  rintro e v7 ⟨Af, cf, rfl, r, hnf, hcf, b⟩
  clear C
  replace HB := Lib.hid (next HB.out b)
  have HRf := Lib.hid r
  clear r
  clear b
  have C := Lib.hid ((Set_any Af 2 cf _ ⟨#[98]⟩ ⟨#[50]⟩ v7 HRf.out (by omega) hnf hcf).mono fun _ _ k => k.rl wSet1 (n := 3) rfl)
  go_wp2_with fail
  with_reducible refine C.out.mono ?_
  rintro e v8 ⟨Ag, cg, rfl, r, hng, hcg, b⟩
  clear C
  replace HRf := Lib.hid (HRf.out.on b)
  replace HB := Lib.hid (next HB.out b)
  have HRg := Lib.hid r
  clear r
  clear b
  clear HRf
  have C := Lib.hid (set_rl ⟨#[97, 49, 98, 50, 99, 51]⟩ _ 3 set5 rfl (by decide) v8)
  go_wp2_with fail
  with_reducible refine C.out.mono ?_
  rintro e v9 ⟨Ah, ch, rfl, r, hnh, hch, b⟩
  clear C
  replace HRg := Lib.hid (HRg.out.on b)
  replace HB := Lib.hid (next HB.out b)
  have HRh := Lib.hid r
  clear r
  clear b
  have C := Lib.hid (eq_yes Ag Ah 3 cg ch [(bA, b1), (bB, b2), (bC, b3)] v9 HRg.out HRh.out (by omega))
  go_wp2_with fail
  with_reducible refine C.out.mono ?_
  rintro e v10 ⟨rfl, b⟩
  clear C
  replace HRg := Lib.hid (HRg.out.on b)
  replace HRh := Lib.hid (HRh.out.on b)
  replace HB := Lib.hid (next HB.out b)
  clear b
  clear HRg HRh
  have C := Lib.hid (set_rl ⟨#[97, 49]⟩ _ 1 set6 rfl (by decide) v10)
  go_wp2_with fail
  with_reducible refine C.out.mono ?_
  rintro e v11 ⟨Ai, ci, rfl, r, hni, hci, b⟩
  clear C
  replace HB := Lib.hid (next HB.out b)
  have HRi := Lib.hid r
  clear r
  clear b
  have C := Lib.hid ((Set_any Ai 1 ci _ ⟨#[97]⟩ ⟨#[]⟩ v11 HRi.out (by omega) hni hci).mono fun _ _ k => k.rl wSet2 (n := 0) rfl)
  go_wp2_with fail
  with_reducible refine C.out.mono ?_
  rintro e v12 ⟨Aj, cj, rfl, r, hnj, hcj, b⟩
  clear C
  replace HRi := Lib.hid (HRi.out.on b)
  replace HB := Lib.hid (next HB.out b)
  have HRj := Lib.hid r
  clear r
  clear b
  clear HRi HRj
  have HN0 := Lib.hid (Row.two v12 9 (.string ⟨#[98]⟩) (.string ⟨#[120]⟩))
  obtain ⟨wn, hwn⟩ : ∃ wn, v12.alloc (.cells #[.string ⟨#[98]⟩, .string ⟨#[120]⟩] 9) = wn := ⟨_, rfl⟩
  have hbn : Below v12.heap.size v12 wn := by rw [← hwn]; exact (Below.refl _ _).alloc (Nat.le_refl _) _
  rw [hwn] at HN0
  replace HB := Lib.hid (next HB.out hbn)
  obtain ⟨bn, hbn2⟩ : ∃ bn, v12.heap.size = bn := ⟨_, rfl⟩
  rw [hbn2] at HN0
  have HRn : Hid (Row wn wn.heap.size (some ⟨bn, 0, none⟩) 2 (strs [⟨#[98]⟩, ⟨#[120]⟩])) := Lib.hid HN0.out
  clear HN0 hbn
  have C := Lib.hid (set_rl ⟨#[97, 49, 98, 50]⟩ _ 2 set3 rfl (by decide) wn)
  go_wp2_with fail
  with_reducible refine C.out.mono ?_
  rintro e v13 ⟨As, cs, rfl, r, hns, hcs, b⟩
  clear C
  replace HRn := Lib.hid (HRn.out.on b)
  replace HB := Lib.hid (next HB.out b)
  have HRs := Lib.hid r
  clear r
  clear b
  have C := Lib.hid ((By_any As (some ⟨bn, 0, none⟩) 2 2 cs 2 [(bA, b1), (bB, b2)] [⟨#[98]⟩, ⟨#[120]⟩] v13 HRs.out HRn.out (by omega) (by omega) (by decide) (by decide)).mono fun _ _ k => k.rl wBy (n := 1) rfl)
  go_wp2_with fail
  with_reducible refine C.out.mono ?_
  rintro e v14 ⟨At, ct, rfl, r, hnt, hct, b⟩
  clear C
  replace HRn := Lib.hid (HRn.out.on b)
  replace HRs := Lib.hid (HRs.out.on b)
  replace HB := Lib.hid (next HB.out b)
  have HRt := Lib.hid r
  clear r
  clear b
  clear HRs
  have C := Lib.hid (set_rl ⟨#[98, 50]⟩ _ 1 set7 rfl (by decide) v14)
  go_wp2_with fail
  with_reducible refine C.out.mono ?_
  rintro e v15 ⟨Au, cu, rfl, r, hnu, hcu, b⟩
  clear C
  replace HRn := Lib.hid (HRn.out.on b)
  replace HRt := Lib.hid (HRt.out.on b)
  replace HB := Lib.hid (next HB.out b)
  have HRu := Lib.hid r
  clear r
  clear b
  have C := Lib.hid (eq_yes At Au 1 ct cu [(bB, b2)] v15 HRt.out HRu.out (by omega))
  go_wp2_with fail
  with_reducible refine C.out.mono ?_
  rintro e v16 ⟨rfl, b⟩
  clear C
  replace HRn := Lib.hid (HRn.out.on b)
  replace HRt := Lib.hid (HRt.out.on b)
  replace HRu := Lib.hid (HRu.out.on b)
  replace HB := Lib.hid (next HB.out b)
  clear b
  clear HRt HRu
  have C := Lib.hid (set_rl ⟨#[97, 49, 98, 50]⟩ _ 2 set3 rfl (by decide) v16)
  go_wp2_with fail
  with_reducible refine C.out.mono ?_
  rintro e v17 ⟨Ax, cx, rfl, r, hnx, hcx, b⟩
  clear C
  replace HRn := Lib.hid (HRn.out.on b)
  replace HB := Lib.hid (next HB.out b)
  have HRx := Lib.hid r
  clear r
  clear b
  have C := Lib.hid ((Without_any Ax (some ⟨bn, 0, none⟩) 2 2 cx 2 [(bA, b1), (bB, b2)] [⟨#[98]⟩, ⟨#[120]⟩] v17 HRx.out HRn.out (by omega) (by omega) (by decide) (by decide)).mono fun _ _ k => k.rl wWo (n := 1) rfl)
  go_wp2_with fail
  with_reducible refine C.out.mono ?_
  rintro e v18 ⟨Ay, cy, rfl, r, hny, hcy, b⟩
  clear C
  replace HRn := Lib.hid (HRn.out.on b)
  replace HRx := Lib.hid (HRx.out.on b)
  replace HB := Lib.hid (next HB.out b)
  have HRy := Lib.hid r
  clear r
  clear b
  clear HRx HRn
  have C := Lib.hid (set_rl ⟨#[97, 49]⟩ _ 1 set6 rfl (by decide) v18)
  go_wp2_with fail
  with_reducible refine C.out.mono ?_
  rintro e v19 ⟨Az, cz, rfl, r, hnz, hcz, b⟩
  clear C
  replace HRy := Lib.hid (HRy.out.on b)
  replace HB := Lib.hid (next HB.out b)
  have HRz := Lib.hid r
  clear r
  clear b
  have C := Lib.hid (eq_yes Ay Az 1 cy cz [(bA, b1)] v19 HRy.out HRz.out (by omega))
  go_wp2_with fail
  with_reducible refine C.out.mono ?_
  rintro e v20 ⟨rfl, b⟩
  clear C
  replace HRy := Lib.hid (HRy.out.on b)
  replace HRz := Lib.hid (HRz.out.on b)
  replace HB := Lib.hid (next HB.out b)
  clear b
  clear HRy HRz
  have C := Lib.hid ((Clean_any ⟨#[57, 45, 120]⟩ v20).mono (R' := fun e w' => e = .returned (.string ⟨#[95, 57, 95, 120]⟩) ∧ Below v20.heap.size v20 w') (fun _ _ k => by rw [wCl] at k; exact k))
  go_wp2_with fail
  with_reducible refine C.out.mono ?_
  rintro e v21 ⟨rfl, b⟩
  clear C
  replace HB := Lib.hid (next HB.out b)
  clear b
  have C := Lib.hid (set_rl ⟨#[97, 49, 98, 34]⟩ _ 2 set8 rfl (by decide) v21)
  go_wp2_with fail
  with_reducible refine C.out.mono ?_
  rintro e v22 ⟨Am, cm, rfl, r, hnm, hcm, b⟩
  clear C
  replace HB := Lib.hid (next HB.out b)
  have HRm := Lib.hid r
  clear r
  clear b
  have C := Lib.hid ((Text_any Am 2 cm [(bA, b1), (bB, ⟨#[34]⟩)] v22 HRm.out (by omega) (by decide)).mono (R' := fun e w' => e = .returned (.string ⟨#[123, 97, 61, 34, 49, 34, 44, 32, 98, 61, 34, 92, 34, 34, 125]⟩) ∧ Below v22.heap.size v22 w') (fun _ _ k => by rw [wTx] at k; exact k))
  go_wp2_with fail
  with_reducible refine C.out.mono ?_
  rintro e v23 ⟨rfl, b⟩
  clear C
  replace HRm := Lib.hid (HRm.out.on b)
  replace HB := Lib.hid (next HB.out b)
  clear b
  clear HRm
  have HBk := Lib.hid (HB.out.alloc HB.out.size (.cells #[.string ⟨#[97]⟩, .string ⟨#[98, 99]⟩] 29))
  have C := Lib.hid ((Key_any (some ⟨v23.heap.size, 0, none⟩) 1 1 [(⟨#[97]⟩, ⟨#[98, 99]⟩)] (v23.alloc (.cells #[.string ⟨#[97]⟩, .string ⟨#[98, 99]⟩] 29)) (RowL.one' _ _ _ _) (by omega) (by decide)).mono (R' := fun e w' => e = .returned (.string ⟨#[49, 58, 97, 50, 58, 98, 99]⟩) ∧ Below (v23.alloc (.cells #[.string ⟨#[97]⟩, .string ⟨#[98, 99]⟩] 29)).heap.size (v23.alloc (.cells #[.string ⟨#[97]⟩, .string ⟨#[98, 99]⟩] 29)) w') (fun _ _ k => by rw [show keyL [((⟨#[97]⟩ : ByteArray), (⟨#[98, 99]⟩ : ByteArray))] = keyL [(bA, ⟨#[98, 99]⟩)] from rfl, wKy] at k; exact k))
  go_wp2_with fail
  with_reducible refine C.out.mono ?_
  rintro e ve ⟨rfl, b⟩
  have HBe := Lib.hid (next HBk.out b)
  clear C b
  go_wp2_with fail
  go_ret
  exact ⟨rfl, HBe.out⟩
end Go.Proofs.YtdmflofdchmfhaaGreatDoor
