/- The law RunesKnown, walked. -/
import Derived.Test.YtjnnaafkdgoflaaRHasLaw
namespace Go.Proofs.Ytjnnaafkdgoflaa
open Go.RowKit

def endZ : List Int := [-9223372036854775808, -1, 0, 1, 2, 55296, 1114110, 1114111, 1114112, 9223372036854775807]
theorem endZ_wf : ∀ z ∈ endZ, (Lit.int .i64 z).wf = true := by decide
set_option maxRecDepth 100000 in
set_option maxHeartbeats 8000000 in
theorem RunesKnown_walk (w : World) : Calls Try.prog 8 #[] w fun e w' => e = .returned (.bool true) ∧ Below w.heap.size w w' := by
  have HB : Hid (Below w.heap.size w (w.alloc (.cells (ints .i64 endZ).toArray 3))) := Lib.hid (new_below w _)
  have HR : Hid (Row (w.alloc (.cells (ints .i64 endZ).toArray 3)) (w.heap.size + 1) (some ⟨w.heap.size, 0, none⟩) 10 (ints .i64 endZ)) := Lib.hid (Row.lit w .i64 endZ 3)
  rw [show w.heap.size + 1 = (w.alloc (.cells (ints .i64 endZ).toArray 3)).heap.size from (World.size_alloc _ _).symm] at HR
  go_enter Try.func8, Try.ntmps8
  go_wp2_with fail
  change Code.wp _ _ _ _ (w.alloc (.cells (ints .i64 endZ).toArray 3))
  generalize w.alloc (.cells (ints .i64 endZ).toArray 3) = w1 at *
  obtain ⟨g, hg⟩ : ∃ g, w.heap.size = g := ⟨_, rfl⟩
  rw [hg] at HB HR ⊢
  have HG := Lib.hid hg
  clear hg
  go_loopw [2] (fun p wr => ∃ i : Nat, i ≤ 10 ∧ p = .int .i64 (i : Int) ∧ Below w1.heap.size w1 wr) (fun p _ => 10 - (intOf p).toNat)
  case atStart => exact ⟨0, by omega, rfl, Below.refl _ _⟩
  case round =>
    obtain ⟨i, hi, rfl, hb⟩ := hrel
    by_cases hlt : i < 10
    · have f1 : decide ((i : Int) < 10) = true := decide_eq_true (by omega)
      have HBo := Lib.hid hb
      clear hb
      go_wp2_with fail
      go_loopw [3] (fun p w5 => ∃ k : Nat, k ≤ 10 ∧ p = .int .i64 (k : Int) ∧ Below w1.heap.size w1 w5) (fun p _ => 10 - (intOf p).toNat)
      case atStart => exact ⟨0, by omega, rfl, HBo.out⟩
      case round =>
        obtain ⟨k, hk, rfl, hb⟩ := hrel
        rename World => wr
        by_cases hlk : k < 10
        · obtain ⟨x, hzx, _, _, hxm⟩ := ints_at .i64 endZ i hlt
          obtain ⟨y, hzy, _, _, hym⟩ := ints_at .i64 endZ k hlk
          have wfx := endZ_wf x hxm
          have wfy := endZ_wf y hym
          obtain ⟨bz, oz, ez, hbz, hcz⟩ := HR.out.2 (by omega)
          injection ez with ez
          injection ez with ez1 ez2
          subst ez1; subst ez2
          have cx := (hb.cell (p := ⟨g, 0 + i, none⟩) hbz).trans ((hcz i hlt).trans hzx)
          have cy := (hb.cell (p := ⟨g, 0 + k, none⟩) hbz).trans ((hcz k hlk).trans hzy)
          rw [Nat.zero_add] at cx cy
          have f2 : decide ((k : Int) < 10) = true := decide_eq_true (by omega)
          have g0 : (0 : Int) ≤ (i : Int) := by omega
          have g1 : (i : Int) < 10 := by omega
          have g2 : (0 : Int) ≤ (k : Int) := by omega
          have g3 : (k : Int) < 10 := by omega
          have HX : Hid (∀ v : World, Row v v.heap.size (some ⟨g, 0, none⟩) 10 (ints .i64 endZ) → v.cell? ⟨g, i, none⟩ = some (.int .i64 x)) := Lib.hid (fun v h => by
            have h2 := h.cell hlt
            rw [Nat.zero_add, hzx] at h2
            exact h2)
          have HY : Hid (∀ v : World, Row v v.heap.size (some ⟨g, 0, none⟩) 10 (ints .i64 endZ) → v.cell? ⟨g, k, none⟩ = some (.int .i64 y)) := Lib.hid (fun v h => by
            have h2 := h.cell hlk
            rw [Nat.zero_add, hzy] at h2
            exact h2)
          have HRz := Lib.hid (HR.out.on hb)
          have HBr := Lib.hid hb
          have HWx := Lib.hid wfx
          have HWy := Lib.hid wfy
          have hgw : g < wr.heap.size := by have := hb.size; omega
          clear hb hcz hzx hzy hxm hym hbz wfx wfy
          go_wp2_with fail
          go_region_held3 (fun w' => w'.cell? ⟨g, i, none⟩ = some (.int .i64 x) ∧ w'.cell? ⟨g, k, none⟩ = some (.int .i64 y)) (go_keep) (fail)
          all_goals
            go_wp2_with fail
          have b := (new_below wr (.cells #[.int .i64 x, .int .i64 y, .int .i64 5, .int .i64 9] 45)).drew
          have HRl := Lib.hid ((RowR.made wr 45 [(x, y), (5, 9)] #[.int .i64 x, .int .i64 y, .int .i64 5, .int .i64 9] 2 rfl rfl).on (Below.refl _ _).drew)
          replace HRz := Lib.hid (HRz.out.on b)
          replace HBr := Lib.hid (next HBr.out b)
          have cx := HX.out _ HRz.out
          have cy := HY.out _ HRz.out
          have hgw := Nat.lt_of_lt_of_le hgw b.size
          obtain ⟨V, hV⟩ : ∃ V, (wr.alloc (.cells #[.int .i64 x, .int .i64 y, .int .i64 5, .int .i64 9] 45)).drew = V := ⟨_, rfl⟩
          rw [hV] at HRl HRz HBr cx cy hgw ⊢
          generalize wr.heap.size = s1 at *
          clear hV b
          go_wp2_with fail
          go_region_held3 (fun w' => w'.cell? ⟨g, i, none⟩ = some (.int .i64 x) ∧ w'.cell? ⟨g, k, none⟩ = some (.int .i64 y)) (go_keep) (fail)
          all_goals
            go_wp2_with fail
          have b := (new_below V (.cells #[.int .i64 y, .int .i64 x, .int .i64 10, .int .i64 10, .int .i64 3, .int .i64 3] 45)).drew
          have HRm := Lib.hid ((RowR.made V 45 [(y, x), (10, 10), (3, 3)] #[.int .i64 y, .int .i64 x, .int .i64 10, .int .i64 10, .int .i64 3, .int .i64 3] 3 rfl rfl).on (Below.refl _ _).drew)
          replace HRl := Lib.hid (HRl.out.on b)
          replace HRz := Lib.hid (HRz.out.on b)
          replace HBr := Lib.hid (next HBr.out b)
          have cx := HX.out _ HRz.out
          have cy := HY.out _ HRz.out
          obtain ⟨V2, hV⟩ : ∃ V2, (V.alloc (.cells #[.int .i64 y, .int .i64 x, .int .i64 10, .int .i64 10, .int .i64 3, .int .i64 3] 45)).drew = V2 := ⟨_, rfl⟩
          rw [hV] at HRl HRm HRz HBr cx cy ⊢
          generalize V.heap.size = s2 at *
          clear hV b hgw
          have C := (show Calls Try.prog 3 #[.slice (some ⟨s1, 0, none⟩) 2 2, .int .i64 x] V2 (fun e w' => e = .returned (.bool true) ∧ Below V2.heap.size V2 w') from RunesSets_walk (some ⟨s1, 0, none⟩) [(x, y), (5, 9)] 2 x V2 HRl.out (by simp) (by simp) HWx.out)
          replace C := Lib.hid C
          go_wp2_with fail
          with_reducible refine C.out.mono ?_
          rintro e v1 ⟨rfl, b⟩
          clear C
          replace HRl := Lib.hid (HRl.out.on b)
          replace HRm := Lib.hid (HRm.out.on b)
          replace HRz := Lib.hid (HRz.out.on b)
          replace HBr := Lib.hid (next HBr.out b)
          have cx := HX.out _ HRz.out
          have cy := HY.out _ HRz.out
          clear b
          have C := (show Calls Try.prog 3 #[.slice (some ⟨s2, 0, none⟩) 3 3, .int .i64 y] v1 (fun e w' => e = .returned (.bool true) ∧ Below v1.heap.size v1 w') from RunesSets_walk (some ⟨s2, 0, none⟩) [(y, x), (10, 10), (3, 3)] 3 y v1 HRm.out (by simp) (by simp) HWy.out)
          replace C := Lib.hid C
          go_wp2_with fail
          with_reducible refine C.out.mono ?_
          rintro e v2 ⟨rfl, b⟩
          clear C
          replace HRl := Lib.hid (HRl.out.on b)
          replace HRm := Lib.hid (HRm.out.on b)
          replace HRz := Lib.hid (HRz.out.on b)
          replace HBr := Lib.hid (next HBr.out b)
          have cx := HX.out _ HRz.out
          have cy := HY.out _ HRz.out
          clear b
          have C := (show Calls Try.prog 4 #[.slice (some ⟨s1, 0, none⟩) 2 2, .slice (some ⟨s2, 0, none⟩) 3 3] v2 (fun e w' => e = .returned (.bool true) ∧ Below v2.heap.size v2 w') from RunesTwo_walk (some ⟨s1, 0, none⟩) [(x, y), (5, 9)] 2 (some ⟨s2, 0, none⟩) [(y, x), (10, 10), (3, 3)] 3 v2 HRl.out (by simp) (by simp) HRm.out (by simp) (by simp))
          replace C := Lib.hid C
          go_wp2_with fail
          with_reducible refine C.out.mono ?_
          rintro e v3 ⟨rfl, b⟩
          clear C
          replace HRl := Lib.hid (HRl.out.on b)
          replace HRm := Lib.hid (HRm.out.on b)
          replace HRz := Lib.hid (HRz.out.on b)
          replace HBr := Lib.hid (next HBr.out b)
          have cx := HX.out _ HRz.out
          have cy := HY.out _ HRz.out
          clear b
          have C := (show Calls Try.prog 5 #[.slice (some ⟨s1, 0, none⟩) 2 2, .slice (some ⟨s2, 0, none⟩) 3 3, .int .i64 y] v3 (fun e w' => e = .returned (.bool true) ∧ Below v3.heap.size v3 w') from RunesHas_walk (some ⟨s1, 0, none⟩) [(x, y), (5, 9)] 2 (some ⟨s2, 0, none⟩) [(y, x), (10, 10), (3, 3)] 3 y v3 HRl.out (by simp) (by simp) HRm.out (by simp) (by simp) HWy.out)
          replace C := Lib.hid C
          go_wp2_with fail
          with_reducible refine C.out.mono ?_
          rintro e v4 ⟨rfl, b⟩
          clear C
          replace HRl := Lib.hid (HRl.out.on b)
          replace HRm := Lib.hid (HRm.out.on b)
          replace HRz := Lib.hid (HRz.out.on b)
          replace HBr := Lib.hid (next HBr.out b)
          have cx := HX.out _ HRz.out
          have cy := HY.out _ HRz.out
          clear b
          have C := (show Calls Try.prog 6 #[.slice (some ⟨s1, 0, none⟩) 2 2, .slice (some ⟨s2, 0, none⟩) 3 3] v4 (fun e w' => e = .returned (.bool true) ∧ Below v4.heap.size v4 w') from RunesOnce_walk (some ⟨s1, 0, none⟩) [(x, y), (5, 9)] 2 (some ⟨s2, 0, none⟩) [(y, x), (10, 10), (3, 3)] 3 v4 HRl.out (by simp) (by simp) HRm.out (by simp) (by simp))
          replace C := Lib.hid C
          go_wp2_with fail
          with_reducible refine C.out.mono ?_
          rintro e v5 ⟨rfl, b⟩
          clear C
          replace HRl := Lib.hid (HRl.out.on b)
          replace HRm := Lib.hid (HRm.out.on b)
          replace HRz := Lib.hid (HRz.out.on b)
          replace HBr := Lib.hid (next HBr.out b)
          have cx := HX.out _ HRz.out
          have cy := HY.out _ HRz.out
          clear b
          have C := (show Calls Try.prog 7 #[.slice (some ⟨s1, 0, none⟩) 2 2, .slice (some ⟨s2, 0, none⟩) 3 3] v5 (fun e w' => e = .returned (.bool true) ∧ Below v5.heap.size v5 w') from RunesCount_walk (some ⟨s1, 0, none⟩) [(x, y), (5, 9)] 2 (some ⟨s2, 0, none⟩) [(y, x), (10, 10), (3, 3)] 3 v5 HRl.out (by simp) (by simp) HRm.out (by simp) (by simp))
          replace C := Lib.hid C
          go_wp2_with fail
          with_reducible refine C.out.mono ?_
          rintro e v6 ⟨rfl, b⟩
          clear C
          replace HRl := Lib.hid (HRl.out.on b)
          replace HRm := Lib.hid (HRm.out.on b)
          replace HRz := Lib.hid (HRz.out.on b)
          replace HBr := Lib.hid (next HBr.out b)
          clear b
          clear HX HY HRl HRm HRz HWx HWy
          go_wp2_with fail
          exact ⟨⟨k + 1, by omega, by go_num, HBr.out⟩, by simp [intOf]; omega⟩
        · have f2 : decide ((k : Int) < 10) = false := decide_eq_false (by omega)
          go_wp2_with fail
          exact ⟨⟨i + 1, by omega, by go_num, hb⟩, by simp [intOf]; omega⟩
    · rename World => wq
      have HBq : Hid (Below w.heap.size w wq) := Lib.hid (next (by have h := HB.out; rwa [← HG.out] at h) hb)
      have f1 : decide ((i : Int) < 10) = false := decide_eq_false (by omega)
      clear hb hi
      have C := awake_any wq
      replace C := Lib.hid C
      go_wp2_with fail
      with_reducible refine C.out.mono ?_
      rintro e v1 ⟨rfl, b⟩
      clear C
      replace HBq := Lib.hid (next HBq.out b)
      clear b
      have C := (show Calls Try.prog 3 #[.slice none 0 0, .int .i64 0] v1 (fun e w' => e = .returned (.bool true) ∧ Below v1.heap.size v1 w') from RunesSets_walk none [] 0 0 v1 (RowR.nil _) (by simp) (by simp) (by decide))
      replace C := Lib.hid C
      go_wp2_with fail
      with_reducible refine C.out.mono ?_
      rintro e v2 ⟨rfl, b⟩
      clear C
      replace HBq := Lib.hid (next HBq.out b)
      clear b
      have C := (show Calls Try.prog 4 #[.slice none 0 0, .slice none 0 0] v2 (fun e w' => e = .returned (.bool true) ∧ Below v2.heap.size v2 w') from RunesTwo_walk none [] 0 none [] 0 v2 (RowR.nil _) (by simp) (by simp) (RowR.nil _) (by simp) (by simp))
      replace C := Lib.hid C
      go_wp2_with fail
      with_reducible refine C.out.mono ?_
      rintro e v3 ⟨rfl, b⟩
      clear C
      replace HBq := Lib.hid (next HBq.out b)
      clear b
      go_wp2_with fail
      go_ret
      exact ⟨rfl, HBq.out⟩
end Go.Proofs.Ytjnnaafkdgoflaa
