/- The chapter's examples hold. -/
import Derived.Test.YtomjdicedjdpnaaCTells
namespace Go.Proofs.Ytomjdicedjdpnaa
open Go.RowKit
/-- A row that a call's arguments are laid in. -/
theorem Row.made18 (w : World) (C : Array Value) (e : TypeId) : Row (w.alloc (.cells C e)) (w.alloc (.cells C e)).heap.size (some ⟨w.heap.size, 0, none⟩) C.toList.length C.toList := by
  refine ⟨rfl, fun _ => ⟨w.heap.size, 0, rfl, by rw [World.size_alloc]; omega, fun j hj => ?_⟩⟩
  rw [Array.length_toList] at hj
  rw [World.cell?_alloc_at _ _ _ _ (by omega), Nat.zero_add]
  simp [hj]
theorem tells_at (p line : ByteArray) (L : List Lb) (C : Array Value) (hp : p.size ≤ 1000000) (hs : line.size ≤ 100000000) (hv : cutV p line = some L) (hC : C.toList = cL L) (hL : L.length ≤ 1000) (n : Nat) (hn : C.toList.length = n) (w : World) (hM : MX w) :
    Calls Try.prog 26 #[.string p, .string line, .slice (some ⟨w.heap.size, 0, none⟩) n n] (w.alloc (.cells C 9)) fun e w' => e = .returned (.bool true) ∧ Below w.heap.size w w' := by
  subst hn
  have hr := Row.made18 w C 9
  have hb : Below w.heap.size w (w.alloc (.cells C 9)) := (Below.refl _ w).alloc (Nat.le_refl _) _
  refine (tells_yes p line _ _ _ L hp hs hv _ (hC ▸ hr) hL (hM.on hb)).mono ?_
  rintro e w' ⟨rfl, b⟩
  exact ⟨rfl, next hb b⟩
theorem tells_nil (p line : ByteArray) (hp : p.size ≤ 1000000) (hs : line.size ≤ 100000000) (hv : cutV p line = some []) (w : World) (hM : MX w) :
    Calls Try.prog 26 #[.string p, .string line, .slice none 0 0] w fun e w' => e = .returned (.bool true) ∧ Below w.heap.size w w' :=
  tells_yes p line _ _ _ [] hp hs hv w ⟨rfl, fun h => absurd h (by omega)⟩ (by decide) hM
theorem fails_yes (p : ByteArray) (hp : p.size ≤ 1000000) (hno : ¬ okC (bl p)) (w : World) (hM : MX w) :
    Calls Try.prog 20 #[.string p] w fun e w' => e = .returned (.bool true) ∧ Below w.heap.size w w' := by
  have h := fails_any p hp w hM
  rwa [decide_eq_false hno] at h
theorem fails_no (p : ByteArray) (hp : p.size ≤ 1000000) (hno : okC (bl p)) (w : World) (hM : MX w) :
    Calls Try.prog 20 #[.string p] w fun e w' => e = .returned (.bool false) ∧ Below w.heap.size w w' := by
  have h := fails_any p hp w hM
  rwa [decide_eq_true hno] at h
set_option maxRecDepth 100000
theorem wk1 : cutV ⟨#[60, 105, 112, 62, 32, 45, 32, 60, 95, 62, 32, 34, 60, 109, 62, 32, 60, 112, 62, 34]⟩ ⟨#[49, 46, 50, 32, 45, 32, 98, 111, 98, 32, 34, 71, 69, 84, 32, 47, 120, 34, 32, 50, 48, 48]⟩ = some [(⟨#[105, 112]⟩, ⟨#[49, 46, 50]⟩), (⟨#[109]⟩, ⟨#[71, 69, 84]⟩), (⟨#[112]⟩, ⟨#[47, 120]⟩)] := by decide +kernel
theorem wk2 : cutV ⟨#[97, 60, 120, 62]⟩ ⟨#[97, 98, 99]⟩ = some [(⟨#[120]⟩, ⟨#[98, 99]⟩)] := by decide +kernel
theorem wk3 : cutV ⟨#[97, 60, 120, 62]⟩ ⟨#[97]⟩ = some [] := by decide +kernel
theorem wk4 : okC (bl ⟨#[97, 60, 120, 62]⟩) ∧ cutV ⟨#[97, 60, 120, 62]⟩ ⟨#[98]⟩ = none := by decide +kernel
theorem wk5 : ¬ okC (bl ⟨#[60, 120, 62, 60, 121, 62]⟩) := by decide +kernel
theorem wk6 : ¬ okC (bl ⟨#[97, 98, 99]⟩) := by decide +kernel
theorem wk7 : ¬ okC (bl ⟨#[60, 120, 62, 32, 60, 120, 62]⟩) := by decide +kernel
theorem wk8 : ¬ okC (bl ⟨#[60, 95, 62]⟩) := by decide +kernel
theorem wk9 : ¬ okC (bl ⟨#[60, 57, 62]⟩) := by decide +kernel
set_option maxHeartbeats 8000000 in
theorem works_any (w : World) (hM : MX w) : Calls Try.prog 10 #[] w fun e w' => e = .returned (.bool true) ∧ Below w.heap.size w w' := by
  have HB := Lib.hid (Below.refl w.heap.size w)
  have HM := Lib.hid hM
  clear hM
  go_enter Try.func10, Try.ntmps10
  have C := Lib.hid (tells_at ⟨#[60, 105, 112, 62, 32, 45, 32, 60, 95, 62, 32, 34, 60, 109, 62, 32, 60, 112, 62, 34]⟩ ⟨#[49, 46, 50, 32, 45, 32, 98, 111, 98, 32, 34, 71, 69, 84, 32, 47, 120, 34, 32, 50, 48, 48]⟩ [(⟨#[105, 112]⟩, ⟨#[49, 46, 50]⟩), (⟨#[109]⟩, ⟨#[71, 69, 84]⟩), (⟨#[112]⟩, ⟨#[47, 120]⟩)] #[.string ⟨#[105, 112]⟩, .string ⟨#[49, 46, 50]⟩, .string ⟨#[109]⟩, .string ⟨#[71, 69, 84]⟩, .string ⟨#[112]⟩, .string ⟨#[47, 120]⟩] (by decide) (by decide) wk1 rfl (by decide) 6 rfl w HM.out)
  go_wp2_with fail
  with_reducible refine C.out.mono ?_
  rintro e v1 ⟨rfl, b⟩
  clear C
  replace HB := Lib.hid (next HB.out b)
  replace HM := Lib.hid (HM.out.on b)
  clear b
  have C := Lib.hid (tells_at ⟨#[97, 60, 120, 62]⟩ ⟨#[97, 98, 99]⟩ [(⟨#[120]⟩, ⟨#[98, 99]⟩)] #[.string ⟨#[120]⟩, .string ⟨#[98, 99]⟩] (by decide) (by decide) wk2 rfl (by decide) 2 rfl v1 HM.out)
  go_wp2_with fail
  with_reducible refine C.out.mono ?_
  rintro e v2 ⟨rfl, b⟩
  clear C
  replace HB := Lib.hid (next HB.out b)
  replace HM := Lib.hid (HM.out.on b)
  clear b
  have C := Lib.hid (tells_nil ⟨#[97, 60, 120, 62]⟩ ⟨#[97]⟩ (by decide) (by decide) wk3 v2 HM.out)
  go_wp2_with fail
  with_reducible refine C.out.mono ?_
  rintro e v3 ⟨rfl, b⟩
  clear C
  replace HB := Lib.hid (next HB.out b)
  replace HM := Lib.hid (HM.out.on b)
  clear b
  have C := Lib.hid (none_any ⟨#[97, 60, 120, 62]⟩ ⟨#[98]⟩ (by decide) (by decide) wk4.1 wk4.2 v3 HM.out)
  go_wp2_with fail
  with_reducible refine C.out.mono ?_
  rintro e v4 ⟨rfl, b⟩
  clear C
  replace HB := Lib.hid (next HB.out b)
  replace HM := Lib.hid (HM.out.on b)
  clear b
  have C := Lib.hid (fails_yes ⟨#[60, 120, 62, 60, 121, 62]⟩ (by decide) wk5 v4 HM.out)
  go_wp2_with fail
  with_reducible refine C.out.mono ?_
  rintro e v5 ⟨rfl, b⟩
  clear C
  replace HB := Lib.hid (next HB.out b)
  replace HM := Lib.hid (HM.out.on b)
  clear b
  have C := Lib.hid (fails_yes ⟨#[97, 98, 99]⟩ (by decide) wk6 v5 HM.out)
  go_wp2_with fail
  with_reducible refine C.out.mono ?_
  rintro e v6 ⟨rfl, b⟩
  clear C
  replace HB := Lib.hid (next HB.out b)
  replace HM := Lib.hid (HM.out.on b)
  clear b
  have C := Lib.hid (fails_yes ⟨#[60, 120, 62, 32, 60, 120, 62]⟩ (by decide) wk7 v6 HM.out)
  go_wp2_with fail
  with_reducible refine C.out.mono ?_
  rintro e v7 ⟨rfl, b⟩
  clear C
  replace HB := Lib.hid (next HB.out b)
  replace HM := Lib.hid (HM.out.on b)
  clear b
  have C := Lib.hid (fails_yes ⟨#[60, 95, 62]⟩ (by decide) wk8 v7 HM.out)
  go_wp2_with fail
  with_reducible refine C.out.mono ?_
  rintro e v8 ⟨rfl, b⟩
  clear C
  replace HB := Lib.hid (next HB.out b)
  replace HM := Lib.hid (HM.out.on b)
  clear b
  have C := Lib.hid (fails_yes ⟨#[60, 57, 62]⟩ (by decide) wk9 v8 HM.out)
  go_wp2_with fail
  with_reducible refine C.out.mono ?_
  rintro e v9 ⟨rfl, b⟩
  clear C
  replace HB := Lib.hid (next HB.out b)
  replace HM := Lib.hid (HM.out.on b)
  clear b
  go_wp2_with fail
  go_ret
  exact ⟨rfl, HB.out⟩
end Go.Proofs.Ytomjdicedjdpnaa
