/- CutsKnown, walked. -/
import Derived.Test.YtomjdicedjdpnaaCZero
namespace Go.Proofs.Ytomjdicedjdpnaa
open Go.RowKit

def nmK : ByteArray := ⟨(Lib.repeatL [110] 64).toArray⟩
def xsK : ByteArray := ⟨(Lib.repeatL [120] 253).toArray⟩
def longK : ByteArray := ⟨#[60, 97, 62]⟩ ++ xsK
def n1K : ByteArray := ⟨#[60]⟩ ++ nmK
def n2K : ByteArray := n1K ++ ⟨#[62]⟩
def n3K : ByteArray := n1K ++ ⟨#[110, 62]⟩
def yK : ByteArray := ⟨#[121]⟩ ++ xsK
def lxK : ByteArray := longK ++ ⟨#[120]⟩
theorem rep_n (w : World) (_ : MX w) : Calls Try.prog 24 #[.string ⟨#[110]⟩, .int .i64 64] w fun e w' => e = .returned (.string nmK) ∧ Below w.heap.size w w' :=
  Try.strings_Repeat ⟨#[110]⟩ 64 w (by decide) (by decide)
theorem rep_x (w : World) (_ : MX w) : Calls Try.prog 24 #[.string ⟨#[120]⟩, .int .i64 253] w fun e w' => e = .returned (.string xsK) ∧ Below w.heap.size w w' :=
  Try.strings_Repeat ⟨#[120]⟩ 253 w (by decide) (by decide)
theorem zero_made (v : World) (T : TypeId) : CAt (v.alloc (.cells #[.string ByteArray.empty, .slice none 0 0] T)) v.heap.size ByteArray.empty [] ∧ (v.alloc (.cells #[.string ByteArray.empty, .slice none 0 0] T)).cell? ⟨v.heap.size, 0, none⟩ = some (.string ByteArray.empty) ∧ (v.alloc (.cells #[.string ByteArray.empty, .slice none 0 0] T)).cell? ⟨v.heap.size, 1, none⟩ = some (.slice none 0 0) := by
  have c0 : (v.alloc (.cells #[.string ByteArray.empty, .slice none 0 0] T)).cell? ⟨v.heap.size, 0, none⟩ = some (.string ByteArray.empty) := by rw [World.cell?_alloc_at _ _ _ _ (by simp)]; rfl
  have c1 : (v.alloc (.cells #[.string ByteArray.empty, .slice none 0 0] T)).cell? ⟨v.heap.size, 1, none⟩ = some (.slice none 0 0) := by rw [World.cell?_alloc_at _ _ _ _ (by simp)]; rfl
  exact ⟨⟨none, 0, 0, by rw [World.size_alloc]; omega, c0, c1, ⟨rfl, fun h => absurd h (by omega)⟩⟩, c0, c1⟩
set_option maxRecDepth 100000 in
set_option maxHeartbeats 4000000 in
theorem tells_no (p line : ByteArray) (A' : Option Addr) (m c' : Nat) (hp : p.size ≤ 1000000) (hs : line.size ≤ 100000000) (hv : cutV p line = none) (w : World) (hM : MX w) :
    Calls Try.prog 26 #[.string p, .string line, .slice A' m c'] w fun e w' => e = .returned (.bool false) ∧ Below w.heap.size w w' := by
  have HC := Lib.hid (lcut_any p line hp hs w hM)
  have HV := Lib.hid hv
  clear hv hM
  go_enter Try.func26, Try.ntmps26
  go_wp2_with fail
  with_reducible refine HC.out.mono ?_
  rintro e w1 ⟨b1, ⟨hr, rfl⟩ | ⟨L', A, n', c, hr, rfl, r, h1, h2⟩⟩
  · have HB := Lib.hid b1
    clear b1 hr
    go_wp2_with fail
    go_ret
    exact ⟨rfl, HB.out⟩
  · rw [HV.out] at hr
    cases hr
def badL : List ByteArray := [⟨#[]⟩, ⟨#[120]⟩, ⟨#[60]⟩, ⟨#[60, 62]⟩, ⟨#[60, 95, 62]⟩, ⟨#[60, 97, 32, 98, 62]⟩, ⟨#[60, 95, 62, 32, 60, 95, 62]⟩, ⟨#[60, 97, 62, 60, 95, 62]⟩, ⟨#[60, 95, 62, 60, 97, 62]⟩, ⟨#[60, 97, 62, 120, 60, 98, 62, 120, 60, 97, 62]⟩, n3K, lxK, ⟨#[60, 57, 62]⟩, ⟨#[60, 195, 169, 62]⟩]
theorem bad_all : ∀ s ∈ badL, s.size ≤ 1000000 ∧ ¬ okC (bl s) := by decide +kernel
theorem sizesK : nmK.size = 64 ∧ xsK.size = 253 ∧ n1K.size = 65 ∧ longK.size = 256 := by decide +kernel
theorem bad_mem {j : Nat} (h : j < 14) : badL.getD j ByteArray.empty ∈ badL := by
  rw [List.getD_eq_getElem?_getD, List.getElem?_eq_getElem (show j < badL.length from h)]
  exact List.getElem_mem _
theorem bad_get {j : Nat} (h : j < 14) : (strs badL)[j]? = some (.string (badL.getD j ByteArray.empty)) := strs_get _ _ h
set_option maxRecDepth 100000
theorem kn1 : cutV ⟨#[60, 97]⟩ ⟨#[120]⟩ = none := by decide +kernel
theorem kn2 : cutV ⟨#[60, 60, 97, 62, 62]⟩ ⟨#[60, 120, 62]⟩ = some [(⟨#[97]⟩, ⟨#[120]⟩)] := by decide +kernel
theorem kn3 : cutV ⟨#[60, 97, 45, 98, 62, 60, 99, 62]⟩ ⟨#[60, 97, 45, 98, 62, 49]⟩ = some [(⟨#[99]⟩, ⟨#[49]⟩)] := by decide +kernel
theorem kn4 : cutV ⟨#[60, 60, 62]⟩ ⟨#[]⟩ = none := by decide +kernel
theorem kn5 : cutV ⟨#[60, 97, 62, 62]⟩ ⟨#[120, 62]⟩ = some [(⟨#[97]⟩, ⟨#[120]⟩)] := by decide +kernel
theorem kn6 : cutV ⟨#[120, 60, 95, 62, 121, 60, 97, 62]⟩ ⟨#[120, 49, 121, 50]⟩ = some [(⟨#[97]⟩, ⟨#[50]⟩)] := by decide +kernel
theorem kn7 : cutV ⟨#[60, 97, 62, 32]⟩ ⟨#[32]⟩ = some [] := by decide +kernel
theorem kn8 : cutV ⟨#[60, 97, 62, 32, 60, 95, 62]⟩ ⟨#[49, 32, 50, 32, 51]⟩ = some [(⟨#[97]⟩, ⟨#[49]⟩)] := by decide +kernel
theorem kn9 : (n2K : ByteArray).size ≤ 1000000 ∧ (⟨#[118]⟩ : ByteArray).size ≤ 100000000 ∧ cutV n2K ⟨#[118]⟩ = some [(nmK, ⟨#[118]⟩)] := by decide +kernel
theorem kn10 : cutV ⟨#[60, 98, 62, 44, 60, 97, 62]⟩ ⟨#[49, 44, 50]⟩ = some [(⟨#[97]⟩, ⟨#[50]⟩), (⟨#[98]⟩, ⟨#[49]⟩)] := by decide +kernel
theorem kn11 : cutV ⟨#[60, 95, 62, 97, 60, 120, 62, 97, 60, 95, 62]⟩ ⟨#[49, 97, 50, 97, 51, 97, 52]⟩ = some [(⟨#[120]⟩, ⟨#[50]⟩)] := by decide +kernel
theorem kn12 : (longK : ByteArray).size ≤ 1000000 ∧ (yK : ByteArray).size ≤ 100000000 ∧ cutV longK yK = some [(⟨#[97]⟩, ⟨#[121]⟩)] := by decide +kernel
theorem kz1 : okC (bl ⟨#[60, 97, 62, 120]⟩) ∧ cutV ⟨#[60, 97, 62, 120]⟩ ⟨#[97, 98, 99]⟩ = none := by decide +kernel
theorem kz2 : okC (bl ⟨#[97, 98, 60, 97, 62]⟩) ∧ cutV ⟨#[97, 98, 60, 97, 62]⟩ ⟨#[97]⟩ = none := by decide +kernel
theorem kz3 : okC (bl ⟨#[60, 97, 62, 120, 60, 98, 62, 121]⟩) ∧ cutV ⟨#[60, 97, 62, 120, 60, 98, 62, 121]⟩ ⟨#[49, 121, 50, 120]⟩ = none := by decide +kernel
set_option maxHeartbeats 8000000 in
theorem CutsKnown_in (w : World) (hM : MX w) : Calls Try.prog 7 #[] w fun e w' => e = .returned (.bool true) ∧ Below w.heap.size w w' := by
  have HB := Lib.hid (Below.refl w.heap.size w)
  have HM := Lib.hid hM
  have hz := sizesK
  have a1 := add_runC ⟨#[60, 97, 62]⟩ xsK longK rfl (by rw [hz.2.1]; decide)
  have a2 := add_runC ⟨#[60]⟩ nmK n1K rfl (by rw [hz.1]; decide)
  have a3 := add_runC n1K ⟨#[62]⟩ n2K rfl (by rw [hz.2.2.1]; decide)
  have a4 := add_runC n1K ⟨#[110, 62]⟩ n3K rfl (by rw [hz.2.2.1]; decide)
  have a5 := add_runC ⟨#[121]⟩ xsK yK rfl (by rw [hz.2.1]; decide)
  have a6 := add_runC longK ⟨#[120]⟩ lxK rfl (by rw [hz.2.2.2]; decide)
  clear hM hz
  go_enter Try.func7, Try.ntmps7
  have C := Lib.hid (rep_n w HM.out)
  go_wp2_with fail
  with_reducible refine C.out.mono ?_
  rintro e v1 ⟨rfl, b⟩
  clear C
  replace HB := Lib.hid (next HB.out b)
  replace HM := Lib.hid (HM.out.on b)
  clear b
  have C := Lib.hid (rep_x v1 HM.out)
  go_wp2_with fail
  with_reducible refine C.out.mono ?_
  rintro e v2 ⟨rfl, b⟩
  clear C
  replace HB := Lib.hid (next HB.out b)
  replace HM := Lib.hid (HM.out.on b)
  clear b
  have C := Lib.hid (tells_no ⟨#[60, 97]⟩ ⟨#[120]⟩ none 0 0 (by decide) (by decide) kn1 v2 HM.out)
  go_wp2_with fail
  with_reducible refine C.out.mono ?_
  rintro e v3 ⟨rfl, b⟩
  clear C
  replace HB := Lib.hid (next HB.out b)
  replace HM := Lib.hid (HM.out.on b)
  clear b
  have C := Lib.hid (tells_at ⟨#[60, 60, 97, 62, 62]⟩ ⟨#[60, 120, 62]⟩ [(⟨#[97]⟩, ⟨#[120]⟩)] #[.string ⟨#[97]⟩, .string ⟨#[120]⟩] (by decide) (by decide) kn2 rfl (by decide) 2 rfl v3 HM.out)
  go_wp2_with fail
  with_reducible refine C.out.mono ?_
  rintro e v4 ⟨rfl, b⟩
  clear C
  replace HB := Lib.hid (next HB.out b)
  replace HM := Lib.hid (HM.out.on b)
  clear b
  have C := Lib.hid (tells_at ⟨#[60, 97, 45, 98, 62, 60, 99, 62]⟩ ⟨#[60, 97, 45, 98, 62, 49]⟩ [(⟨#[99]⟩, ⟨#[49]⟩)] #[.string ⟨#[99]⟩, .string ⟨#[49]⟩] (by decide) (by decide) kn3 rfl (by decide) 2 rfl v4 HM.out)
  go_wp2_with fail
  with_reducible refine C.out.mono ?_
  rintro e v5 ⟨rfl, b⟩
  clear C
  replace HB := Lib.hid (next HB.out b)
  replace HM := Lib.hid (HM.out.on b)
  clear b
  have C := Lib.hid (tells_no ⟨#[60, 60, 62]⟩ ⟨#[]⟩ none 0 0 (by decide) (by decide) kn4 v5 HM.out)
  go_wp2_with fail
  with_reducible refine C.out.mono ?_
  rintro e v6 ⟨rfl, b⟩
  clear C
  replace HB := Lib.hid (next HB.out b)
  replace HM := Lib.hid (HM.out.on b)
  clear b
  have C := Lib.hid (tells_at ⟨#[60, 97, 62, 62]⟩ ⟨#[120, 62]⟩ [(⟨#[97]⟩, ⟨#[120]⟩)] #[.string ⟨#[97]⟩, .string ⟨#[120]⟩] (by decide) (by decide) kn5 rfl (by decide) 2 rfl v6 HM.out)
  go_wp2_with fail
  with_reducible refine C.out.mono ?_
  rintro e v7 ⟨rfl, b⟩
  clear C
  replace HB := Lib.hid (next HB.out b)
  replace HM := Lib.hid (HM.out.on b)
  clear b
  have C := Lib.hid (tells_at ⟨#[120, 60, 95, 62, 121, 60, 97, 62]⟩ ⟨#[120, 49, 121, 50]⟩ [(⟨#[97]⟩, ⟨#[50]⟩)] #[.string ⟨#[97]⟩, .string ⟨#[50]⟩] (by decide) (by decide) kn6 rfl (by decide) 2 rfl v7 HM.out)
  go_wp2_with fail
  with_reducible refine C.out.mono ?_
  rintro e v8 ⟨rfl, b⟩
  clear C
  replace HB := Lib.hid (next HB.out b)
  replace HM := Lib.hid (HM.out.on b)
  clear b
  have C := Lib.hid (tells_nil ⟨#[60, 97, 62, 32]⟩ ⟨#[32]⟩ (by decide) (by decide) kn7 v8 HM.out)
  go_wp2_with fail
  with_reducible refine C.out.mono ?_
  rintro e v9 ⟨rfl, b⟩
  clear C
  replace HB := Lib.hid (next HB.out b)
  replace HM := Lib.hid (HM.out.on b)
  clear b
  have C := Lib.hid (tells_at ⟨#[60, 97, 62, 32, 60, 95, 62]⟩ ⟨#[49, 32, 50, 32, 51]⟩ [(⟨#[97]⟩, ⟨#[49]⟩)] #[.string ⟨#[97]⟩, .string ⟨#[49]⟩] (by decide) (by decide) kn8 rfl (by decide) 2 rfl v9 HM.out)
  go_wp2_with fail
  with_reducible refine C.out.mono ?_
  rintro e v10 ⟨rfl, b⟩
  clear C
  replace HB := Lib.hid (next HB.out b)
  replace HM := Lib.hid (HM.out.on b)
  clear b
  have C := Lib.hid (tells_at n2K ⟨#[118]⟩ [(nmK, ⟨#[118]⟩)] #[.string nmK, .string ⟨#[118]⟩] kn9.1 kn9.2.1 kn9.2.2 rfl (by decide) 2 rfl v10 HM.out)
  go_wp2_with fail
  with_reducible refine C.out.mono ?_
  rintro e v11 ⟨rfl, b⟩
  clear C
  replace HB := Lib.hid (next HB.out b)
  replace HM := Lib.hid (HM.out.on b)
  clear b
  have C := Lib.hid (tells_at ⟨#[60, 98, 62, 44, 60, 97, 62]⟩ ⟨#[49, 44, 50]⟩ [(⟨#[97]⟩, ⟨#[50]⟩), (⟨#[98]⟩, ⟨#[49]⟩)] #[.string ⟨#[97]⟩, .string ⟨#[50]⟩, .string ⟨#[98]⟩, .string ⟨#[49]⟩] (by decide) (by decide) kn10 rfl (by decide) 4 rfl v11 HM.out)
  go_wp2_with fail
  with_reducible refine C.out.mono ?_
  rintro e v12 ⟨rfl, b⟩
  clear C
  replace HB := Lib.hid (next HB.out b)
  replace HM := Lib.hid (HM.out.on b)
  clear b
  have C := Lib.hid (tells_at ⟨#[60, 95, 62, 97, 60, 120, 62, 97, 60, 95, 62]⟩ ⟨#[49, 97, 50, 97, 51, 97, 52]⟩ [(⟨#[120]⟩, ⟨#[50]⟩)] #[.string ⟨#[120]⟩, .string ⟨#[50]⟩] (by decide) (by decide) kn11 rfl (by decide) 2 rfl v12 HM.out)
  go_wp2_with fail
  with_reducible refine C.out.mono ?_
  rintro e v13 ⟨rfl, b⟩
  clear C
  replace HB := Lib.hid (next HB.out b)
  replace HM := Lib.hid (HM.out.on b)
  clear b
  have C := Lib.hid (rep_x v13 HM.out)
  go_wp2_with fail
  with_reducible refine C.out.mono ?_
  rintro e v14 ⟨rfl, b⟩
  clear C
  replace HB := Lib.hid (next HB.out b)
  replace HM := Lib.hid (HM.out.on b)
  clear b
  have C := Lib.hid (tells_at longK yK [(⟨#[97]⟩, ⟨#[121]⟩)] #[.string ⟨#[97]⟩, .string ⟨#[121]⟩] kn12.1 kn12.2.1 kn12.2.2 rfl (by decide) 2 rfl v14 HM.out)
  go_wp2_with fail
  with_reducible refine C.out.mono ?_
  rintro e v15 ⟨rfl, b⟩
  clear C
  replace HB := Lib.hid (next HB.out b)
  replace HM := Lib.hid (HM.out.on b)
  clear b
  go_wp2_with fail
  have hr := Row.made18 v15 #[.string ⟨#[]⟩, .string ⟨#[120]⟩, .string ⟨#[60]⟩, .string ⟨#[60, 62]⟩, .string ⟨#[60, 95, 62]⟩, .string ⟨#[60, 97, 32, 98, 62]⟩, .string ⟨#[60, 95, 62, 32, 60, 95, 62]⟩, .string ⟨#[60, 97, 62, 60, 95, 62]⟩, .string ⟨#[60, 95, 62, 60, 97, 62]⟩, .string ⟨#[60, 97, 62, 120, 60, 98, 62, 120, 60, 97, 62]⟩, .string n3K, .string lxK, .string ⟨#[60, 57, 62]⟩, .string ⟨#[60, 195, 169, 62]⟩] 9
  have hb9 : Below v15.heap.size v15 (v15.alloc (.cells #[.string ⟨#[]⟩, .string ⟨#[120]⟩, .string ⟨#[60]⟩, .string ⟨#[60, 62]⟩, .string ⟨#[60, 95, 62]⟩, .string ⟨#[60, 97, 32, 98, 62]⟩, .string ⟨#[60, 95, 62, 32, 60, 95, 62]⟩, .string ⟨#[60, 97, 62, 60, 95, 62]⟩, .string ⟨#[60, 95, 62, 60, 97, 62]⟩, .string ⟨#[60, 97, 62, 120, 60, 98, 62, 120, 60, 97, 62]⟩, .string n3K, .string lxK, .string ⟨#[60, 57, 62]⟩, .string ⟨#[60, 195, 169, 62]⟩] 9)) := (Below.refl _ v15).alloc (Nat.le_refl _) _
  replace HM := Lib.hid (HM.out.on hb9)
  replace HB := Lib.hid (next HB.out hb9)
  obtain ⟨b0, hb0⟩ : ∃ b0, v15.heap.size = b0 := ⟨_, rfl⟩
  rw [hb0] at hr ⊢
  generalize hu : v15.alloc (.cells #[.string ⟨#[]⟩, .string ⟨#[120]⟩, .string ⟨#[60]⟩, .string ⟨#[60, 62]⟩, .string ⟨#[60, 95, 62]⟩, .string ⟨#[60, 97, 32, 98, 62]⟩, .string ⟨#[60, 95, 62, 32, 60, 95, 62]⟩, .string ⟨#[60, 97, 62, 60, 95, 62]⟩, .string ⟨#[60, 95, 62, 60, 97, 62]⟩, .string ⟨#[60, 97, 62, 120, 60, 98, 62, 120, 60, 97, 62]⟩, .string n3K, .string lxK, .string ⟨#[60, 57, 62]⟩, .string ⟨#[60, 195, 169, 62]⟩] 9) = u at *
  have HR := Lib.hid hr
  clear hr hb9 hb0 hu
  go_loopw [5] (fun p wr => ∃ k : Nat, k ≤ 14 ∧ p = .int .i64 (k : Int) ∧ Hid (Below u.heap.size u wr)) (fun p _ => 14 - (intOf p).toNat)
  case atStart => exact ⟨0, by omega, rfl, Lib.hid (Below.refl _ _)⟩
  case round =>
    obtain ⟨k, hk, rfl, HBw⟩ := hrel
    rename World => wr
    by_cases hlt : k < 14
    · obtain ⟨b, off, hbo, hb1, h1⟩ := HR.out.2 (by show 0 < 14; omega)
      obtain ⟨rfl, rfl⟩ : b = b0 ∧ off = 0 := by cases hbo; exact ⟨rfl, rfl⟩
      have hx0 := bad_all _ (bad_mem hlt)
      obtain ⟨x, hx⟩ : ∃ x, badL.getD k ByteArray.empty = x := ⟨_, rfl⟩
      have a1 : wr.cell? ⟨b, k, none⟩ = some (.string x) := by
        have h2 := (HBw.out.cell (p := ⟨b, 0 + k, none⟩) hb1).trans (h1 k hlt)
        rw [Nat.zero_add] at h2
        rw [h2, ← hx]
        exact bad_get hlt
      rw [hx] at hx0
      have C := Lib.hid (fails_yes x hx0.1 hx0.2 wr (HM.out.on HBw.out))
      have g0 : (0 : Int) ≤ (k : Int) := by omega
      have g1 : (k : Int) < 14 := by omega
      have f1 : decide ((k : Int) < 14) = true := decide_eq_true g1
      have HK := Lib.hid hlt
      clear hbo hb1 h1 hx0 hx
      go_wp2_with fail
      with_reducible refine C.out.mono ?_
      rintro e w2 ⟨rfl, b2⟩
      have HB3 := Lib.hid (next HBw.out b2)
      clear C b2
      go_wp2_with fail
      exact ⟨⟨k + 1, HK.out, by go_num, HB3⟩, by have := HK.out; simp [intOf]; omega⟩
    · obtain rfl : k = 14 := by omega
      have HB3 := Lib.hid (next HB.out HBw.out)
      replace HM := Lib.hid (HM.out.on HBw.out)
      clear HB HBw HR
      go_wp2_with fail
      go_loopw [6, 7] (fun p q v => ∃ k : Nat, k ≤ 2 ∧ q = .int .i64 (k : Int) ∧ (k = 0 ∧ p = .pointer none ∨ 1 ≤ k ∧ ∃ b, p = .pointer (some ⟨b, 0, none⟩) ∧ Hid (CAt v b ByteArray.empty [] ∧ v.cell? ⟨b, 0, none⟩ = some (.string ByteArray.empty) ∧ v.cell? ⟨b, 1, none⟩ = some (.slice none 0 0))) ∧ Hid (Below wr.heap.size wr v)) (fun _ q _ => 2 - (intOf q).toNat)
      case atStart => exact ⟨0, by omega, rfl, .inl ⟨rfl, rfl⟩, Lib.hid (Below.refl _ _)⟩
      case round =>
        obtain ⟨k, hk, rfl, hp, HBw⟩ := hrel
        rename World => v
        by_cases hlt : k < 2
        · have g1 : (k : Int) < 2 := by omega
          have f1 : decide ((k : Int) < 2) = true := decide_eq_true g1
          have HK := Lib.hid hlt
          rcases hp with ⟨rfl, rfl⟩ | ⟨hk1, b, rfl, HC⟩
          · have C := Lib.hid (match_nil ⟨#[]⟩ v)
            go_wp2_with fail
            with_reducible refine C.out.mono ?_
            rintro e v2 ⟨rfl, b2⟩
            have HB4 := Lib.hid (next HBw.out b2)
            clear C b2
            have C := Lib.hid (names_nil v2)
            go_wp2_with fail
            with_reducible refine C.out.mono ?_
            rintro e v3 ⟨rfl, b2⟩
            have HB5 := Lib.hid (next HB4.out b2)
            clear C b2 HB4
            go_wp2_with fail
            refine ⟨⟨_, _, _, _, _, _, _, _, _, _, _, _, _, _, _, _, _, _, _, _, _, _, _, _, _, _, ?_, rfl⟩, ?_⟩
            · exact ⟨1, by omega, rfl, .inr ⟨by omega, _, rfl, Lib.hid (zero_made v3 _)⟩, Lib.hid (next HB5.out ((Below.refl _ v3).alloc (Nat.le_refl _) _))⟩
            · show 2 - (intOf (.int .i64 1)).toNat < 2 - (intOf (.int .i64 ((0 : Nat) : Int))).toNat
              simp [intOf]
          · have C := Lib.hid (match_zero b ⟨#[]⟩ v HC.out.2.1 HC.out.2.2)
            go_wp2_with fail
            with_reducible refine C.out.mono ?_
            rintro e v2 ⟨rfl, b2⟩
            have HB4 := Lib.hid (next HBw.out b2)
            have C := Lib.hid (Names_any b _ _ v2 (HC.out.1.on b2) (Nat.zero_le _))
            clear b2
            go_wp2_with fail
            with_reducible refine C.out.mono ?_
            rintro e v3 ⟨A3, c3, rfl, _, b2⟩
            have HB5 := Lib.hid (next HB4.out b2)
            clear C b2 HB4
            have e0 : (nmsL []).length = 0 := rfl
            rw [e0]
            go_wp2_with fail
            refine ⟨⟨_, _, _, _, _, _, _, _, _, _, _, _, _, _, _, _, _, _, _, _, _, _, _, _, _, _, ?_, rfl⟩, ?_⟩
            · exact ⟨k + 1, HK.out, by go_num, .inr ⟨by omega, _, rfl, Lib.hid (zero_made v3 _)⟩, Lib.hid (next HB5.out ((Below.refl _ v3).alloc (Nat.le_refl _) _))⟩
            · show 2 - (intOf (.int .i64 ((k : Int) + 1))).toNat < 2 - (intOf (.int .i64 (k : Int))).toNat
              have := HK.out
              simp only [intOf]
              omega
        · obtain rfl : k = 2 := by omega
          have HB := Lib.hid (next HB3.out HBw.out)
          replace HM := Lib.hid (HM.out.on HBw.out)
          clear hp HB3 HBw
          go_wp2_with fail
          have C := Lib.hid (works_any v HM.out)
          go_wp2_with fail
          with_reducible refine C.out.mono ?_
          rintro e v51 ⟨rfl, b⟩
          clear C
          replace HB := Lib.hid (next HB.out b)
          replace HM := Lib.hid (HM.out.on b)
          clear b
          have C := Lib.hid (none_any ⟨#[60, 97, 62, 120]⟩ ⟨#[97, 98, 99]⟩ (by decide) (by decide) kz1.1 kz1.2 v51 HM.out)
          go_wp2_with fail
          with_reducible refine C.out.mono ?_
          rintro e v52 ⟨rfl, b⟩
          clear C
          replace HB := Lib.hid (next HB.out b)
          replace HM := Lib.hid (HM.out.on b)
          clear b
          have C := Lib.hid (none_any ⟨#[97, 98, 60, 97, 62]⟩ ⟨#[97]⟩ (by decide) (by decide) kz2.1 kz2.2 v52 HM.out)
          go_wp2_with fail
          with_reducible refine C.out.mono ?_
          rintro e v53 ⟨rfl, b⟩
          clear C
          replace HB := Lib.hid (next HB.out b)
          replace HM := Lib.hid (HM.out.on b)
          clear b
          have C := Lib.hid (none_any ⟨#[60, 97, 62, 120, 60, 98, 62, 121]⟩ ⟨#[49, 121, 50, 120]⟩ (by decide) (by decide) kz3.1 kz3.2 v53 HM.out)
          go_wp2_with fail
          with_reducible refine C.out.mono ?_
          rintro e v54 ⟨rfl, b⟩
          clear C
          replace HB := Lib.hid (next HB.out b)
          replace HM := Lib.hid (HM.out.on b)
          clear b
          go_wp2_with fail
          go_ret
          exact ⟨rfl, HB.out⟩
end Go.Proofs.Ytomjdicedjdpnaa
