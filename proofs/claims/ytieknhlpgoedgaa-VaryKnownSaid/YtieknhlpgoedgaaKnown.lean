/- The law VaryKnown, walked. -/
import Derived.Test.YtieknhlpgoedgaaBad
import Derived.Test.YtieknhlpgoedgaaReadsLaw
import Derived.Test.YtieknhlpgoedgaaWrites
import Derived.Test.YtieknhlpgoedgaaShort
import Derived.Test.YtieknhlpgoedgaaBack
import Derived.Deep.CutRange
import Derived.Deep.LoopGhost
import Derived.Deep.RegionHeld3
namespace Go.Proofs.Ytieknhlpgoedgaa
open Go.RowKit

theorem made_ints (N : Nat) : (madeCells #[.int .u8 0] N).toList = ints .u8 (List.replicate N 0) := by
  apply List.ext_getElem?
  intro i
  simp only [madeCells, ints, List.map_replicate, Array.toList_map, Array.toList_range, List.getElem?_map, List.getElem?_replicate]
  by_cases h : i < N
  · simp [h, Nat.mod_one]
  · simp [h]

def ends : List Int := [-1, 0, 1, 127, 128, 16383, 16384, 9007199254740991, 9007199254740992, 18014398509481982, 18014398509481983, -9007199254740991, -9007199254740992, 4611686018427387904, -9223372036854775808]
theorem ends_wf : ∀ x ∈ ends, (Lit.int .i64 x).wf = true := by decide
theorem ends_len : ends.length = 15 := rfl

theorem Writes_k (z : Int) (s : ByteArray) (A : Option Addr) (l : List Int) (k c : Nat) (w : World) (hz : (Lit.int .i64 z).wf = true) (hs : s.size ≤ 140737488351232) (hr : Row w w.heap.size A k (ints .i64 l)) (hk : k ≤ c) (hc : c ≤ 15) (hu : ∀ x ∈ l, (Lit.int .i64 x).wf = true) :
    Calls Try.prog 3 #[.int .i64 z, .string s, .slice A k c] w fun e w' => e = .returned (.bool true) ∧ Below w.heap.size w w' := by
  obtain rfl : l.length = k := by have := hr.1; rwa [ints_len] at this
  exact Writes_walk z s A l c w hz hs hr hk (by omega) hu
theorem Reads_k (A A' : Option Addr) (l q : List Int) (n n' : Nat) (w : World) (hr : Row w w.heap.size A n (ints .u8 l)) (hr' : Row w w.heap.size A' n' (ints .i64 q)) (hn : n ≤ 15) (hn' : n' ≤ 15) (hu : ∀ x ∈ l, (Lit.int .u8 x).wf = true) (hu' : ∀ x ∈ q, (Lit.int .i64 x).wf = true) :
    Calls Try.prog 4 #[.slice A n n, .slice A' n' n'] w fun e w' => e = .returned (.bool true) ∧ Below w.heap.size w w' := by
  obtain rfl : l.length = n := by have := hr.1; rwa [ints_len] at this
  obtain rfl : q.length = n' := by have := hr'.1; rwa [ints_len] at this
  exact Reads_walk A l _ A' q _ w hr (Nat.le_refl _) (by omega) hu hr' (Nat.le_refl _) (by omega) hu'
theorem Back_k (z : Int) (B : Nat) (w : World) (hz : (Lit.int .i64 z).wf = true) (hr : Row w w.heap.size (some ⟨B, 0, none⟩) 1 (ints .u8 [128])) :
    Calls Try.prog 5 #[.int .i64 z, .string ⟨#[120]⟩, .slice (some ⟨B, 0, none⟩) 1 1] w fun e w' => e = .returned (.bool true) ∧ Below w.heap.size w w' :=
  Back_walk z ⟨#[120]⟩ _ [128] 1 w hz (by decide) hr (by decide) (by decide) (by decide)

theorem size0 : (⟨#[]⟩ : ByteArray).size ≤ 140737488351232 := by show (#[] : Array UInt8).size ≤ _; simp
theorem Writes_e (z : Int) (A : Option Addr) (k : Nat) (w w1 : World) (hz : Hid ((Lit.int .i64 z).wf = true)) (hr : Hid (Row w w.heap.size A k (ints .i64 (ends.take k)))) (hk : k ≤ 15) (he : w1 = w.drew) :
    Calls Try.prog 3 #[.int .i64 z, .string ⟨#[]⟩, .slice A k 15] w1 fun e w' => e = .returned (.bool true) ∧ Below w.heap.size w w' := by
  subst he
  refine (Writes_k z ⟨#[]⟩ A (ends.take k) k 15 w.drew hz.out size0 hr.out hk (Nat.le_refl _) fun x hx => ends_wf x (List.mem_of_mem_take hx)).mono ?_
  rintro e w' ⟨he, h⟩
  exact ⟨he, ⟨h.os, h.tape, h.output, h.size, h.block⟩⟩

theorem Back_e (z : Int) (w : World) (hz : Hid ((Lit.int .i64 z).wf = true)) :
    Calls Try.prog 5 #[.int .i64 z, .string ⟨#[120]⟩, .slice (some ⟨w.heap.size, 0, none⟩) 1 1] (w.alloc (.cells #[.int .u8 128] 5)) fun e w' => e = .returned (.bool true) ∧ Below w.heap.size w w' := by
  refine (Back_k z _ _ hz.out ((Row.lit w .u8 [128] 5).wide (by simp))).mono ?_
  rintro e w' ⟨he, h⟩
  exact ⟨he, nextA (Below.refl _ _) h⟩

theorem wrap_wf (k : IntKind) (n : Int) : (Lit.int k (k.wrap n)).wf = true := by
  cases k <;> simp only [Lit.wf, IntKind.wrap, IntKind.min, IntKind.max, IntKind.signed, IntKind.bits, Bool.and_eq_true, decide_eq_true_eq] <;> (simp; try omega)

/-- The bytes and the questions that the law asks of a reader, in its loop. -/
def asked (a b : Int) : List Int := [IntKind.u8.wrap a, 128, IntKind.u8.wrap b, 255, 255, 255, 255, 255, 255, 255, IntKind.u8.wrap b]
def asks (d : Int) : List Int := [0, IntKind.i64.wrap d, 1, 0]
theorem asked_wf (a b : Int) : ∀ x ∈ asked a b, (Lit.int .u8 x).wf = true := by
  intro x hx
  simp only [asked, List.mem_cons, List.not_mem_nil, or_false] at hx
  rcases hx with rfl | rfl | rfl | rfl | rfl | rfl | rfl | rfl | rfl | rfl | rfl
  all_goals first | exact wrap_wf .u8 _ | decide
theorem asks_wf (d : Int) : ∀ x ∈ asks d, (Lit.int .i64 x).wf = true := by
  intro x hx
  simp only [asks, List.mem_cons, List.not_mem_nil, or_false] at hx
  rcases hx with rfl | rfl | rfl | rfl
  all_goals first | exact wrap_wf .i64 _ | decide
theorem Reads_e1 (a b d : Int) (w : World) :
    Calls Try.prog 4 #[.slice (some ⟨w.heap.size, 0, none⟩) 11 11, .slice (some ⟨w.heap.size + 1, 0, none⟩) 4 4]
      ((w.alloc (.cells #[.int .u8 (IntKind.u8.wrap a), .int .u8 128, .int .u8 (IntKind.u8.wrap b), .int .u8 255, .int .u8 255, .int .u8 255, .int .u8 255, .int .u8 255, .int .u8 255, .int .u8 255, .int .u8 (IntKind.u8.wrap b)] 5)).alloc
        (.cells #[.int .i64 0, .int .i64 (IntKind.i64.wrap d), .int .i64 1, .int .i64 0] 3))
      fun e w' => e = .returned (.bool true) ∧ Below w.heap.size w w' := by
  have h1 := (Row.lit w .u8 (asked a b) 5).wide (B' := (w.alloc (.cells (ints .u8 (asked a b)).toArray 5)).heap.size) (by simp)
  have h2 := (Row.lit (w.alloc (.cells (ints .u8 (asked a b)).toArray 5)) .i64 (asks d) 3).wide (B' := ((w.alloc (.cells (ints .u8 (asked a b)).toArray 5)).alloc (.cells (ints .i64 (asks d)).toArray 3)).heap.size) (by simp)
  have h3 := ((h1.alloc (Nat.le_refl _) (.cells (ints .i64 (asks d)).toArray 3)).wide (B' := ((w.alloc (.cells (ints .u8 (asked a b)).toArray 5)).alloc (.cells (ints .i64 (asks d)).toArray 3)).heap.size) (by simp))
  rw [show (w.alloc (.cells (ints .u8 (asked a b)).toArray 5)).heap.size = w.heap.size + 1 by simp] at h2
  refine (Reads_k _ _ (asked a b) (asks d) 11 4 _ h3 h2 (by decide) (by decide) (asked_wf a b) (asks_wf d)).mono ?_
  rintro e w' ⟨he, h⟩
  have hb1 := (Below.refl w.heap.size w).alloc (Nat.le_refl _) (.cells (ints .u8 (asked a b)).toArray 5)
  have hb2 := hb1.alloc hb1.size (.cells (ints .i64 (asks d)).toArray 3)
  exact ⟨he, hb2.trans (h.mono hb2.size)⟩
theorem Reads_e2 (a b d : Int) (w : World) :
    Calls Try.prog 4 #[.slice (some ⟨w.heap.size + 1, 0, none⟩) 11 11, .slice (some ⟨w.heap.size, 0, none⟩) 4 4]
      ((w.alloc (.cells #[.int .i64 0, .int .i64 (IntKind.i64.wrap d), .int .i64 1, .int .i64 0] 3)).alloc
        (.cells #[.int .u8 (IntKind.u8.wrap a), .int .u8 128, .int .u8 (IntKind.u8.wrap b), .int .u8 255, .int .u8 255, .int .u8 255, .int .u8 255, .int .u8 255, .int .u8 255, .int .u8 255, .int .u8 (IntKind.u8.wrap b)] 5))
      fun e w' => e = .returned (.bool true) ∧ Below w.heap.size w w' := by
  have h1 := (Row.lit w .i64 (asks d) 3).wide (B' := (w.alloc (.cells (ints .i64 (asks d)).toArray 3)).heap.size) (by simp)
  have h2 := (Row.lit (w.alloc (.cells (ints .i64 (asks d)).toArray 3)) .u8 (asked a b) 5).wide (B' := ((w.alloc (.cells (ints .i64 (asks d)).toArray 3)).alloc (.cells (ints .u8 (asked a b)).toArray 5)).heap.size) (by simp)
  have h3 := ((h1.alloc (Nat.le_refl _) (.cells (ints .u8 (asked a b)).toArray 5)).wide (B' := ((w.alloc (.cells (ints .i64 (asks d)).toArray 3)).alloc (.cells (ints .u8 (asked a b)).toArray 5)).heap.size) (by simp))
  rw [show (w.alloc (.cells (ints .i64 (asks d)).toArray 3)).heap.size = w.heap.size + 1 by simp] at h2
  refine (Reads_k _ _ (asked a b) (asks d) 11 4 _ h2 h3 (by decide) (by decide) (asked_wf a b) (asks_wf d)).mono ?_
  rintro e w' ⟨he, h⟩
  have hb1 := (Below.refl w.heap.size w).alloc (Nat.le_refl _) (.cells (ints .i64 (asks d)).toArray 3)
  have hb2 := hb1.alloc hb1.size (.cells (ints .u8 (asked a b)).toArray 5)
  exact ⟨he, hb2.trans (h.mono hb2.size)⟩

theorem Reads_lit (l q : List Int) (w : World) (hl : l.length ≤ 15) (hq : q.length ≤ 15) (hu : ∀ x ∈ l, (Lit.int .u8 x).wf = true) (hu' : ∀ x ∈ q, (Lit.int .i64 x).wf = true) :
    Calls Try.prog 4 #[.slice (some ⟨w.heap.size, 0, none⟩) l.length l.length, .slice (some ⟨w.heap.size + 1, 0, none⟩) q.length q.length]
      ((w.alloc (.cells (ints .u8 l).toArray 5)).alloc (.cells (ints .i64 q).toArray 3))
      fun e w' => e = .returned (.bool true) ∧ Below w.heap.size w w' := by
  have h1 := (Row.lit w .u8 l 5).wide (B' := (w.alloc (.cells (ints .u8 l).toArray 5)).heap.size) (by simp)
  have h2 := (Row.lit (w.alloc (.cells (ints .u8 l).toArray 5)) .i64 q 3).wide (B' := ((w.alloc (.cells (ints .u8 l).toArray 5)).alloc (.cells (ints .i64 q).toArray 3)).heap.size) (by simp)
  have h3 := ((h1.alloc (Nat.le_refl _) (.cells (ints .i64 q).toArray 3)).wide (B' := ((w.alloc (.cells (ints .u8 l).toArray 5)).alloc (.cells (ints .i64 q).toArray 3)).heap.size) (by simp))
  rw [show (w.alloc (.cells (ints .u8 l).toArray 5)).heap.size = w.heap.size + 1 by simp] at h2
  refine (Reads_k _ _ l q _ _ _ h3 h2 hl hq hu hu').mono ?_
  rintro e w' ⟨he, h⟩
  have hb1 := (Below.refl w.heap.size w).alloc (Nat.le_refl _) (.cells (ints .u8 l).toArray 5)
  have hb2 := hb1.alloc hb1.size (.cells (ints .i64 q).toArray 3)
  exact ⟨he, hb2.trans (h.mono hb2.size)⟩
theorem Reads_nil (q : List Int) (w : World) (hq : q.length ≤ 15) (hu' : ∀ x ∈ q, (Lit.int .i64 x).wf = true) :
    Calls Try.prog 4 #[.slice none 0 0, .slice (some ⟨w.heap.size, 0, none⟩) q.length q.length]
      (w.alloc (.cells (ints .i64 q).toArray 3))
      fun e w' => e = .returned (.bool true) ∧ Below w.heap.size w w' := by
  have h1 := (Row.lit w .i64 q 3).wide (B' := (w.alloc (.cells (ints .i64 q).toArray 3)).heap.size) (by simp)
  refine (Reads_k none _ [] q 0 _ _ (Row.zero _ _ _) h1 (by decide) hq (by simp) hu').mono ?_
  rintro e w' ⟨he, h⟩
  exact ⟨he, nextA (Below.refl _ _) h⟩

set_option maxRecDepth 100000 in
set_option maxHeartbeats 4000000 in
theorem Known_any (w : World) : Calls Try.prog 8 #[] w fun e w' => e = .returned (.bool true) ∧ Below w.heap.size w w' := by
  obtain ⟨i0, hi, hz0, hz1, hz2⟩ := info_parts u8_info
  go_enter Try.func8, Try.ntmps8
  go_wp2
  go_loopg [1, 2] 2 (fun g p i wr => ∃ (k : Nat) (q : Option Addr), k ≤ 2 ∧ g = 2 - k ∧ i = .int .i64 k ∧ p = .pointer q ∧ Bad wr q ∧ Below w.heap.size w wr)
  case atStart => exact ⟨0, none, by omega, rfl, rfl, rfl, .inl rfl, Below.refl _ _⟩
  case round =>
    obtain ⟨k, q, hk, rfl, rfl, rfl, hq, hb⟩ := hrel
    by_cases hlt : k < 2
    · go_wp2_with fail
      refine (U_bad q _ hq).mono ?_
      rintro e w' ⟨rfl, rfl⟩
      go_wp2_with fail
      refine (S_bad q _ hq).mono ?_
      rintro e w' ⟨rfl, rfl⟩
      go_wp2_with fail
      refine (Text_bad q _ _ hq).mono ?_
      rintro e w' ⟨rfl, rfl⟩
      go_wp2_with fail
      refine (Err_bad q _ hq).mono ?_
      rintro e w' ⟨rfl, rfl⟩
      go_wp2_with fail
      refine (Left_bad q _ hq).mono ?_
      rintro e w' ⟨rfl, rfl⟩
      go_wp2
      go_roundg (2 - (k + 1))
      case measure => omega
      case rel => exact ⟨k + 1, _, by omega, rfl, by go_num, rfl, Bad.made _, hb.alloc hb.size _⟩
    · clear hq
      go_wp2_with fail
      clear hk hlt
      obtain ⟨wE, hwE, hE, hbE, hb0⟩ : ∃ x, x = wr.alloc (.cells (ints .i64 ends).toArray 3) ∧ Row x x.heap.size (some ⟨wr.heap.size, 0, none⟩) 15 (ints .i64 ends) ∧ Below w.heap.size w x ∧ wr.heap.size < x.heap.size :=
        ⟨_, rfl, (Row.lit wr .i64 ends 3).wide (by simp), hb.alloc hb.size _, by simp⟩
      change Code.wp _ _ _ _ (wr.alloc (.cells (ints .i64 ends).toArray 3))
      rw [← hwE]
      generalize wr.heap.size = b0 at hE hb0 ⊢
      clear hwE hb
      go_loopg [4] 15 (fun g i wr => ∃ k : Nat, k ≤ 15 ∧ g = 15 - k ∧ i = .int .i64 k ∧ Below wE.heap.size wE wr)
      case atStart => exact ⟨0, by omega, rfl, rfl, Below.refl _ _⟩
      case round =>
        obtain ⟨k, hk, rfl, rfl, hb2⟩ := hrel
        by_cases hlt : k < 15
        · have hkz : (k : Int) < 15 := by omega
          have hr2 := hE.below hb2
          obtain ⟨z, hzc, _, _, hzm⟩ := ints_at .i64 ends k (by rw [ends_len]; omega)
          have hzw := ends_wf z hzm
          have hk0 : (0 : Int) ≤ (k : Int) := by omega
          have hcell : wr.cell? ⟨b0, k, none⟩ = some (.int .i64 z) := by simpa using (hr2.cell (j := k) hlt).trans hzc
          have hrt := (hE.on hb2).take (k := k) hk
          have HZ := Lib.hid hzw
          have HT := Lib.hid hrt
          have hb3 : b0 < wr.heap.size := Nat.lt_of_lt_of_le hb0 hb2.size
          clear hzc hzm hzw hrt
          go_upto_region 12 with fail
          go_cut [60] from 37 to 91 (fun s60 wx => s60 = .bool false ∧ Below wr.heap.size wr wx)
          case first =>
            go_region_with (first
              | (go_at_call 3
                 refine (Writes_e z _ k wr _ HZ HT hk rfl).mono ?_
                 rintro e w4 ⟨rfl, h4⟩
                 have hcell4 : w4.cell? ⟨b0, k, none⟩ = some (.int .i64 z) := (h4.cell hb3).trans hcell
                 have hb4 : b0 < w4.heap.size := Nat.lt_of_lt_of_le hb3 h4.size)
              | (go_at_call 5
                 refine (Back_e z w4 HZ).mono ?_
                 rintro e w5 ⟨rfl, h5⟩))
            all_goals
              go_wp2_with fail
              go_meet
              exact ⟨rfl, next h4 h5⟩
          case rest =>
            obtain ⟨rfl, hbc⟩ := hcut
            have hb5 : b0 < wc.heap.size := Nat.lt_of_lt_of_le hb3 hbc.size
            have hcell5 := (hbc.cell hb3).trans hcell
            have HR5 := Lib.hid (hr2.below (hbc.mono hb2.size))
            have HB5 := Lib.hid (next hb2 hbc)
            clear HT hr2 hbc hb2 hb3 hcell
            generalize hwx : wc = wd at *
            go_wp2_with fail
            go_loopg [5] 15 (fun g i wr => ∃ m : Nat, m ≤ 15 ∧ g = 15 - m ∧ i = .int .i64 m ∧ Below wd.heap.size wd wr)
            case atStart => exact ⟨0, by omega, rfl, rfl, Below.refl _ _⟩
            case round =>
              obtain ⟨m, hm, rfl, rfl, hb6⟩ := hrel
              by_cases hmt : m < 15
              · have hmz : (m : Int) < 15 := by omega
                have hm0 : (0 : Int) ≤ (m : Int) := by omega
                have hr6 := HR5.out.below (hb6.mono (by have := HB5.out.size; omega))
                obtain ⟨y, hyc, _, _, hym⟩ := ints_at .i64 ends m hmt
                have hcellm : wr.cell? ⟨b0, m, none⟩ = some (.int .i64 y) := by simpa using (hr6.cell (j := m) hmt).trans hyc
                have hcellk := (hb6.cell hb5).trans hcell5
                have HY := Lib.hid (ends_wf y hym)
                clear hyc hym hr6
                go_upto_region 17 with fail
                go_cut [91] from 61 to 91 (fun s91 wx => s91 = .bool false ∧ Below wr.heap.size wr wx)
                case first =>
                  have hb8 : b0 < wr.heap.size := Nat.lt_of_lt_of_le hb5 hb6.size
                  have hS0 : wr.cell? ⟨b0, k, none⟩ = some (.int .i64 z) ∧ wr.cell? ⟨b0, m, none⟩ = some (.int .i64 y) := ⟨hcellk, hcellm⟩
                  clear hcellk hcellm hcell5
                  go_region_held3 (fun w' => w'.cell? ⟨b0, k, none⟩ = some (.int .i64 z) ∧ w'.cell? ⟨b0, m, none⟩ = some (.int .i64 y))
                    (first | exact hS0 | exact hS4 | exact hS4a _ | exact hS4b _ _ | exact hS8 | go_keep)
                    ((first
                      | (go_at_call 7
                         refine (Short_walk z y _ HZ.out HY.out).mono ?_
                         rintro e w4 ⟨rfl, h4⟩
                         have hb7 : Below wr.heap.size wr w4 := ⟨h4.os, h4.tape, h4.output, h4.size, h4.block⟩
                         have hb9 : b0 < w4.heap.size := Nat.lt_of_lt_of_le hb8 hb7.size
                         have hS4 : w4.cell? ⟨b0, k, none⟩ = some (.int .i64 z) ∧ w4.cell? ⟨b0, m, none⟩ = some (.int .i64 y) := ⟨(hb7.cell hb8).trans hS0.1, (hb7.cell hb8).trans hS0.2⟩
                         have hS4a : ∀ o, (w4.alloc o).cell? ⟨b0, k, none⟩ = some (.int .i64 z) ∧ (w4.alloc o).cell? ⟨b0, m, none⟩ = some (.int .i64 y) := fun o => ⟨(World.cell?_alloc_lt w4 o _ hb9).trans hS4.1, (World.cell?_alloc_lt w4 o _ hb9).trans hS4.2⟩
                         have hS4b : ∀ o o', ((w4.alloc o).alloc o').cell? ⟨b0, k, none⟩ = some (.int .i64 z) ∧ ((w4.alloc o).alloc o').cell? ⟨b0, m, none⟩ = some (.int .i64 y) := fun o o' => ⟨(World.cell?_alloc_lt (w4.alloc o) o' _ (by simp; omega)).trans (hS4a o).1, (World.cell?_alloc_lt (w4.alloc o) o' _ (by simp; omega)).trans (hS4a o).2⟩)
                      | (go_at_call 4
                         (first | with_reducible refine (Reads_e1 k m (IntKind.i64.wrap (3 * m) + 2) w4).mono ?_ | with_reducible refine (Reads_e2 k m (IntKind.i64.wrap (3 * m) + 2) w4).mono ?_)
                         rintro e w8 ⟨rfl, h8⟩
                         have hS8 : w8.cell? ⟨b0, k, none⟩ = some (.int .i64 z) ∧ w8.cell? ⟨b0, m, none⟩ = some (.int .i64 y) := ⟨(h8.cell hb9).trans hS4.1, (h8.cell hb9).trans hS4.2⟩)))
                  all_goals
                    go_wp2_with fail
                    go_meet
                    exact ⟨rfl, next hb7 h8⟩
                case rest =>
                  obtain ⟨rfl, hbd⟩ := hcut
                  go_wp2_with fail
                  go_roundg (15 - (m + 1))
                  case measure => omega
                  case rel => exact ⟨m + 1, by omega, rfl, by go_num, next hb6 hbd⟩
              · go_wp2_with fail
                go_roundg (15 - (k + 1))
                case measure => omega
                case rel => exact ⟨k + 1, by omega, rfl, by go_num, next HB5.out hb6⟩
        · obtain ⟨N, hN⟩ : ∃ N : Nat, N = 65536 := ⟨_, rfl⟩
          have HNz : Hid ((65536 : Int) = (N : Int)) := Lib.hid (by omega)
          have HN := Lib.hid hN
          have HBw := Lib.hid (next hbE hb2)
          clear hN hE hb0 hb2 hbE
          go_wp2_with (refine wpList_make_full _ rfl (.const (.int .i64 65536)) (.const (.int .i64 65536)) 23 rfl w.heap.size 5 i0 (.int .u8 0) 1 Try.underlying23 hi hz0 hz1 .i64 .i64 65536 65536 N rfl rfl HNz.out HNz.out (by rw [hz2, HN.out]; decide) (by rw [HN.out]; decide) HBw.out.size ?_)
          intro w6 hown hg6
          clear hlt hk
          rw [made_ints] at hown
          have hrow := Row.own hown
          have HB6 : Hid (Below w.heap.size w w6) := Lib.hid (HBw.out.grown hg6 HBw.out.size (by simp))
          clear hown hg6 HBw
          have hcv := conv_row (P := Try.prog) hrow 23 9 5 Try.underlying23 Try.underlying5 Try.underlying9 N
          have hsz : (strOfNums (List.replicate N 0)).size = N := by rw [strOfNums_size, List.length_replicate]
          generalize strOfNums (List.replicate N 0) = S at *
          have hS1 : (1 : Int) ≤ (S.size : Int) := by have := HN.out; omega
          have HS : Hid (S.size = 65536) := Lib.hid (hsz.trans HN.out)
          clear hrow hsz
          have hS2 : S.size ≤ 140737488351232 := by rw [HS.out]; decide
          have HS2 := Lib.hid hS2
          clear hS2
          go_wp2_with fail
          refine (awake_any _).mono ?_
          rintro e w7 ⟨rfl, h7⟩
          have HB7 : Hid (Below w.heap.size w w7) := Lib.hid (next HB6.out h7)
          clear hcv h7 HB6
          go_wp2_with fail
          refine (Writes_k 0 S none [] 0 0 w7 (by decide) HS2.out (Row.zero _ _ _) (Nat.le_refl _) (by decide) (by simp)).mono ?_
          rintro e w8 ⟨rfl, h8⟩
          have HB8 : Hid (Below w.heap.size w w8) := Lib.hid (next HB7.out h8)
          clear h8 HB7
          go_wp2_with fail
          refine (Writes_k 0 (S.extract 1 S.size) none [] 0 0 w8 (by decide) (by have := HS2.out; simp [ByteArray.size_extract]; omega) (Row.zero _ _ _) (Nat.le_refl _) (by decide) (by simp)).mono ?_
          rintro e w9 ⟨rfl, h9⟩
          have HB9 : Hid (Below w.heap.size w w9) := Lib.hid (next HB8.out h9)
          clear h9 HB8
          go_wp2_with fail
          refine (Reads_lit [3, 65, 66] [8] w9 (by decide) (by decide) (by decide) (by decide)).mono ?_
          rintro e w10 ⟨rfl, h10⟩
          have HB10 : Hid (Below w.heap.size w w10) := Lib.hid (next HB9.out h10)
          clear h10 HB9
          go_wp2_with fail
          refine (Reads_lit [3, 65, 66, 67] [11, 0] w10 (by decide) (by decide) (by decide) (by decide)).mono ?_
          rintro e w11 ⟨rfl, h11⟩
          have HB11 : Hid (Below w.heap.size w w11) := Lib.hid (next HB10.out h11)
          clear h11 HB10
          go_wp2_with fail
          refine (Reads_nil [-1] w11 (by decide) (by decide)).mono ?_
          rintro e w12 ⟨rfl, h12⟩
          have hbz : Below w.heap.size w w12 := next HB11.out h12
          clear h12 HB11
          go_wp2
          go_ret
          exact ⟨rfl, hbz⟩

theorem Known_walk (w : World) : Calls Try.prog 8 #[] w fun e w' => e = .returned (.bool true) ∧ Below w.heap.size w w' := Known_any w
end Go.Proofs.Ytieknhlpgoedgaa
