/- The document's own reader. -/
import Derived.Test.YtieknhlpgoedgaaRefU
namespace Go.Proofs.Ytieknhlpgoedgaa
open Go.RowKit

/-- The document's own reader: its block, what is left, the error. -/
def Rm (w : World) (g L B : Nat) (l : List Int) (x : Int) : Prop :=
  ∃ A c, Blk w g 45 [.slice A l.length c, .int .i64 x] ∧ Row w B A l.length (ints .u8 l) ∧ (∀ a, A = some a → a.block ≠ g ∧ L ≤ a.block) ∧ l.length ≤ 150000000000000 ∧ l.length ≤ c ∧ B ≤ w.heap.size ∧ ∀ x ∈ l, 0 ≤ x ∧ x ≤ 255

/-- What the document's own reader holds behind a reading. -/
def rest (l : List Int) (x : Int) (l' : List Int) : List Int := if x = 0 then l' else l

def RmPost (g L B : Nat) (w : World) (v : Int) (l : List Int) (x : Int) (e : Ending) (w' : World) : Prop :=
  e = .returned (.int .i64 v) ∧ Rm w' g L B l x ∧ Only g w w'

theorem Rm.err {w : World} {g L B : Nat} {l : List Int} {x y : Int} (h : Rm w g L B l x) : Rm (w.setCell ⟨g, 1, none⟩ (.int .i64 y)) g L B l y := by
  obtain ⟨A, c, hblk, hrow, hne, h1, h2, h3, h4⟩ := h
  exact ⟨A, c, hblk.put 1 _, hrow.only ((Only.refl g w).put 1 _) h3 (fun b off e => (hne _ e).1), hne, h1, h2, by simpa [World.setCell] using h3, h4⟩

theorem Rm.drop {w : World} {g L B c k : Nat} {l : List Int} {A : Option Addr} {x : Int} (hblk : Blk w g 45 [.slice A l.length c, .int .i64 x]) (hrow : Row w B A l.length (ints .u8 l))
    (hne : ∀ a, A = some a → a.block ≠ g ∧ L ≤ a.block) (hl : l.length ≤ 150000000000000) (hB : B ≤ w.heap.size) (hu : ∀ x ∈ l, 0 ≤ x ∧ x ≤ 255) (hk : k ≤ l.length) (hlc : l.length ≤ c)
    (A' : Option Addr) (c' : Nat) (hc' : c' = c - k) (hA : A' = A ∧ c = k ∨ A' = A.map (·.add k)) :
    Rm (w.setCell ⟨g, 0, none⟩ (.slice A' (l.length - k) c')) g L B (l.drop k) x := by
  have hlen : (l.drop k).length = l.length - k := List.length_drop
  refine ⟨A', c', ?_, ?_, ?_, by omega, by omega, by simpa [World.setCell] using hB, fun x hx => hu x (List.mem_of_mem_drop hx)⟩
  · rw [hlen]; exact hblk.put 0 _
  · rw [hlen, ← ints_drop]
    have h1 := hrow.only ((Only.refl g w).put 0 (.slice A' (l.length - k) c')) hB (fun b off e => (hne _ e).1)
    refine h1.cut (c := l.length) (by omega) (Nat.le_refl _) A' ?_
    intro b off e hkl
    rcases hA with ⟨h2, h3⟩ | h2
    · omega
    · rw [h2, e]
      simp only [Option.map_some, Option.some.injEq]
      unfold Addr.add
      split <;> simp_all
  · intro a e
    rcases hA with ⟨h2, _⟩ | h2
    · exact hne a (by rw [← h2, e])
    · rw [h2] at e
      rcases A with _ | a0
      · cases e
      · injection e with e
        rw [← e, add_block]
        exact hne a0 rfl

theorem MU_err (g L B : Nat) (l : List Int) (x : Int) (w : World) (h : Rm w g L B l x) (hx : x ≠ 0) :
    Calls Try.prog 26 #[.pointer (some ⟨g, 0, none⟩)] w fun e w' => e = .returned (.int .i64 0) ∧ w = w' := by
  obtain ⟨A, c, hblk, _⟩ := h
  have c1 : w.cell? ⟨g, 1, none⟩ = some (.int .i64 x) := hblk.cell 1
  have hd : (x != 0) = true := by simp [hx]
  go_enter Try.func26, Try.ntmps26
  go_wp2
  go_ret
  exact ⟨rfl, rfl⟩

theorem MLeft (g L B : Nat) (l : List Int) (x : Int) (w : World) (h : Rm w g L B l x) :
    Calls Try.prog 33 #[.pointer (some ⟨g, 0, none⟩)] w fun e w' => e = .returned (.int .i64 (if x = 0 then (l.length : Int) else 0)) ∧ w = w' := by
  obtain ⟨A, c, hblk, _⟩ := h
  have c0 : w.cell? ⟨g, 0, none⟩ = some (.slice A l.length c) := hblk.cell 0
  have c1 : w.cell? ⟨g, 1, none⟩ = some (.int .i64 x) := hblk.cell 1
  by_cases hx : x = 0
  · subst hx
    go_enter Try.func33, Try.ntmps33
    go_wp2
    go_ret
    exact ⟨rfl, rfl⟩
  · rw [if_neg hx]
    have hd : (x != 0) = true := by simp [hx]
    clear hx
    go_enter Try.func33, Try.ntmps33
    go_wp2
    go_ret
    exact ⟨rfl, rfl⟩

set_option maxRecDepth 100000 in
set_option maxHeartbeats 1000000 in
theorem MU_long (g L B : Nat) (l : List Int) (w : World) (h : Rm w g L B l 0) (h8 : 8 ≤ l.length) (hall : ∀ x ∈ l.take 8, 128 ≤ x) :
    Calls Try.prog 26 #[.pointer (some ⟨g, 0, none⟩)] w (RmPost g L B w 0 l 4) := by
  have hrm := h
  obtain ⟨A, c, hblk, hrow, hne, hl, hlc, hB, hu⟩ := h
  have c0 : w.cell? ⟨g, 0, none⟩ = some (.slice A l.length c) := hblk.cell 0
  have c1 : w.cell? ⟨g, 1, none⟩ = some (.int .i64 0) := hblk.cell 1
  have f1 := hblk.frozen 1
  obtain ⟨b, off, rfl, _, hc⟩ := hrow.2 (by omega)
  have HC := Lib.hid hc
  have HALL := Lib.hid hall
  have HRM := Lib.hid hrm
  clear hc hall hrm hblk hne hu
  go_enter Try.func26, Try.ntmps26
  go_wp2
  go_loop [3] (fun i => ∃ k : Nat, k ≤ 8 ∧ i = .int .i64 k) (fun i => 8 - (intOf i).toNat)
  case atStart => exact ⟨0, by omega, rfl⟩
  case round =>
    obtain ⟨k, hk, rfl⟩ := hrel
    by_cases hlt : k < 8
    · have hkl : k < l.length := by omega
      obtain ⟨y, hyc, hyl, _, _⟩ := ints_at .u8 l k (by omega)
      have ck : w.cell? ⟨b, off + k, none⟩ = some (.int .u8 y) := (HC.out k (by omega)).trans hyc
      have hy : 128 ≤ y := HALL.out y (by rw [List.mem_take_iff_getElem]; exact ⟨k, by omega, by have := (List.getElem?_eq_some_iff.1 hyl).2; exact this⟩)
      clear hyc hyl
      go_wp2
      go_round
      case rel => exact ⟨k + 1, by omega, by go_num⟩
      case measure => simp [intOf]; omega
    · obtain rfl : k = 8 := by omega
      by_cases hl8 : l.length = 8
      case' pos => have d1 : decide ((8 : Int) < (l.length : Int)) = false := by simp; omega
      case' neg => have d1 : decide ((8 : Int) < (l.length : Int)) = true := by simp; omega
      all_goals
        clear hl8
        go_wp2
        go_ret
        exact ⟨rfl, HRM.out.err, (Only.refl _ _).put _ _⟩

set_option maxRecDepth 100000 in
set_option maxHeartbeats 1000000 in
theorem MU_short (g L B : Nat) (l : List Int) (w : World) (h : Rm w g L B l 0) (h8 : l.length < 8) (hall : ∀ x ∈ l, 128 ≤ x) :
    Calls Try.prog 26 #[.pointer (some ⟨g, 0, none⟩)] w (RmPost g L B w 0 l 3) := by
  have hrm := h
  obtain ⟨A, c, hblk, hrow, hne, hl, hlc, hB, hu⟩ := h
  have c0 : w.cell? ⟨g, 0, none⟩ = some (.slice A l.length c) := hblk.cell 0
  have c1 : w.cell? ⟨g, 1, none⟩ = some (.int .i64 0) := hblk.cell 1
  have f1 := hblk.frozen 1
  have HR := Lib.hid hrow
  have HALL := Lib.hid hall
  have HRM := Lib.hid hrm
  clear hrow hall hrm hblk hne hu
  go_enter Try.func26, Try.ntmps26
  go_wp2
  go_loop [3] (fun i => ∃ k : Nat, k ≤ l.length ∧ i = .int .i64 k) (fun i => l.length - (intOf i).toNat)
  case atStart => exact ⟨0, by omega, rfl⟩
  case round =>
    obtain ⟨k, hk, rfl⟩ := hrel
    by_cases hlt : k < l.length
    · have hk8 : k < 8 := by omega
      obtain ⟨b, off, rfl, _, hc⟩ := HR.out.2 (by omega)
      obtain ⟨y, hyc, hyl, _, hym⟩ := ints_at .u8 l k (by omega)
      have ck : w.cell? ⟨b, off + k, none⟩ = some (.int .u8 y) := (hc k (by omega)).trans hyc
      have hy : 128 ≤ y := HALL.out y hym
      clear hyc hyl hc
      go_wp2
      go_round
      case rel => exact ⟨k + 1, by omega, by go_num⟩
      case measure => simp [intOf]; omega
    · have hkl : k = l.length := by omega
      have e1 : ((k : Int) == 8) = false := by simp; omega
      have e2 : ((k : Int) == (l.length : Int)) = true := by simp; omega
      clear hkl
      go_wp2
      go_ret
      exact ⟨rfl, HRM.out.err, (Only.refl _ _).put _ _⟩

set_option maxRecDepth 100000 in
set_option maxHeartbeats 1000000 in
theorem MU_zero (g L B : Nat) (l : List Int) (w : World) (h : Rm w g L B l 0) (i : Nat) (z : Int) (hz : l[i]? = some z) (h8 : i < 8) (h128 : z < 128) (hall : ∀ x ∈ l.take i, 128 ≤ x) (h0 : 0 < i) (hz0 : z = 0) :
    Calls Try.prog 26 #[.pointer (some ⟨g, 0, none⟩)] w (RmPost g L B w 0 l 4) := by
  have hrm := h
  obtain ⟨A, c, hblk, hrow, hne, hl, hlc, hB, hu⟩ := h
  have c0 : w.cell? ⟨g, 0, none⟩ = some (.slice A l.length c) := hblk.cell 0
  have c1 : w.cell? ⟨g, 1, none⟩ = some (.int .i64 0) := hblk.cell 1
  have f0 := hblk.frozen 0
  have f1 := hblk.frozen 1
  have hil : i < l.length := (List.getElem?_eq_some_iff.1 hz).1
  have hzb := hu z (List.mem_of_getElem? hz)
  obtain ⟨b, off, rfl, _, hc⟩ := hrow.2 (by omega)
  have ci : w.cell? ⟨b, off + i, none⟩ = some (.int .u8 z) := (hc i hil).trans (by simp [ints, hz])
  have hlen : (l.take (i + 1)).length = i + 1 := by rw [List.length_take]; omega
  have HC := Lib.hid hc
  have HALL := Lib.hid hall
  have HRM := Lib.hid hrm
  have HR := Lib.hid hrow
  have HB := Lib.hid hblk
  have HN := Lib.hid hne
  have HU := Lib.hid hu
  have HLEN := Lib.hid hlen
  generalize hval : val (l.take (i + 1)) = V
  have HVAL := Lib.hid hval
  have dz : (z == 0) = true := by simpa using hz0
  clear hval hz0
  clear hc hall hrm hrow hblk hne hu hz hlen
  go_enter Try.func26, Try.ntmps26
  go_wp2
  go_loop [3] (fun j => ∃ k : Nat, k ≤ i ∧ j = .int .i64 k) (fun j => i - (intOf j).toNat)
  case atStart => exact ⟨0, by omega, rfl⟩
  case round =>
    obtain ⟨k, hk, rfl⟩ := hrel
    by_cases hlt : k < i
    · have hkl : k < l.length := by omega
      have hk8 : k < 8 := by omega
      obtain ⟨y, hyc, hyl, _, _⟩ := ints_at .u8 l k (by omega)
      have ck : w.cell? ⟨b, off + k, none⟩ = some (.int .u8 y) := (HC.out k (by omega)).trans hyc
      have hy : 128 ≤ y := HALL.out y (by rw [List.mem_take_iff_getElem]; exact ⟨k, by omega, by have := (List.getElem?_eq_some_iff.1 hyl).2; exact this⟩)
      clear hyc hyl
      go_wp2
      go_round
      case rel => exact ⟨k + 1, by omega, by go_num⟩
      case measure => simp [intOf]; omega
    · obtain rfl : k = i := by omega
      have e1 : ((k : Int) == 8) = false := by simp; omega
      have e2 : ((k : Int) == (l.length : Int)) = false := by simp; omega
      go_wp2
      clear e1 e2
      go_loop [4, 5] (fun n j => ∃ q : Nat, q ≤ k + 1 ∧ j = .int .i64 ((q : Int) - 1) ∧ n = .int .i64 (val ((l.take (k + 1)).drop q))) (fun _ j => (intOf j + 1).toNat)
      case atStart => exact ⟨k + 1, by omega, by go_num, by rw [List.drop_of_length_le (by rw [HLEN.out]; omega)]; rfl⟩
      case round =>
        obtain ⟨q, hq, rfl, rfl⟩ := hrel
        by_cases hq0 : 0 < q
        · obtain ⟨p, rfl⟩ : ∃ p, q = p + 1 := ⟨q - 1, by omega⟩
          have ep : (((p + 1 : Nat) : Int) - 1) = (p : Int) := by omega
          rw [ep]
          obtain ⟨y, hyc, hyl, _, hym⟩ := ints_at .u8 l p (by omega)
          have cp : w.cell? ⟨b, off + p, none⟩ = some (.int .u8 y) := (HC.out p (by omega)).trans hyc
          obtain ⟨hy0, hy1⟩ := HU.out y hym
          have hpl : p < l.length := by omega
          have hdrop : (l.take (k + 1)).drop p = y :: (l.take (k + 1)).drop (p + 1) := by
            have hp' : p < (l.take (k + 1)).length := by rw [HLEN.out]; omega
            rw [List.drop_eq_getElem_cons hp']
            congr 1
            rw [List.getElem_take]
            exact (List.getElem?_eq_some_iff.1 hyl).2
          have HV : Hid (val ((l.take (k + 1)).drop p) = 128 * val ((l.take (k + 1)).drop (p + 1)) + y % 128) := by
            unfold Hid
            rw [hdrop, Int.add_comm]
            rfl
          have hv0 := val_nonneg ((l.take (k + 1)).drop (p + 1))
          have hv1 := val_lt ((l.take (k + 1)).drop (p + 1))
          have hle : ((l.take (k + 1)).drop (p + 1)).length ≤ 7 := by rw [List.length_drop, HLEN.out]; omega
          have hv2 : val ((l.take (k + 1)).drop (p + 1)) ≤ 562949953421312 := by
            have h3 : (128 : Nat) ^ ((l.take (k + 1)).drop (p + 1)).length ≤ 128 ^ 7 := Nat.pow_le_pow_right (by omega) hle
            have h4 : ((128 ^ ((l.take (k + 1)).drop (p + 1)).length : Nat) : Int) = (128 : Int) ^ ((l.take (k + 1)).drop (p + 1)).length := by simp
            omega
          clear hyc hyl hdrop ep hv1 hle
          generalize val ((l.take (k + 1)).drop (p + 1)) = V at *
          go_wp2
          go_round
          case rel => exact ⟨p, by omega, by go_num, by rw [HV.out]⟩
          case measure => simp [intOf]
        · obtain rfl : q = 0 := by omega
          rw [List.drop_zero, HVAL.out]
          go_wp2
          go_ret
          exact ⟨rfl, HRM.out.err, (Only.refl _ _).put _ _⟩

set_option maxRecDepth 100000 in
set_option maxHeartbeats 1000000 in
theorem MU_one_big (g L B : Nat) (l : List Int) (w : World) (h : Rm w g L B l 0) (i : Nat) (z : Int) (hz : l[i]? = some z) (h8 : i < 8) (h128 : z < 128) (hall : ∀ x ∈ l.take i, 128 ≤ x) (h0 : i = 0) (hbig : 18014398509481982 < val (l.take (i + 1))) :
    Calls Try.prog 26 #[.pointer (some ⟨g, 0, none⟩)] w (RmPost g L B w 0 l 4) := by
  have hrm := h
  obtain ⟨A, c, hblk, hrow, hne, hl, hlc, hB, hu⟩ := h
  have c0 : w.cell? ⟨g, 0, none⟩ = some (.slice A l.length c) := hblk.cell 0
  have c1 : w.cell? ⟨g, 1, none⟩ = some (.int .i64 0) := hblk.cell 1
  have f0 := hblk.frozen 0
  have f1 := hblk.frozen 1
  have hil : i < l.length := (List.getElem?_eq_some_iff.1 hz).1
  have hzb := hu z (List.mem_of_getElem? hz)
  obtain ⟨b, off, rfl, _, hc⟩ := hrow.2 (by omega)
  have ci : w.cell? ⟨b, off + i, none⟩ = some (.int .u8 z) := (hc i hil).trans (by simp [ints, hz])
  have hlen : (l.take (i + 1)).length = i + 1 := by rw [List.length_take]; omega
  have HC := Lib.hid hc
  have HALL := Lib.hid hall
  have HRM := Lib.hid hrm
  have HR := Lib.hid hrow
  have HB := Lib.hid hblk
  have HN := Lib.hid hne
  have HU := Lib.hid hu
  have HLEN := Lib.hid hlen
  generalize hval : val (l.take (i + 1)) = V
  rw [hval] at hbig
  have HVAL := Lib.hid hval
  have dbig : decide (18014398509481982 < V) = true := by simpa using hbig
  clear hval
  have d0 : decide (0 < i) = false := by simp; omega
  have H0 := Lib.hid h0
  clear h0
  clear hc hall hrm hrow hblk hne hu hz hlen
  go_enter Try.func26, Try.ntmps26
  go_wp2
  go_loop [3] (fun j => ∃ k : Nat, k ≤ i ∧ j = .int .i64 k) (fun j => i - (intOf j).toNat)
  case atStart => exact ⟨0, by omega, rfl⟩
  case round =>
    obtain ⟨k, hk, rfl⟩ := hrel
    by_cases hlt : k < i
    · have hkl : k < l.length := by omega
      have hk8 : k < 8 := by omega
      obtain ⟨y, hyc, hyl, _, _⟩ := ints_at .u8 l k (by omega)
      have ck : w.cell? ⟨b, off + k, none⟩ = some (.int .u8 y) := (HC.out k (by omega)).trans hyc
      have hy : 128 ≤ y := HALL.out y (by rw [List.mem_take_iff_getElem]; exact ⟨k, by omega, by have := (List.getElem?_eq_some_iff.1 hyl).2; exact this⟩)
      clear hyc hyl
      go_wp2
      go_round
      case rel => exact ⟨k + 1, by omega, by go_num⟩
      case measure => simp [intOf]; omega
    · obtain rfl : k = i := by omega
      have e1 : ((k : Int) == 8) = false := by simp; omega
      have e2 : ((k : Int) == (l.length : Int)) = false := by simp; omega
      go_wp2
      clear e1 e2
      go_loop [4, 5] (fun n j => ∃ q : Nat, q ≤ k + 1 ∧ j = .int .i64 ((q : Int) - 1) ∧ n = .int .i64 (val ((l.take (k + 1)).drop q))) (fun _ j => (intOf j + 1).toNat)
      case atStart => exact ⟨k + 1, by omega, by go_num, by rw [List.drop_of_length_le (by rw [HLEN.out]; omega)]; rfl⟩
      case round =>
        obtain ⟨q, hq, rfl, rfl⟩ := hrel
        by_cases hq0 : 0 < q
        · obtain ⟨p, rfl⟩ : ∃ p, q = p + 1 := ⟨q - 1, by omega⟩
          have ep : (((p + 1 : Nat) : Int) - 1) = (p : Int) := by omega
          rw [ep]
          obtain ⟨y, hyc, hyl, _, hym⟩ := ints_at .u8 l p (by omega)
          have cp : w.cell? ⟨b, off + p, none⟩ = some (.int .u8 y) := (HC.out p (by omega)).trans hyc
          obtain ⟨hy0, hy1⟩ := HU.out y hym
          have hpl : p < l.length := by omega
          have hdrop : (l.take (k + 1)).drop p = y :: (l.take (k + 1)).drop (p + 1) := by
            have hp' : p < (l.take (k + 1)).length := by rw [HLEN.out]; omega
            rw [List.drop_eq_getElem_cons hp']
            congr 1
            rw [List.getElem_take]
            exact (List.getElem?_eq_some_iff.1 hyl).2
          have HV : Hid (val ((l.take (k + 1)).drop p) = 128 * val ((l.take (k + 1)).drop (p + 1)) + y % 128) := by
            unfold Hid
            rw [hdrop, Int.add_comm]
            rfl
          have hv0 := val_nonneg ((l.take (k + 1)).drop (p + 1))
          have hv1 := val_lt ((l.take (k + 1)).drop (p + 1))
          have hle : ((l.take (k + 1)).drop (p + 1)).length ≤ 7 := by rw [List.length_drop, HLEN.out]; omega
          have hv2 : val ((l.take (k + 1)).drop (p + 1)) ≤ 562949953421312 := by
            have h3 : (128 : Nat) ^ ((l.take (k + 1)).drop (p + 1)).length ≤ 128 ^ 7 := Nat.pow_le_pow_right (by omega) hle
            have h4 : ((128 ^ ((l.take (k + 1)).drop (p + 1)).length : Nat) : Int) = (128 : Int) ^ ((l.take (k + 1)).drop (p + 1)).length := by simp
            omega
          clear hyc hyl hdrop ep hv1 hle
          generalize val ((l.take (k + 1)).drop (p + 1)) = V at *
          go_wp2
          go_round
          case rel => exact ⟨p, by omega, by go_num, by rw [HV.out]⟩
          case measure => simp [intOf]
        · obtain rfl : q = 0 := by omega
          rw [List.drop_zero, HVAL.out]
          go_wp2
          go_ret
          exact ⟨rfl, HRM.out.err, (Only.refl _ _).put _ _⟩

set_option maxRecDepth 100000 in
set_option maxHeartbeats 1000000 in
theorem MU_one_good (g L B : Nat) (l : List Int) (w : World) (h : Rm w g L B l 0) (i : Nat) (z : Int) (hz : l[i]? = some z) (h8 : i < 8) (h128 : z < 128) (hall : ∀ x ∈ l.take i, 128 ≤ x) (h0 : i = 0) (hbig : ¬ 18014398509481982 < val (l.take (i + 1))) :
    Calls Try.prog 26 #[.pointer (some ⟨g, 0, none⟩)] w (RmPost g L B w (val (l.take (i + 1))) (l.drop (i + 1)) 0) := by
  have hrm := h
  obtain ⟨A, c, hblk, hrow, hne, hl, hlc, hB, hu⟩ := h
  have c0 : w.cell? ⟨g, 0, none⟩ = some (.slice A l.length c) := hblk.cell 0
  have c1 : w.cell? ⟨g, 1, none⟩ = some (.int .i64 0) := hblk.cell 1
  have f0 := hblk.frozen 0
  have f1 := hblk.frozen 1
  have hil : i < l.length := (List.getElem?_eq_some_iff.1 hz).1
  have hzb := hu z (List.mem_of_getElem? hz)
  obtain ⟨b, off, rfl, _, hc⟩ := hrow.2 (by omega)
  have ci : w.cell? ⟨b, off + i, none⟩ = some (.int .u8 z) := (hc i hil).trans (by simp [ints, hz])
  have hlen : (l.take (i + 1)).length = i + 1 := by rw [List.length_take]; omega
  have HC := Lib.hid hc
  have HALL := Lib.hid hall
  have HRM := Lib.hid hrm
  have HR := Lib.hid hrow
  have HB := Lib.hid hblk
  have HN := Lib.hid hne
  have HU := Lib.hid hu
  have HLEN := Lib.hid hlen
  generalize hval : val (l.take (i + 1)) = V
  rw [hval] at hbig
  have HVAL := Lib.hid hval
  have dbig : decide (18014398509481982 < V) = false := by simpa using hbig
  clear hval
  have d0 : decide (0 < i) = false := by simp; omega
  have H0 := Lib.hid h0
  clear h0
  clear hc hall hrm hrow hblk hne hu hz hlen
  go_enter Try.func26, Try.ntmps26
  go_wp2
  go_loop [3] (fun j => ∃ k : Nat, k ≤ i ∧ j = .int .i64 k) (fun j => i - (intOf j).toNat)
  case atStart => exact ⟨0, by omega, rfl⟩
  case round =>
    obtain ⟨k, hk, rfl⟩ := hrel
    by_cases hlt : k < i
    · have hkl : k < l.length := by omega
      have hk8 : k < 8 := by omega
      obtain ⟨y, hyc, hyl, _, _⟩ := ints_at .u8 l k (by omega)
      have ck : w.cell? ⟨b, off + k, none⟩ = some (.int .u8 y) := (HC.out k (by omega)).trans hyc
      have hy : 128 ≤ y := HALL.out y (by rw [List.mem_take_iff_getElem]; exact ⟨k, by omega, by have := (List.getElem?_eq_some_iff.1 hyl).2; exact this⟩)
      clear hyc hyl
      go_wp2
      go_round
      case rel => exact ⟨k + 1, by omega, by go_num⟩
      case measure => simp [intOf]; omega
    · obtain rfl : k = i := by omega
      have e1 : ((k : Int) == 8) = false := by simp; omega
      have e2 : ((k : Int) == (l.length : Int)) = false := by simp; omega
      go_wp2
      clear e1 e2
      go_loop [4, 5] (fun n j => ∃ q : Nat, q ≤ k + 1 ∧ j = .int .i64 ((q : Int) - 1) ∧ n = .int .i64 (val ((l.take (k + 1)).drop q))) (fun _ j => (intOf j + 1).toNat)
      case atStart => exact ⟨k + 1, by omega, by go_num, by rw [List.drop_of_length_le (by rw [HLEN.out]; omega)]; rfl⟩
      case round =>
        obtain ⟨q, hq, rfl, rfl⟩ := hrel
        by_cases hq0 : 0 < q
        · obtain ⟨p, rfl⟩ : ∃ p, q = p + 1 := ⟨q - 1, by omega⟩
          have ep : (((p + 1 : Nat) : Int) - 1) = (p : Int) := by omega
          rw [ep]
          obtain ⟨y, hyc, hyl, _, hym⟩ := ints_at .u8 l p (by omega)
          have cp : w.cell? ⟨b, off + p, none⟩ = some (.int .u8 y) := (HC.out p (by omega)).trans hyc
          obtain ⟨hy0, hy1⟩ := HU.out y hym
          have hpl : p < l.length := by omega
          have hdrop : (l.take (k + 1)).drop p = y :: (l.take (k + 1)).drop (p + 1) := by
            have hp' : p < (l.take (k + 1)).length := by rw [HLEN.out]; omega
            rw [List.drop_eq_getElem_cons hp']
            congr 1
            rw [List.getElem_take]
            exact (List.getElem?_eq_some_iff.1 hyl).2
          have HV : Hid (val ((l.take (k + 1)).drop p) = 128 * val ((l.take (k + 1)).drop (p + 1)) + y % 128) := by
            unfold Hid
            rw [hdrop, Int.add_comm]
            rfl
          have hv0 := val_nonneg ((l.take (k + 1)).drop (p + 1))
          have hv1 := val_lt ((l.take (k + 1)).drop (p + 1))
          have hle : ((l.take (k + 1)).drop (p + 1)).length ≤ 7 := by rw [List.length_drop, HLEN.out]; omega
          have hv2 : val ((l.take (k + 1)).drop (p + 1)) ≤ 562949953421312 := by
            have h3 : (128 : Nat) ^ ((l.take (k + 1)).drop (p + 1)).length ≤ 128 ^ 7 := Nat.pow_le_pow_right (by omega) hle
            have h4 : ((128 ^ ((l.take (k + 1)).drop (p + 1)).length : Nat) : Int) = (128 : Int) ^ ((l.take (k + 1)).drop (p + 1)).length := by simp
            omega
          clear hyc hyl hdrop ep hv1 hle
          generalize val ((l.take (k + 1)).drop (p + 1)) = V at *
          go_wp2
          go_round
          case rel => exact ⟨p, by omega, by go_num, by rw [HV.out]⟩
          case measure => simp [intOf]
        · obtain rfl : q = 0 := by omega
          rw [List.drop_zero, HVAL.out]
          go_wp2
          · have hci : c = k + 1 := by assumption
            go_ret
            exact ⟨rfl, Rm.drop HB.out HR.out HN.out hl hB HU.out (by omega) hlc _ _ (by omega) (.inl ⟨rfl, hci⟩), (Only.refl _ _).put _ _⟩
          · go_ret
            exact ⟨rfl, Rm.drop HB.out HR.out HN.out hl hB HU.out (by omega) hlc _ _ rfl (.inr (by simp [Addr.add])), (Only.refl _ _).put _ _⟩

set_option maxRecDepth 100000 in
set_option maxHeartbeats 1000000 in
theorem MU_more_big (g L B : Nat) (l : List Int) (w : World) (h : Rm w g L B l 0) (i : Nat) (z : Int) (hz : l[i]? = some z) (h8 : i < 8) (h128 : z < 128) (hall : ∀ x ∈ l.take i, 128 ≤ x) (h0 : 0 < i) (hz0 : (z == 0) = false) (hbig : 18014398509481982 < val (l.take (i + 1))) :
    Calls Try.prog 26 #[.pointer (some ⟨g, 0, none⟩)] w (RmPost g L B w 0 l 4) := by
  have hrm := h
  obtain ⟨A, c, hblk, hrow, hne, hl, hlc, hB, hu⟩ := h
  have c0 : w.cell? ⟨g, 0, none⟩ = some (.slice A l.length c) := hblk.cell 0
  have c1 : w.cell? ⟨g, 1, none⟩ = some (.int .i64 0) := hblk.cell 1
  have f0 := hblk.frozen 0
  have f1 := hblk.frozen 1
  have hil : i < l.length := (List.getElem?_eq_some_iff.1 hz).1
  have hzb := hu z (List.mem_of_getElem? hz)
  obtain ⟨b, off, rfl, _, hc⟩ := hrow.2 (by omega)
  have ci : w.cell? ⟨b, off + i, none⟩ = some (.int .u8 z) := (hc i hil).trans (by simp [ints, hz])
  have hlen : (l.take (i + 1)).length = i + 1 := by rw [List.length_take]; omega
  have HC := Lib.hid hc
  have HALL := Lib.hid hall
  have HRM := Lib.hid hrm
  have HR := Lib.hid hrow
  have HB := Lib.hid hblk
  have HN := Lib.hid hne
  have HU := Lib.hid hu
  have HLEN := Lib.hid hlen
  generalize hval : val (l.take (i + 1)) = V
  rw [hval] at hbig
  have HVAL := Lib.hid hval
  have dbig : decide (18014398509481982 < V) = true := by simpa using hbig
  clear hval
  have d0 : decide ((0 : Int) < (i : Int)) = true := by simp; omega
  clear hc hall hrm hrow hblk hne hu hz hlen
  go_enter Try.func26, Try.ntmps26
  go_wp2
  go_loop [3] (fun j => ∃ k : Nat, k ≤ i ∧ j = .int .i64 k) (fun j => i - (intOf j).toNat)
  case atStart => exact ⟨0, by omega, rfl⟩
  case round =>
    obtain ⟨k, hk, rfl⟩ := hrel
    by_cases hlt : k < i
    · have hkl : k < l.length := by omega
      have hk8 : k < 8 := by omega
      obtain ⟨y, hyc, hyl, _, _⟩ := ints_at .u8 l k (by omega)
      have ck : w.cell? ⟨b, off + k, none⟩ = some (.int .u8 y) := (HC.out k (by omega)).trans hyc
      have hy : 128 ≤ y := HALL.out y (by rw [List.mem_take_iff_getElem]; exact ⟨k, by omega, by have := (List.getElem?_eq_some_iff.1 hyl).2; exact this⟩)
      clear hyc hyl
      go_wp2
      go_round
      case rel => exact ⟨k + 1, by omega, by go_num⟩
      case measure => simp [intOf]; omega
    · obtain rfl : k = i := by omega
      have e1 : ((k : Int) == 8) = false := by simp; omega
      have e2 : ((k : Int) == (l.length : Int)) = false := by simp; omega
      go_wp2
      clear e1 e2
      go_loop [4, 5] (fun n j => ∃ q : Nat, q ≤ k + 1 ∧ j = .int .i64 ((q : Int) - 1) ∧ n = .int .i64 (val ((l.take (k + 1)).drop q))) (fun _ j => (intOf j + 1).toNat)
      case atStart => exact ⟨k + 1, by omega, by go_num, by rw [List.drop_of_length_le (by rw [HLEN.out]; omega)]; rfl⟩
      case round =>
        obtain ⟨q, hq, rfl, rfl⟩ := hrel
        by_cases hq0 : 0 < q
        · obtain ⟨p, rfl⟩ : ∃ p, q = p + 1 := ⟨q - 1, by omega⟩
          have ep : (((p + 1 : Nat) : Int) - 1) = (p : Int) := by omega
          rw [ep]
          obtain ⟨y, hyc, hyl, _, hym⟩ := ints_at .u8 l p (by omega)
          have cp : w.cell? ⟨b, off + p, none⟩ = some (.int .u8 y) := (HC.out p (by omega)).trans hyc
          obtain ⟨hy0, hy1⟩ := HU.out y hym
          have hpl : p < l.length := by omega
          have hdrop : (l.take (k + 1)).drop p = y :: (l.take (k + 1)).drop (p + 1) := by
            have hp' : p < (l.take (k + 1)).length := by rw [HLEN.out]; omega
            rw [List.drop_eq_getElem_cons hp']
            congr 1
            rw [List.getElem_take]
            exact (List.getElem?_eq_some_iff.1 hyl).2
          have HV : Hid (val ((l.take (k + 1)).drop p) = 128 * val ((l.take (k + 1)).drop (p + 1)) + y % 128) := by
            unfold Hid
            rw [hdrop, Int.add_comm]
            rfl
          have hv0 := val_nonneg ((l.take (k + 1)).drop (p + 1))
          have hv1 := val_lt ((l.take (k + 1)).drop (p + 1))
          have hle : ((l.take (k + 1)).drop (p + 1)).length ≤ 7 := by rw [List.length_drop, HLEN.out]; omega
          have hv2 : val ((l.take (k + 1)).drop (p + 1)) ≤ 562949953421312 := by
            have h3 : (128 : Nat) ^ ((l.take (k + 1)).drop (p + 1)).length ≤ 128 ^ 7 := Nat.pow_le_pow_right (by omega) hle
            have h4 : ((128 ^ ((l.take (k + 1)).drop (p + 1)).length : Nat) : Int) = (128 : Int) ^ ((l.take (k + 1)).drop (p + 1)).length := by simp
            omega
          clear hyc hyl hdrop ep hv1 hle
          generalize val ((l.take (k + 1)).drop (p + 1)) = V at *
          go_wp2
          go_round
          case rel => exact ⟨p, by omega, by go_num, by rw [HV.out]⟩
          case measure => simp [intOf]
        · obtain rfl : q = 0 := by omega
          rw [List.drop_zero, HVAL.out]
          go_wp2
          go_ret
          exact ⟨rfl, HRM.out.err, (Only.refl _ _).put _ _⟩

set_option maxRecDepth 100000 in
set_option maxHeartbeats 1000000 in
theorem MU_more_good (g L B : Nat) (l : List Int) (w : World) (h : Rm w g L B l 0) (i : Nat) (z : Int) (hz : l[i]? = some z) (h8 : i < 8) (h128 : z < 128) (hall : ∀ x ∈ l.take i, 128 ≤ x) (h0 : 0 < i) (hz0 : (z == 0) = false) (hbig : ¬ 18014398509481982 < val (l.take (i + 1))) :
    Calls Try.prog 26 #[.pointer (some ⟨g, 0, none⟩)] w (RmPost g L B w (val (l.take (i + 1))) (l.drop (i + 1)) 0) := by
  have hrm := h
  obtain ⟨A, c, hblk, hrow, hne, hl, hlc, hB, hu⟩ := h
  have c0 : w.cell? ⟨g, 0, none⟩ = some (.slice A l.length c) := hblk.cell 0
  have c1 : w.cell? ⟨g, 1, none⟩ = some (.int .i64 0) := hblk.cell 1
  have f0 := hblk.frozen 0
  have f1 := hblk.frozen 1
  have hil : i < l.length := (List.getElem?_eq_some_iff.1 hz).1
  have hzb := hu z (List.mem_of_getElem? hz)
  obtain ⟨b, off, rfl, _, hc⟩ := hrow.2 (by omega)
  have ci : w.cell? ⟨b, off + i, none⟩ = some (.int .u8 z) := (hc i hil).trans (by simp [ints, hz])
  have hlen : (l.take (i + 1)).length = i + 1 := by rw [List.length_take]; omega
  have HC := Lib.hid hc
  have HALL := Lib.hid hall
  have HRM := Lib.hid hrm
  have HR := Lib.hid hrow
  have HB := Lib.hid hblk
  have HN := Lib.hid hne
  have HU := Lib.hid hu
  have HLEN := Lib.hid hlen
  generalize hval : val (l.take (i + 1)) = V
  rw [hval] at hbig
  have HVAL := Lib.hid hval
  have dbig : decide (18014398509481982 < V) = false := by simpa using hbig
  clear hval
  have d0 : decide ((0 : Int) < (i : Int)) = true := by simp; omega
  clear hc hall hrm hrow hblk hne hu hz hlen
  go_enter Try.func26, Try.ntmps26
  go_wp2
  go_loop [3] (fun j => ∃ k : Nat, k ≤ i ∧ j = .int .i64 k) (fun j => i - (intOf j).toNat)
  case atStart => exact ⟨0, by omega, rfl⟩
  case round =>
    obtain ⟨k, hk, rfl⟩ := hrel
    by_cases hlt : k < i
    · have hkl : k < l.length := by omega
      have hk8 : k < 8 := by omega
      obtain ⟨y, hyc, hyl, _, _⟩ := ints_at .u8 l k (by omega)
      have ck : w.cell? ⟨b, off + k, none⟩ = some (.int .u8 y) := (HC.out k (by omega)).trans hyc
      have hy : 128 ≤ y := HALL.out y (by rw [List.mem_take_iff_getElem]; exact ⟨k, by omega, by have := (List.getElem?_eq_some_iff.1 hyl).2; exact this⟩)
      clear hyc hyl
      go_wp2
      go_round
      case rel => exact ⟨k + 1, by omega, by go_num⟩
      case measure => simp [intOf]; omega
    · obtain rfl : k = i := by omega
      have e1 : ((k : Int) == 8) = false := by simp; omega
      have e2 : ((k : Int) == (l.length : Int)) = false := by simp; omega
      go_wp2
      clear e1 e2
      go_loop [4, 5] (fun n j => ∃ q : Nat, q ≤ k + 1 ∧ j = .int .i64 ((q : Int) - 1) ∧ n = .int .i64 (val ((l.take (k + 1)).drop q))) (fun _ j => (intOf j + 1).toNat)
      case atStart => exact ⟨k + 1, by omega, by go_num, by rw [List.drop_of_length_le (by rw [HLEN.out]; omega)]; rfl⟩
      case round =>
        obtain ⟨q, hq, rfl, rfl⟩ := hrel
        by_cases hq0 : 0 < q
        · obtain ⟨p, rfl⟩ : ∃ p, q = p + 1 := ⟨q - 1, by omega⟩
          have ep : (((p + 1 : Nat) : Int) - 1) = (p : Int) := by omega
          rw [ep]
          obtain ⟨y, hyc, hyl, _, hym⟩ := ints_at .u8 l p (by omega)
          have cp : w.cell? ⟨b, off + p, none⟩ = some (.int .u8 y) := (HC.out p (by omega)).trans hyc
          obtain ⟨hy0, hy1⟩ := HU.out y hym
          have hpl : p < l.length := by omega
          have hdrop : (l.take (k + 1)).drop p = y :: (l.take (k + 1)).drop (p + 1) := by
            have hp' : p < (l.take (k + 1)).length := by rw [HLEN.out]; omega
            rw [List.drop_eq_getElem_cons hp']
            congr 1
            rw [List.getElem_take]
            exact (List.getElem?_eq_some_iff.1 hyl).2
          have HV : Hid (val ((l.take (k + 1)).drop p) = 128 * val ((l.take (k + 1)).drop (p + 1)) + y % 128) := by
            unfold Hid
            rw [hdrop, Int.add_comm]
            rfl
          have hv0 := val_nonneg ((l.take (k + 1)).drop (p + 1))
          have hv1 := val_lt ((l.take (k + 1)).drop (p + 1))
          have hle : ((l.take (k + 1)).drop (p + 1)).length ≤ 7 := by rw [List.length_drop, HLEN.out]; omega
          have hv2 : val ((l.take (k + 1)).drop (p + 1)) ≤ 562949953421312 := by
            have h3 : (128 : Nat) ^ ((l.take (k + 1)).drop (p + 1)).length ≤ 128 ^ 7 := Nat.pow_le_pow_right (by omega) hle
            have h4 : ((128 ^ ((l.take (k + 1)).drop (p + 1)).length : Nat) : Int) = (128 : Int) ^ ((l.take (k + 1)).drop (p + 1)).length := by simp
            omega
          clear hyc hyl hdrop ep hv1 hle
          generalize val ((l.take (k + 1)).drop (p + 1)) = V at *
          go_wp2
          go_round
          case rel => exact ⟨p, by omega, by go_num, by rw [HV.out]⟩
          case measure => simp [intOf]
        · obtain rfl : q = 0 := by omega
          rw [List.drop_zero, HVAL.out]
          go_wp2
          · have hci : c = k + 1 := by assumption
            go_ret
            exact ⟨rfl, Rm.drop HB.out HR.out HN.out hl hB HU.out (by omega) hlc _ _ (by omega) (.inl ⟨rfl, hci⟩), (Only.refl _ _).put _ _⟩
          · go_ret
            exact ⟨rfl, Rm.drop HB.out HR.out HN.out hl hB HU.out (by omega) hlc _ _ rfl (.inr (by simp [Addr.add])), (Only.refl _ _).put _ _⟩

end Go.Proofs.Ytieknhlpgoedgaa
