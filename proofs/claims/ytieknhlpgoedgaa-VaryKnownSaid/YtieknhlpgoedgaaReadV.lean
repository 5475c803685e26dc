/- (*Reader).U: the number itself. -/
import Derived.Test.YtieknhlpgoedgaaReadU
namespace Go.Proofs.Ytieknhlpgoedgaa
open Go.RowKit

theorem not128_all : ∀ r : Fin 256, bits .andNot .u8 ((r.val : Nat) : Int) 128 = ((r.val % 128 : Nat) : Int) := by decide +kernel
theorem not128 {z : Int} (h0 : 0 ≤ z) (h1 : z ≤ 255) : bits .andNot .u8 z 128 = z % 128 := by
  obtain ⟨m, rfl⟩ := Int.eq_ofNat_of_zero_le h0
  have h := not128_all ⟨m, by omega⟩
  simp only [] at h
  rw [h]; omega

theorem ofInt64 (a : Nat) (h : a < 9223372036854775808) : (BitVec.ofInt 64 (a : Int)).toNat = a := by
  rw [BitVec.ofInt_natCast, BitVec.toNat_ofNat]
  exact Nat.mod_eq_of_lt (by omega)
theorem or64 (a b : Nat) (ha : a < 9223372036854775808) (hb : b < 9223372036854775808) : bits .or .i64 (a : Int) (b : Int) = ((a ||| b : Nat) : Int) := by
  have hx : a ||| b < 2 ^ 63 := Nat.or_lt_two_pow (by omega) (by omega)
  show IntKind.i64.wrap ((BitVec.ofInt 64 (a : Int) ||| BitVec.ofInt 64 (b : Int)).toNat : Int) = _
  rw [BitVec.toNat_or, ofInt64 a ha, ofInt64 b hb, IntKind.wrap_i64]
  omega

theorem or_step {a y : Int} {k : Nat} (hk : k ≤ 7) (ha0 : 0 ≤ a) (ha : a < 128 ^ k) (h0 : 0 ≤ y) (h1 : y ≤ 255) :
    bits .or .i64 a (wrap64 (wrap64 (bits .andNot .u8 y 128) * 2 ^ (k * 7))) = a + y % 128 * 128 ^ k := by
  rw [not128 h0 h1, IntWalk.wrap64_in (y % 128) (by omega), show (2 : Int) ^ (k * 7) = 128 ^ k by rw [Nat.mul_comm, Int.pow_mul]; rfl]
  obtain ⟨m, rfl⟩ := Int.eq_ofNat_of_zero_le ha0
  obtain ⟨n, rfl⟩ := Int.eq_ofNat_of_zero_le h0
  have hp : (128 : Nat) ^ k ≤ 128 ^ 7 := Nat.pow_le_pow_right (by omega) hk
  have ha' : m < 128 ^ k := by
    have : ((128 ^ k : Nat) : Int) = (128 : Int) ^ k := by simp
    omega
  have hb : n % 128 * 128 ^ k ≤ 127 * 128 ^ 7 := Nat.mul_le_mul (by omega) hp
  have e : ((n : Int) % 128 * 128 ^ k) = ((n % 128 * 128 ^ k : Nat) : Int) := by simp
  rw [e, IntWalk.wrap64_in _ (by omega), or64 _ _ (by omega) (by omega), Nat.or_comm, nat_join (7 * k) _ _ ?_ ?_]
  · omega
  · rw [Nat.pow_mul]; exact Nat.mul_mod_left _ _
  · rw [Nat.pow_mul]; exact ha'

theorem Row.cut {w : World} {B n k c : Nat} {A : Option Addr} {xs : List Value} (h : Row w B A n xs) (hk : k ≤ n) (hc : n ≤ c) (A' : Option Addr)
    (hA : ∀ b off, A = some ⟨b, off, none⟩ → k < c → A' = some ⟨b, off + k, none⟩) : Row w B A' (n - k) (xs.drop k) := by
  refine ⟨by rw [List.length_drop, h.1], fun hn => ?_⟩
  obtain ⟨b, off, e, hb, hcell⟩ := h.2 (by omega)
  refine ⟨b, off + k, hA b off e (by omega), hb, fun j hj => ?_⟩
  rw [Nat.add_assoc, hcell (k + j) (by omega), List.getElem?_drop]

theorem Rd.cut {w : World} {g B b off c i : Nat} {l : List Int} (hblk : Blk w g 51 [.bool true, .slice (some ⟨b, off, none⟩) l.length c, .int .i64 0]) (hrow : Row w B (some ⟨b, off, none⟩) l.length (ints .u8 l))
    (hne : ∀ a, (some ⟨b, off, none⟩ : Option Addr) = some a → a.block ≠ g) (hl : l.length ≤ 150000000000000) (hB : B ≤ w.heap.size) (hu : ∀ x ∈ l, 0 ≤ x ∧ x ≤ 255) (hi : i < l.length)
    (A' : Option Addr) (c' : Nat) (hc' : l.length - (i + 1) ≤ c') (hA : i + 1 < l.length → A' = some ⟨b, off + (i + 1), none⟩) (hA' : ∃ o, A' = some ⟨b, o, none⟩) :
    Rd (w.setCell ⟨g, 1, none⟩ (.slice A' (l.length - (i + 1)) c')) g B (l.drop (i + 1)) 0 := by
  have hlen : (l.drop (i + 1)).length = l.length - (i + 1) := List.length_drop
  have hne' : b ≠ g := hne _ rfl
  refine ⟨A', c', ?_, ?_, ?_, by omega, by omega, by simpa [World.setCell] using hB, fun x hx => hu x (List.mem_of_mem_drop hx)⟩
  · rw [hlen]; exact hblk.put 1 _
  · rw [hlen, ← ints_drop]
    have h1 := hrow.only ((Only.refl g w).put 1 (.slice A' (l.length - (i + 1)) c')) hB (fun b' off' e => hne _ e)
    refine h1.cut (c := l.length) (by omega) (Nat.le_refl _) A' ?_
    intro b' off' e hk
    injection e with e
    injection e with e1 e2
    subst e1; subst e2
    exact hA hk
  · intro a e
    obtain ⟨o, ho⟩ := hA'
    rw [ho] at e
    injection e with e
    subst e
    exact hne'

set_option maxRecDepth 100000 in
theorem RU_big (g B i : Nat) (l : List Int) (w : World) (h : Rd w g B l 0) (hn : endAt l = some i) (h8 : i < 8) (hz : ¬ (0 < i ∧ l[i]? = some 0)) (hi : i < l.length) (hbig : 18014398509481982 < val (l.take (i + 1))) :
    Calls Try.prog 25 #[.pointer (some ⟨g, 0, none⟩)] w (RdPost g B w 0 [] 4) := by
  obtain ⟨A, c, hblk, hrow, hne, hl, hlc, hB, hb⟩ := h
  have c1 : w.cell? ⟨g, 1, none⟩ = some (.slice A l.length c) := hblk.cell 1
  have f1 := hblk.frozen 1
  have hI := Index_any A c B l w hrow hl
  rw [show endInt l = i by simp [endInt, hn]] at hI
  obtain ⟨b, off, rfl, hbB, hc⟩ := hrow.2 (by omega)
  obtain ⟨z, hzc, hzl, _, hzm⟩ := ints_at .u8 l i hi
  have ci : w.cell? ⟨b, off + i, none⟩ = some (.int .u8 z) := (hc i hi).trans hzc
  have hzz : 0 < i → (z == 0) = false := by
    intro h1
    have : z ≠ 0 := by
      rintro rfl
      exact hz ⟨h1, hzl⟩
    simpa using this
  have HI := Lib.hid hI
  have HB := Lib.hid hblk
  have HC := Lib.hid hc
  have HL := Lib.hid hb
  have HNE := Lib.hid hne
  have d8 : decide ((8 : Int) < (i : Int) + 1) = false := by simp; omega
  generalize hV : val (l.take (i + 1)) = V
  have HV := Lib.hid hV
  rw [hV] at hbig
  have HBIG := Lib.hid hbig
  clear hI hblk hn hc hz hzl hzc hb hV hne hbig
  rcases Nat.eq_zero_or_pos i with h0 | h0
  case' inl => have d1 : decide ((1 : Int) < (i : Int) + 1) = false := by simp; omega
  case' inr => have d1 : decide ((1 : Int) < (i : Int) + 1) = true := by simp; omega
  case' inr => have hz0 := hzz h0
  all_goals
    clear hzz
    have H0 := Lib.hid h0
    clear h0
    go_enter Try.func25, Try.ntmps25
    go_wp2_with fail
    refine (Err_made g _ _ _ HB.out).mono ?_
    rintro e w' ⟨rfl, rfl⟩
    go_wp2_with fail
    refine HI.out.mono ?_
    rintro e w' ⟨rfl, rfl⟩
    go_wp2_with fail
    clear d1 d8
    go_loop [4, 51] (fun n j => ∃ k : Nat, k ≤ i + 1 ∧ j = .int .i64 k ∧ n = .int .i64 (val (l.take k))) (fun _ j => i + 1 - (intOf j).toNat)
    case atStart => exact ⟨0, Nat.zero_le _, rfl, rfl⟩
    case round =>
      obtain ⟨k, hk, rfl, rfl⟩ := hrel
      by_cases hlt : k < i + 1
      · obtain ⟨y, hyc, hyl, hyt, hym⟩ := ints_at .u8 l k (by omega)
        have ck : w.cell? ⟨b, off + k, none⟩ = some (.int .u8 y) := (HC.out k (by omega)).trans hyc
        obtain ⟨hy0, hy1⟩ := HL.out y hym
        have hlk : (l.take k).length = k := by simp; omega
        have hvl := val_lt (l.take k)
        rw [hlk] at hvl
        have hv' := val_snoc (l.take k) y
        rw [hlk, ← hyt] at hv'
        have HS : Hid (bits .or .i64 (val (l.take k)) (wrap64 (wrap64 (bits .andNot .u8 y 128) * 2 ^ (k * 7))) = val (l.take (k + 1))) := by
          rw [hv']
          exact or_step (by omega) (val_nonneg _) hvl hy0 hy1
        clear hyc hyl hyt hvl hv' hlk
        go_wp2
        go_round
        case rel => exact ⟨k + 1, by omega, by go_num, by rw [HS.out]⟩
        case measure => simp [intOf]; omega
      · obtain rfl : k = i + 1 := by omega
        rw [HV.out]
        have hbig := HBIG.out
        go_wp2_with fail
        refine (fail_made g _ _ _ _ _ HB.out).mono ?_
        rintro e w1 ⟨rfl, ho, hb1⟩
        go_wp2
        go_ret
        exact ⟨rfl, Rd.failed (Nat.le_trans hB ho.size) hb1, ho⟩

set_option maxRecDepth 100000 in
theorem RU_good (g B i : Nat) (l : List Int) (w : World) (h : Rd w g B l 0) (hn : endAt l = some i) (h8 : i < 8) (hz : ¬ (0 < i ∧ l[i]? = some 0)) (hi : i < l.length) (hbig : ¬ 18014398509481982 < val (l.take (i + 1))) :
    Calls Try.prog 25 #[.pointer (some ⟨g, 0, none⟩)] w (RdPost g B w (val (l.take (i + 1))) (l.drop (i + 1)) 0) := by
  obtain ⟨A, c, hblk, hrow, hne, hl, hlc, hB, hb⟩ := h
  have c1 : w.cell? ⟨g, 1, none⟩ = some (.slice A l.length c) := hblk.cell 1
  have f1 := hblk.frozen 1
  have hI := Index_any A c B l w hrow hl
  rw [show endInt l = i by simp [endInt, hn]] at hI
  obtain ⟨b, off, rfl, hbB, hc⟩ := hrow.2 (by omega)
  obtain ⟨z, hzc, hzl, _, hzm⟩ := ints_at .u8 l i hi
  have ci : w.cell? ⟨b, off + i, none⟩ = some (.int .u8 z) := (hc i hi).trans hzc
  have hzz : 0 < i → (z == 0) = false := by
    intro h1
    have : z ≠ 0 := by
      rintro rfl
      exact hz ⟨h1, hzl⟩
    simpa using this
  have HI := Lib.hid hI
  have HB := Lib.hid hblk
  have HC := Lib.hid hc
  have HL := Lib.hid hb
  have HNE := Lib.hid hne
  have d8 : decide ((8 : Int) < (i : Int) + 1) = false := by simp; omega
  generalize hV : val (l.take (i + 1)) = V
  have HV := Lib.hid hV
  rw [hV] at hbig
  have HBIG := Lib.hid hbig
  clear hI hblk hn hc hz hzl hzc hb hV hne hbig
  rcases Nat.eq_zero_or_pos i with h0 | h0
  case' inl => have d1 : decide ((1 : Int) < (i : Int) + 1) = false := by simp; omega
  case' inr => have d1 : decide ((1 : Int) < (i : Int) + 1) = true := by simp; omega
  case' inr => have hz0 := hzz h0
  all_goals
    clear hzz
    have H0 := Lib.hid h0
    clear h0
    go_enter Try.func25, Try.ntmps25
    go_wp2_with fail
    refine (Err_made g _ _ _ HB.out).mono ?_
    rintro e w' ⟨rfl, rfl⟩
    go_wp2_with fail
    refine HI.out.mono ?_
    rintro e w' ⟨rfl, rfl⟩
    go_wp2_with fail
    clear d1 d8
    go_loop [4, 51] (fun n j => ∃ k : Nat, k ≤ i + 1 ∧ j = .int .i64 k ∧ n = .int .i64 (val (l.take k))) (fun _ j => i + 1 - (intOf j).toNat)
    case atStart => exact ⟨0, Nat.zero_le _, rfl, rfl⟩
    case round =>
      obtain ⟨k, hk, rfl, rfl⟩ := hrel
      by_cases hlt : k < i + 1
      · obtain ⟨y, hyc, hyl, hyt, hym⟩ := ints_at .u8 l k (by omega)
        have ck : w.cell? ⟨b, off + k, none⟩ = some (.int .u8 y) := (HC.out k (by omega)).trans hyc
        obtain ⟨hy0, hy1⟩ := HL.out y hym
        have hlk : (l.take k).length = k := by simp; omega
        have hvl := val_lt (l.take k)
        rw [hlk] at hvl
        have hv' := val_snoc (l.take k) y
        rw [hlk, ← hyt] at hv'
        have HS : Hid (bits .or .i64 (val (l.take k)) (wrap64 (wrap64 (bits .andNot .u8 y 128) * 2 ^ (k * 7))) = val (l.take (k + 1))) := by
          rw [hv']
          exact or_step (by omega) (val_nonneg _) hvl hy0 hy1
        clear hyc hyl hyt hvl hv' hlk
        go_wp2
        go_round
        case rel => exact ⟨k + 1, by omega, by go_num, by rw [HS.out]⟩
        case measure => simp [intOf]; omega
      · obtain rfl : k = i + 1 := by omega
        rw [HV.out]
        have hbig := HBIG.out
        go_wp2
        · have hci : c = i + 1 := by assumption
          go_ret
          exact ⟨rfl, Rd.cut HB.out hrow HNE.out hl hB HL.out hi _ _ (by omega) (fun h => by omega) ⟨_, rfl⟩, (Only.refl _ _).put _ _⟩
        · go_ret
          exact ⟨rfl, Rd.cut HB.out hrow HNE.out hl hB HL.out hi _ _ (by omega) (fun _ => rfl) ⟨_, rfl⟩, (Only.refl _ _).put _ _⟩

end Go.Proofs.Ytieknhlpgoedgaa
