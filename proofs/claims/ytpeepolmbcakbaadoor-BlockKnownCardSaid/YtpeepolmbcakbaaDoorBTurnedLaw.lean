/- BlockTurned: the walk. -/
import Derived.Test.YtpeepolmbcakbaaDoorBBackLaw
namespace Go.Proofs.YtpeepolmbcakbaaDoor
open Go.RowKit

theorem bit_test (p j : Nat) (hp : p < 4294967296) : bits .and .u32 ((p : Int) / 2 ^ j) 1 = ((p / 2 ^ j % 2 : Nat) : Int) := by
  have h1 : (p : Int) / 2 ^ j = ((p / 2 ^ j : Nat) : Int) := by
    rw [Int.natCast_ediv, Int.natCast_pow]; rfl
  have h2 : p / 2 ^ j < 4294967296 := Nat.lt_of_le_of_lt (Nat.div_le_self _ _) hp
  rw [h1, show (1 : Int) = ((1 : Nat) : Int) from rfl, and32 _ _ h2 (by omega), low_one]
theorem shl_byte : ∀ r : Nat, r < 8 → IntKind.u8.wrap ((2 : Int) ^ r) = ((2 ^ r : Nat) : Int)
  | 0, _ | 1, _ | 2, _ | 3, _ | 4, _ | 5, _ | 6, _ | 7, _ => by decide
  | n + 8, h => by omega
theorem turn_val (z r : Nat) (hz : z < 256) (hr : r < 8) : bits .xor .u8 (z : Int) (IntKind.u8.wrap ((2 : Int) ^ r)) = ((z ^^^ 2 ^ r : Nat) : Int) ∧ z ^^^ 2 ^ r < 256 := by
  have h : 2 ^ r < 2 ^ 8 := Nat.pow_lt_pow_right (by omega) hr
  rw [shl_byte r hr, xor8 _ _ hz (by omega)]
  exact ⟨rfl, Nat.xor_lt_two_pow (n := 8) hz h⟩
theorem nat_at {y : List Int} {q z : Nat} (h : (ints .u8 y)[q]? = some (.int .u8 (z : Int))) : (nats y)[q]? = some z := by
  simp only [ints, List.getElem?_map, Option.map_eq_some_iff] at h
  obtain ⟨a, ha, he⟩ := h
  injection he with _ he
  subst he
  simp [nats, ha]
theorem nats_set (y : List Int) (q v : Nat) : nats (y.set q (v : Int)) = (nats y).set q v := by simp [nats, List.map_set]
theorem ints_set (y : List Int) (q : Nat) (v : Int) : (ints .u8 y).set q (.int .u8 v) = ints .u8 (y.set q v) := by simp [ints, List.map_set]
theorem u8_set {y : List Int} {q v : Nat} (h : U8 y) (hv : v < 256) : U8 (y.set q (v : Int)) := fun x hx => by
  rcases List.mem_or_eq_of_mem_set hx with h1 | rfl
  · exact h x h1
  · omega
/-- Sealed no more just if a bit was turned. -/
theorem turned_sealed {x y : List Int} {k P : Nat} (hx : U8 x) (hy : U8 y) (h4 : 4 ≤ x.length) (hl : y.length = x.length) (hs : sealedI x = true) (hk : k ≤ 8 * x.length) (hp : P < 4294967296) (he : bnum (nats y) = bnum (nats x) ^^^ 2 ^ k * P) : sealedI y = decide (P = 0) := by
  rw [sealedI_nat hy]
  rw [sealedI_nat hx] at hs
  exact turned_not hx.byt hy.byt (by rw [nats_len]; exact h4) (by rw [nats_len, nats_len]; exact hl) hs (by rw [nats_len]; exact hk) hp he

theorem unsealed_bad {y : List Int} (h : sealedI y = false) : esU y = [] ∧ xU y = 80 := by
  have ho : okU y = false := by rw [okU, h]; rfl
  rw [esU, xU, ho]
  exact ⟨rfl, rfl⟩

set_option maxRecDepth 100000 in
set_option maxHeartbeats 4000000 in
theorem BlockTurned_walk (A : Option Addr) (es : List (Int × ByteArray)) (c : Nat) (at' p' : Int) (w : World) (hr : RowE w w.heap.size A es.length es) (_hc : es.length ≤ c) (hn : es.length * 24 ≤ 140737488351232) (hat : (Lit.int .i64 at').wf = true) (hp : (Lit.int .u32 p').wf = true) :
    Calls Tryd.prog 5 #[.slice A es.length c, .int .i64 at', .int .u32 p'] w fun e w' => e = .returned (.bool true) ∧ Below w.heap.size w w' := by
  obtain ⟨n, hln⟩ : ∃ n, es.length = n := ⟨_, rfl⟩
  rw [hln] at hr hn ⊢
  clear _hc
  obtain ⟨p, rfl, hp2⟩ : ∃ p : Nat, p' = (p : Int) ∧ p < 4294967296 := by
    simp [Lit.wf, IntKind.min, IntKind.max, IntKind.bits, IntKind.signed] at hp
    exact ⟨p'.toNat, by omega, by omega⟩
  obtain ⟨x, hxe⟩ : ∃ x, packL es = x := ⟨_, rfl⟩
  obtain ⟨m, hm⟩ : ∃ m, x.length = m := ⟨_, rfl⟩
  have hml : m ≤ 200004 := by rw [← hm, ← hxe]; exact packL_len es
  obtain ⟨v, hv⟩ : ∃ v, chkB (mm es) = v := ⟨_, rfl⟩
  have HR := Lib.hid hr
  have HP : Hid (Calls Tryd.prog 11 #[.slice A n c] w fun e w' => ∃ A' c', e = .returned (.tuple #[.slice A' m c', .int .i64 v]) ∧ w'.ownsRow w.heap.size 5 1 (.slice A' m c') m (ints .u8 x) ∧ Below w.heap.size w w') := Lib.hid (by
    refine (Pack_any A n c es w hr (by omega)).mono ?_
    rintro e w' ⟨A', c', rfl, o, b⟩
    rw [hv]
    rw [hxe, hm] at o ⊢
    exact ⟨A', c', rfl, o, b⟩)
  by_cases hv0 : v = 0
  case neg =>
    have hm0 : m = 0 := by rw [← hm, ← hxe, packL, if_neg (by rw [hv]; exact hv0)]; rfl
    subst hm0
    have hvb : (v != 0) = true := by simp [hv0]
    clear hr hat hp hxe hm hv hln
    go_enter Tryd.func5, Tryd.ntmps5
    go_wp2_with fail
    with_reducible refine HP.out.mono ?_
    rintro e w1 ⟨A1, c1, rfl, _, b1⟩
    clear HP
    go_wp2_with fail
    with_reducible refine (awake_true w1).mono ?_
    rintro e w2 ⟨rfl, b2⟩
    have hb := next b1 b2
    go_wp2_with fail
    go_ret
    exact ⟨rfl, hb⟩
  case pos =>
    subst hv0
    have hpe : x = putB (encB (mm es)) := by rw [← hxe, packL, if_pos hv]
    have hm4 : 4 ≤ m := by rw [← hm, hpe, putB, List.length_append, rowI_len]; omega
    have HX : Hid (U8 x ∧ x.length = m ∧ sealedI x = true) := Lib.hid ⟨by rw [← hxe]; exact packL_u8 es, hm, by rw [hpe, putB]; exact put_sealedI (encB_byt hv)⟩
    have HE : Hid (esU x = es ∧ xU x = 0) := Lib.hid (by rw [hpe]; exact (back hv).2)
    have HNn := Lib.hid hln
    obtain ⟨k, hk, hkn⟩ : ∃ k : Nat, at' % (8 * (m : Int)) = (k : Int) ∧ k < 8 * m := by
      have h1 := Int.emod_nonneg at' (show 8 * (m : Int) ≠ 0 by omega)
      have h2 := Int.emod_lt_of_pos at' (show 0 < 8 * (m : Int) by omega)
      exact ⟨(at' % (8 * (m : Int))).toNat, by omega, by omega⟩
    have HB : Hid (∀ w, Calls Tryd.prog 21 #[.int .i64 at', .int .i64 (8 * (m : Int))] w fun e w' => e = .returned (.int .i64 (k : Int)) ∧ w = w') := Lib.hid (fun w => by
      have := Bring_any at' (8 * (m : Int)) w hat (by omega) (by omega)
      rwa [hk] at this)
    have hmb : ((m : Int) == 0) = false := beq_eq_false_iff_ne.2 (by omega)
    clear hxe hr hm hk hp hat hpe hv hln
    go_enter Tryd.func5, Tryd.ntmps5
    go_wp2_with fail
    with_reducible refine HP.out.mono ?_
    rintro e w1 ⟨A1, c2, rfl, o2, b2⟩
    clear HP
    obtain ⟨g, cap, hv, hgb, hlt⟩ := o2.form (by omega)
    obtain ⟨_, k1, k2⟩ := own_some o2 (by omega)
    injection hv with e1 e2 e3
    subst e1; subst e3
    go_wp2_with fail
    refine (HB.out w1).mono ?_
    rintro e w3 ⟨rfl, rfl⟩
    clear HB
    go_wp2_with fail
    have HN := Lib.hid (show bnum (nats x) = bnum (nats x) ^^^ 2 ^ k * (p % 2 ^ 0) by rw [Nat.pow_zero, Nat.mod_one, Nat.mul_zero, Nat.xor_zero])
    go_loopw [10, 11] (fun t i wr => ∃ (j : Nat) (y : List Int) (tb : Bool), j ≤ 32 ∧ k + j ≤ 8 * m ∧ i = .int .i64 j ∧ t = .bool tb ∧ Hid (tb = decide (p % 2 ^ j ≠ 0)) ∧ Hid (y.length = m ∧ U8 y ∧ bnum (nats y) = bnum (nats x) ^^^ 2 ^ k * (p % 2 ^ j)) ∧ Hid (tb = false → y = x) ∧
      wr.ownsRow w.heap.size 5 1 (.slice (some ⟨g, 0, none⟩) m c2) m (ints .u8 y) ∧ Below w.heap.size w wr) (fun _ i _ => 32 - (intOf i).toNat)
    case atStart => exact ⟨0, x, false, by omega, by omega, rfl, rfl, Lib.hid (by simp [Nat.mod_one]), Lib.hid ⟨HX.out.2.1, HX.out.1, HN.out⟩, Lib.hid (fun _ => rfl), o2, b2⟩
    case round =>
      obtain ⟨j, y, tb, hj, hkj, rfl, rfl, HTb, HY, HYX, hown, hb⟩ := hrel
      rename World => ws
      by_cases hgo : j < 32 ∧ k + j < 8 * m
      · obtain ⟨hj2, hkj2⟩ := hgo
        have hj3 : (j : Int) < 32 := by omega
        have hj0 : (0 : Int) ≤ (j : Int) := by omega
        have hkj3 : (k : Int) + (j : Int) < 8 * (m : Int) := by omega
        have hkj0 : (0 : Int) ≤ (k : Int) + (j : Int) := by omega
        have HT := Lib.hid (bit_test p j hp2)
        by_cases hbit : p / 2 ^ j % 2 = 1
        · have hd : (bits .and .u32 ((p : Int) / 2 ^ j) 1 == 1) = true := by rw [HT.out, hbit]; rfl
          obtain ⟨q, r, hqr, hr8⟩ : ∃ q r : Nat, k + j = 8 * q + r ∧ r < 8 := ⟨(k + j) / 8, (k + j) % 8, by omega, by omega⟩
          have hq : q < m := by omega
          have HQ := Lib.hid (And.intro (show (k + j) / 8 = q by omega) (show (k + j) % 8 = r by omega))
          obtain ⟨z, hz, hgz, _⟩ := byte_at HY.out.2.1 q (by have := HY.out.1; omega)
          have hcell := (hown.cellAt q (by omega)).trans hgz
          have hfz := hown.frozenAt q
          have HOwn := Lib.hid hown
          have HB2 := Lib.hid hb
          have HBit := Lib.hid hbit
          have t1 : ((k : Int) + (j : Int)).tdiv 8 = (q : Int) := by rw [Int.tdiv_eq_ediv_of_nonneg (by omega)]; omega
          have t2 : ((k : Int) + (j : Int)).tmod 8 = (r : Int) := by rw [Int.tmod_eq_emod_of_nonneg (by omega)]; omega
          have hw : IntKind.i64.wrap ((k : Int) + (j : Int)) = (k : Int) + (j : Int) := by rw [IntKind.wrap_i64]; omega
          have hwq : IntKind.i64.wrap (q : Int) = (q : Int) := by rw [IntKind.wrap_i64]; omega
          have hq0 : (0 : Int) ≤ (q : Int) := by omega
          have hq1 : (q : Int) < (m : Int) := by omega
          have hr0 : (0 : Int) ≤ (r : Int) := by omega
          have hna := nat_at hgz
          have HV := Lib.hid (turn_val z r hz hr8)
          have HS := Lib.hid (turn_bit (k := k) (i := j) (p := p) HY.out.2.1.byt (by rw [HQ.out.1]; exact hna) HY.out.2.2 hbit)
          clear hown hb hgz hbit hna HYX
          go_wp2_with fail
          go_region_with fail
          rw [HV.out.1]
          go_wp2
          go_roundw
          case rel =>
            refine ⟨j + 1, y.set q ((z ^^^ 2 ^ r : Nat) : Int), true, by omega, by omega, by go_num, rfl, Lib.hid ?_, Lib.hid ⟨?_, u8_set HY.out.2.1 HV.out.2, ?_⟩, Lib.hid (fun h => by cases h), ?_, ?_⟩
            · have := any_next HBit.out
              simp [this]
            · rw [List.length_set]; exact HY.out.1
            · have := HS.out
              rw [HQ.out.1, HQ.out.2] at this
              rw [nats_set]; exact this
            · rw [← ints_set]
              exact (HOwn.out.stored q (.int .u8 ((z ^^^ 2 ^ r : Nat) : Int))).1
            · exact (HB2.out.grown (row := some g) (HOwn.out.stored q (.int .u8 ((z ^^^ 2 ^ r : Nat) : Int))).2 HB2.out.size (by simp; omega)).drew
          case measure => simp [intOf]; omega
        · have hd : (bits .and .u32 ((p : Int) / 2 ^ j) 1 == 1) = false := by
            rw [HT.out, show p / 2 ^ j % 2 = 0 by omega]; rfl
          have h0 : p / 2 ^ j % 2 = 0 := by omega
          have H0 := Lib.hid h0
          clear hbit h0
          go_wp2_with fail
          refine ⟨⟨j + 1, y, tb, by omega, by omega, by go_num, rfl, Lib.hid ?_, Lib.hid ⟨HY.out.1, HY.out.2.1, keep_bit HY.out.2.2 H0.out⟩, HYX, hown, hb⟩, by simp [intOf]; omega⟩
          rw [any_keep H0.out]
          exact HTb.out
      · have hP : p % 2 ^ j < 4294967296 := Nat.lt_of_le_of_lt (Nat.mod_le _ _) hp2
        have hse := turned_sealed HX.out.1 HY.out.2.1 (by rw [HX.out.2.1]; omega) (by rw [HX.out.2.1]; exact HY.out.1) HX.out.2.2 (by rw [HX.out.2.1]; omega) hP HY.out.2.2
        have hst : sealedI y = !tb := by rw [hse, HTb.out]; simp
        have HW := Lib.hid hb
        have HR2 := Lib.hid (HR.out.on hb)
        have RY := Row.own hown
        have hd : (j < 32 ∧ decide ((k : Int) + (j : Int) < 8 * (m : Int)) = false) ∨ decide ((j : Int) < 32) = false := by
          by_cases h : j < 32
          · exact .inl ⟨h, by simp; omega⟩
          · exact .inr (by simp; omega)
        have hk1' : m ≤ c2 := k1
        cases tb
        case' true => have HC := Lib.hid (Unpack_is (some ⟨g, 0, none⟩) m c2 y ws [] 0 80 (unsealed_bad hst) rfl RY HY.out.1 HY.out.2.1 (by omega) k1 k2)
        case' false => have HC := Lib.hid (Unpack_is (some ⟨g, 0, none⟩) m c2 y ws es n 0 (by rw [HYX.out rfl]; exact HE.out) HNn.out RY HY.out.1 HY.out.2.1 (by omega) k1 k2)
        all_goals
          clear hse hst hP hb hown RY HR
          rcases hd with ⟨hd1, hd2⟩ | hd2
          case' inl => have hd3 : (j : Int) < 32 := by omega
        all_goals
          clear hgo
          go_wp2_with fail
          with_reducible refine HC.out.mono ?_
          rintro e w4 ⟨A4, c4, rfl, r4, h4⟩
          replace HW := Lib.hid (next HW.out h4)
          replace HR2 := Lib.hid (HR2.out.on h4)
          have HR4 := Lib.hid r4
          clear h4 HC r4
          go_wp2_with fail
        all_goals first
          | (with_reducible refine (awake_true w4).mono ?_
             rintro e w6 ⟨rfl, h5⟩
             have hb6 := next HW.out h5
             go_wp2_with fail
             go_ret
             exact ⟨rfl, hb6⟩)
          | (have HSm : Hid (Calls Tryd.prog 16 #[.slice A4 n c4, .slice A n c] w4 fun e w' => e = .returned (.bool true) ∧ Below w4.heap.size w4 w') := Lib.hid (by
               have := SameE_any A4 A n n c4 c es es w4 HR4.out HR2.out (by omega) (by omega)
               rwa [show decide (es = es) = true by simp] at this)
             with_reducible refine HSm.out.mono ?_
             rintro e w5 ⟨rfl, b5⟩
             replace HW := Lib.hid (next HW.out b5)
             clear HSm b5
             go_wp2_with fail
             with_reducible refine (awake_true w5).mono ?_
             rintro e w6 ⟨rfl, h5⟩
             have hb6 := next HW.out h5
             go_wp2_with fail
             go_ret
             exact ⟨rfl, hb6⟩)
end Go.Proofs.YtpeepolmbcakbaaDoor
