/- The laws' tells. -/
import Derived.Test.YtomjdicedjdpnaaCLawKit
namespace Go.Proofs.Ytomjdicedjdpnaa
open Go.RowKit

set_option maxRecDepth 100000 in
set_option maxHeartbeats 4000000 in
theorem tells_yes (p line : ByteArray) (A' : Option Addr) (m c' : Nat) (L : List Lb) (hp : p.size ≤ 1000000) (hs : line.size ≤ 100000000) (hv : cutV p line = some L) (w : World) (hw : Row w w.heap.size A' m (cL L)) (hL : L.length ≤ 1000) (hM : MX w) :
    Calls Try.prog 26 #[.string p, .string line, .slice A' m c'] w fun e w' => e = .returned (.bool true) ∧ Below w.heap.size w w' := by
  have HC := Lib.hid (lcut_any p line hp hs w hM)
  have HW := Lib.hid hw
  have HV := Lib.hid hv
  obtain ⟨n, hn⟩ : ∃ n, L.length = n := ⟨_, rfl⟩
  have hm : m = n * 2 := by have := hw.1; rw [cL_len, hn] at this; omega
  have HN := Lib.hid hn
  have HMm := Lib.hid hm
  have e0 : (2 : Int) * (n : Int) = (m : Int) := by omega
  have e1 : ((m : Int) == (m : Int)) = true := beq_self_eq_true _
  have e2 : IntKind.i64.wrap (m : Int) = (m : Int) := by rw [IntKind.wrap_i64]; omega
  clear hw hv hM
  go_enter Try.func26, Try.ntmps26
  go_wp2_with fail
  with_reducible refine HC.out.mono ?_
  rintro e w1 ⟨b1, ⟨hr, rfl⟩ | ⟨L', A, n', c, hr, rfl, r, h1, h2⟩⟩
  · rw [HV.out] at hr
    cases hr
  · have hLL : L = L' := by
      have h := HV.out
      rw [hr] at h
      exact (Option.some.inj h).symm
    subst hLL
    obtain rfl : n = n' := hn.symm.trans r.1
    have HR := Lib.hid r
    have HB := Lib.hid b1
    clear hr r b1 hn hm
    go_wp2_with fail
    go_loopw [9] (fun p wr => ∃ k : Nat, k ≤ n ∧ p = .int .i64 (k : Int) ∧ Hid (Below w1.heap.size w1 wr)) (fun p _ => n - (intOf p).toNat)
    case atStart => exact ⟨0, by omega, rfl, Lib.hid (Below.refl _ _)⟩
    case round =>
      obtain ⟨k, hk, rfl, HBw⟩ := hrel
      rename World => wr
      by_cases hlt : k < n
      · obtain ⟨b, off, rfl, hb1, h1⟩ := HR.out.2 (by omega)
        obtain ⟨b', off', rfl, hb2, h2⟩ := HW.out.2 (by have := HMm.out; omega)
        have hb2' : b' < w1.heap.size := Nat.lt_of_lt_of_le hb2 HB.out.size
        have a1 := (HBw.out.cell (p := ⟨b, off + k * 2, none⟩) hb1).trans (h1 k hlt).1
        have a2 := (HBw.out.cell (p := ⟨b, off + k * 2 + 1, none⟩) hb1).trans (h1 k hlt).2
        have hg := cL_get L k (by rw [HN.out]; exact hlt)
        have hmm := HMm.out
        obtain ⟨q, hq⟩ : ∃ q, k * 2 = q := ⟨_, rfl⟩
        obtain ⟨q1, hq1⟩ : ∃ q1, k * 2 + 1 = q1 := ⟨_, rfl⟩
        have d1 : wr.cell? ⟨b', off' + q, none⟩ = some (.string (L.getD k noL).1) := (HBw.out.cell (p := ⟨b', off' + q, none⟩) hb2').trans ((HB.out.cell (p := ⟨b', off' + q, none⟩) hb2).trans ((h2 q (by omega)).trans (by rw [← hq]; exact hg.1)))
        have d2 : wr.cell? ⟨b', off' + q1, none⟩ = some (.string (L.getD k noL).2) := (HBw.out.cell (p := ⟨b', off' + q1, none⟩) hb2').trans ((HB.out.cell (p := ⟨b', off' + q1, none⟩) hb2).trans ((h2 q1 (by omega)).trans (by rw [← hq1]; exact hg.2)))
        obtain ⟨x, hx⟩ : ∃ x, L.getD k noL = x := ⟨_, rfl⟩
        rw [hx] at a1 a2 d1 d2
        obtain ⟨x1, x2⟩ := x
        dsimp only at a1 a2 d1 d2
        have t1 : (x1.toList == x1.toList) = true := beq_self_eq_true _
        have t2 : (x2.toList == x2.toList) = true := beq_self_eq_true _
        have g0 : (0 : Int) ≤ (k : Int) := by omega
        have g1 : (k : Int) < (n : Int) := by omega
        have f1 : decide ((k : Int) < (n : Int)) = true := decide_eq_true g1
        have g2 : (2 : Int) * (k : Int) = (q : Int) := by omega
        have g3 : (q : Int) + 1 = (q1 : Int) := by omega
        have g4 : (0 : Int) ≤ (q : Int) := by omega
        have g5 : (q : Int) < (m : Int) := by omega
        have g6 : (0 : Int) ≤ (q1 : Int) := by omega
        have g7 : (q1 : Int) < (m : Int) := by omega
        have HK := Lib.hid hlt
        have hq9 : q ≤ 2000000 ∧ q1 ≤ 2000000 := by have := HN.out; omega
        have w1' : IntKind.i64.wrap (q : Int) = (q : Int) := by rw [IntKind.wrap_i64]; omega
        have w2' : IntKind.i64.wrap (q1 : Int) = (q1 : Int) := by rw [IntKind.wrap_i64]; omega
        clear hg hx h1 h2 hq hq1 hmm hq9
        go_wp2_with fail
        go_quiet (fail)
        have HB3 := Lib.hid (next HBw.out (Below.dn (Below.refl wr.heap.size wr) nq))
        go_wp2_with fail
        exact ⟨⟨k + 1, HK.out, by go_num, HB3⟩, by have := HK.out; simp [intOf]; omega⟩
      · obtain rfl : n = k := by omega
        have f3 : ¬ ((n : Int) < (n : Int)) := by omega
        have f1 : decide ((n : Int) < (n : Int)) = false := decide_eq_false f3
        go_wp2_with fail
        go_ret
        exact ⟨rfl, next HB.out HBw.out⟩
end Go.Proofs.Ytomjdicedjdpnaa
