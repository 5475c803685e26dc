/- The law NatTexts, walked. -/
import Derived.Test.YtlpfcilgndbopaaDoorNRRead
import Derived.Test.YtlpfcilgndbopaaDoorNOrderLaw
import Derived.Deep.RegionHeld3
namespace Go.Proofs.YtlpfcilgndbopaaDoor
open Go.RowKit

theorem cmpR_own (l : List Int) : (cmpR l l == 0) = true := by
  rw [cmpR, if_neg (Nat.lt_irrefl _), if_neg (Nat.lt_irrefl _), cmpI_eq]; simp
/-- Eq of two slices that read alike. -/
theorem textL_eq (a : List Int) : textL a = rTextL a := by
  rw [textL, rTextL, textOf_dec]
theorem outAny {f : Nat} {args : Array Value} {w : World} {l : List Int} {x : Int} (h : Calls Tryd.prog f args w (AddOut w l x)) :
    Calls Tryd.prog f args w fun e w' => ∃ A m c, e = .returned (.tuple #[.slice A m c, .int .i64 x]) ∧ l.length = m ∧ Row w' w'.heap.size A m (ints .u32 l) ∧ Below w.heap.size w w' := by
  refine h.mono ?_
  rintro e w' ⟨A, c, rfl, o, b⟩
  exact ⟨A, _, c, rfl, rfl, Row.own o, b⟩
theorem lim_readL (l : List UInt8) : Lim (readL l) := by unfold readL; split; exact lim_limbs _; exact Lim.nil
theorem readL_len (l : List UInt8) : (readL l).length ≤ 1000 := by
  unfold readL
  split
  · rename_i h
    unfold readE at h
    split at h
    · exact absurd h (by decide)
    · rename_i h6
      split at h
      · rename_i hn
        exact Nat.le_trans (decV_limbs hn) (by omega)
      · exact absurd h (by decide)
  · simp
theorem eqSelf {A A' : Option Addr} {n c n' c' : Nat} {a : List Int} {w : World} (h : Row w w.heap.size A n (ints .u32 a)) (h' : Row w w.heap.size A' n' (ints .u32 a)) (ha : Lim a) (hn : a.length ≤ 1000) :
    Calls Tryd.prog 21 #[.slice A n c, .slice A' n' c'] w fun e w' => e = .returned (.bool true) ∧ Below w.heap.size w w' := by
  have h1 := h.1
  rw [ints_len] at h1
  have := Eq_any A A' n c n' c' _ _ _ w h h' ha ha (by omega)
  rw [cmpR_own] at this
  refine this.mono ?_
  rintro e w' ⟨rfl, k, rfl⟩
  exact ⟨rfl, rfl, rfl, rfl, Nat.le_refl _, fun _ _ => rfl⟩

set_option maxRecDepth 100000 in
set_option maxHeartbeats 2000000 in
theorem NatTexts_walk (A0 : Option Addr) (l0 : List Int) (c0 : Nat) (s1 : ByteArray) (w : World)
    (hr0 : Row w w.heap.size A0 l0.length (ints .u32 l0)) (hc0 : l0.length ≤ c0) (hs0 : c0 * 4 ≤ 140737488351232) (hu0 : ∀ x ∈ l0, (Lit.int .u32 x).wf = true)
    (hs1 : s1.size ≤ 140737488351232) (ht : Tab w) :
    Calls Tryd.prog 5 #[.slice A0 l0.length c0, .string s1] w fun e w' => e = .returned (.bool true) ∧ Below w.heap.size w w' := by
  obtain ⟨n0, hn0⟩ : ∃ n, l0.length = n := ⟨_, rfl⟩
  obtain ⟨a, ha⟩ : ∃ a, l0.take 12 = a := ⟨_, rfl⟩
  obtain ⟨p0, hp0⟩ : ∃ p, a.length = p := ⟨_, rfl⟩
  have hmin0 : min n0 12 = p0 := by rw [← hp0, ← ha, List.length_take, hn0, Nat.min_comm]
  have hra : Row w w.heap.size A0 p0 (ints .u32 a) := by
    have h := Row.takeI hr0 (k := p0) (by omega)
    rwa [show l0.take p0 = a by rw [← ha, ← hmin0, ← hn0, Nat.min_comm, List.take_eq_take_min (i := 12)]] at h
  have hla : Lim a := ha ▸ (lim_of_wf hu0).take 12
  obtain ⟨n1, hn1⟩ : ∃ n, s1.size = n := ⟨_, rfl⟩
  obtain ⟨p1, hmin1⟩ : ∃ p, min n1 700 = p := ⟨_, rfl⟩
  have HR0 := Lib.hid (fun (w' : World) (k : Below w.heap.size w w') => hra.on k)
  have HT := Lib.hid ht
  have HU := Lib.hid hla
  have hcc0 : c0 ≤ 9223372036854775807 := by omega
  have hnc0 : n0 ≤ c0 := by omega
  have hpc0 : p0 ≤ c0 := by omega
  have hp12 : p0 ≤ 12 := by omega
  have hcc1 : n1 ≤ 9223372036854775807 := by omega
  have hpc1 : p1 ≤ n1 := by omega
  rw [hn0]
  have i0 : min (n0 : Int) 12 = (p0 : Int) := by omega
  have i1 : min (n1 : Int) 700 = (p1 : Int) := by omega
  have j0 : (p0 : Int) ≤ (c0 : Int) := by omega
  have j1 : (p1 : Int) ≤ (n1 : Int) := by omega
  have k0 : (0 : Int) ≤ (p0 : Int) := by omega
  have k1 : (0 : Int) ≤ (p1 : Int) := by omega
  clear hra hr0 hc0 hs0 hu0 ht hla hmin0 hn0 ha hs1 hmin1
  go_enter Tryd.func5, Tryd.ntmps5
  go_wp2_with fail
  go_quiet (fail)
  all_goals
    have b0 : ∀ q, Below w.heap.size w (w.drewN q) := fun q => ⟨rfl, rfl, rfl, Nat.le_refl _, fun _ _ => rfl⟩
    go_wp2_with fail
    obtain ⟨sx, hsx⟩ : ∃ s, s1.extract 0 p1 = s := ⟨_, rfl⟩
    rw [hsx]
    obtain ⟨tb, htb⟩ : ∃ b : ByteArray, (⟨(textL a).toArray⟩ : ByteArray) = b := ⟨_, rfl⟩
    obtain ⟨Kc, hKc⟩ : ∃ x, chk a = x := ⟨_, rfl⟩
    obtain ⟨l, hl⟩ : ∃ l, sx.data.toList = l := ⟨_, rfl⟩
    obtain ⟨Ke, hKe⟩ : ∃ x, readE l = x := ⟨_, rfl⟩
    have H1 := Lib.hid (fun (w' : World) (k : Below w.heap.size w w') => (by
      have h := Text_any A0 p0 c0 a w' (HR0.out w' k) HU.out (HT.out.below k)
      rwa [htb, hKc] at h : Calls Tryd.prog 34 #[.slice A0 p0 c0] w' fun e w'' => e = .returned (.tuple #[.string tb, .int .i64 Kc]) ∧ Below w'.heap.size w' w''))
    have H2 := Lib.hid (fun (w' : World) (k : Below w.heap.size w w') => (by
      have h := rText_any A0 p0 c0 a w' (HR0.out w' k) HU.out
      rwa [← textL_eq, htb, hKc] at h : Calls Tryd.prog 35 #[.slice A0 p0 c0] w' fun e w'' => e = .returned (.tuple #[.string tb, .int .i64 Kc]) ∧ Below w'.heap.size w' w''))
    have H3 := Lib.hid (fun (w' : World) => (by
      have h := outAny (Read_any sx l hl w')
      rwa [hKe] at h : Calls Tryd.prog 36 #[.string sx] w' fun e w'' => ∃ A m c, e = .returned (.tuple #[.slice A m c, .int .i64 Ke]) ∧ (readL l).length = m ∧ Row w'' w''.heap.size A m (ints .u32 (readL l)) ∧ Below w'.heap.size w' w''))
    have H4 := Lib.hid (fun (w' : World) => (by
      have h := outAny (rRead_any sx l hl w')
      rwa [hKe] at h : Calls Tryd.prog 37 #[.string sx] w' fun e w'' => ∃ A m c, e = .returned (.tuple #[.slice A m c, .int .i64 Ke]) ∧ (readL l).length = m ∧ Row w'' w''.heap.size A m (ints .u32 (readL l)) ∧ Below w'.heap.size w' w''))
    clear hsx htb hKc hl hKe
    with_reducible refine (H1.out _ (b0 _)).mono ?_
    rintro e w1 ⟨rfl, b1⟩
    replace b1 := next (b0 _) b1
    clear b0
    go_wp2_with fail
    with_reducible refine (H2.out w1 b1).mono ?_
    rintro e w2 ⟨rfl, b2⟩
    replace b2 := next b1 b2
    go_wp2_with fail
    with_reducible refine (H3.out w2).mono ?_
    rintro e w3 ⟨A3, k3, c3, rfl, h3, r3, b3⟩
    have HK3 := Lib.hid h3
    clear h3
    replace b3 := next b2 b3
    go_wp2_with fail
    with_reducible refine (H4.out w3).mono ?_
    rintro e w4 ⟨A4, k4, c4, rfl, h4, r4, b4⟩
    clear h4
    have E1 := eqSelf (c := c3) (c' := c4) (r3.on b4) r4 (lim_readL l) (readL_len l)
    replace b4 := next b3 b4
    clear b1 b2 b3 r3 r4
    go_wp2_with fail
    with_reducible refine E1.mono ?_
    rintro e w5 ⟨rfl, b5⟩
    replace b5 := next b4 b5
    clear E1 b4
    go_wp2_with fail
    with_reducible refine (works_any w5 (HT.out.below b5)).mono ?_
    rintro e wf ⟨rfl, b6⟩
    go_wp2
    go_ret
    exact ⟨rfl, next b5 b6⟩
end Go.Proofs.YtlpfcilgndbopaaDoor
