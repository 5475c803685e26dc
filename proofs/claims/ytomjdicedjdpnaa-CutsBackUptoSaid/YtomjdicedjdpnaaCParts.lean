/- The program's parts: what the iterator yields. -/
import Derived.Test.YtomjdicedjdpnaaCCap
import Derived.Test.YtomjdicedjdpnaaCRNew
namespace Go.Proofs.Ytomjdicedjdpnaa
open Go.RowKit Go.Shelf

attribute [local go_sem] Oper.semAt_some

/-- A yield: a name, a literal. -/
abbrev Pc := { x : Lb // x.1.size ≤ 1000000 ∧ x.2.size ≤ 1000000 }
def pcE (x : Pc) : Array Value := #[.string x.1.1, .string x.1.2]
/-- All that is yielded, of what is left from i on, where a name has come and its literal begins at b. -/
def yieldL (p : List Nat) (i b : Nat) (nm : List Nat) : List Cp := (nm, (p.take i).drop b ++ (segs (b - i) (p.drop i)).1) :: (segs (b - i) (p.drop i)).2
theorem yield_none {p : List Nat} {i b : Nat} (nm : List Nat) (hi : i < p.length) (hc : capN (p.drop i) = []) : yieldL p (i + 1) b nm = yieldL p i b nm := by
  unfold yieldL
  have hd : p.drop i = p[i] :: p.drop (i + 1) := List.drop_eq_getElem_cons hi
  have ht : p.take (i + 1) = p.take i ++ [p[i]] := List.take_succ_eq_append_getElem hi
  have hl : (p.take i).length = i := by rw [List.length_take]; omega
  obtain ⟨c, hcc⟩ : ∃ c, p[i] = c := ⟨_, rfl⟩
  rw [hcc] at hd ht
  clear hcc
  by_cases hb : b ≤ i
  · rw [show b - (i + 1) = 0 by omega, show b - i = 0 by omega, ht, List.drop_append_of_le_length (by omega), hd]
    rw [hd] at hc
    rw [segs_none (by simp) hc, List.headD_cons, List.tail_cons, List.append_assoc]
    rfl
  · obtain ⟨k, hk⟩ : ∃ k, b - i = k + 1 := ⟨b - i - 1, by omega⟩
    rw [show b - (i + 1) = k by omega, hk, hd, segs, List.drop_of_length_le (l := p.take i) (by omega), List.drop_of_length_le (l := p.take (i + 1)) (by rw [List.length_take]; omega)]
theorem yield_some {p : List Nat} {i b : Nat} (nm : List Nat) (hb : b ≤ i) (hc : capN (p.drop i) ≠ []) :
    yieldL p i b nm = (nm, (p.take i).drop b) :: yieldL p (i + 1) (i + (capN (p.drop i)).length + 2) (capN (p.drop i)) := by
  unfold yieldL
  rw [show b - i = 0 by omega, segs_some hc, show i + (capN (p.drop i)).length + 2 - (i + 1) = (capN (p.drop i)).length + 1 by omega, segs_drop ((capN (p.drop i)).length + 1), List.drop_drop, List.drop_drop,
    List.drop_of_length_le (l := p.take (i + 1)) (by rw [List.length_take]; omega), show i + ((capN (p.drop i)).length + 2) = i + 1 + ((capN (p.drop i)).length + 1) by omega]
  simp
theorem yield_end {p : List Nat} {b : Nat} (nm : List Nat) : yieldL p p.length b nm = [(nm, p.drop b)] := by
  unfold yieldL
  rw [List.drop_of_length_le (Nat.le_refl _), List.take_of_length_le (Nat.le_refl _)]
  cases b - p.length <;> simp [segs]
theorem yield_pos (p : List Nat) (i b : Nat) (nm : List Nat) : 0 < (yieldL p i b nm).length := by simp [yieldL]
theorem yield_all (p : List Nat) : yieldL p 0 0 [] = ([], (segs 0 p).1) :: (segs 0 p).2 := by simp [yieldL]
/-- A capture lies within; no capture begins within it. -/
theorem cap_within {p : List Nat} {i : Nat} (hc : capN (p.drop i) ≠ []) : i + (capN (p.drop i)).length + 2 ≤ p.length ∧ p.getD i 0 = 60 ∧ ∀ j, i + 1 ≤ j → j < i + (capN (p.drop i)).length + 2 → p.getD j 0 ≠ 60 := by
  obtain ⟨t, ht, hn⟩ := capN_shape hc
  have hch := (nameB_chars hn).2.2
  have hg : ∀ k, p.getD (i + k) 0 = (p.drop i).getD k 0 := fun k => by simp [List.getD_eq_getElem?_getD, List.getElem?_drop]
  have hlen := congrArg List.length ht
  simp only [List.length_drop, List.length_cons, List.length_append] at hlen
  generalize capN (p.drop i) = N at *
  refine ⟨by omega, by have := hg 0; rw [Nat.add_zero] at this; rw [this, ht]; rfl, fun j h1 h2 => ?_⟩
  obtain ⟨k, rfl⟩ : ∃ k, j = i + (k + 1) := ⟨j - i - 1, by omega⟩
  rw [hg, ht]
  show (N ++ 62 :: t).getD k 0 ≠ 60
  rw [List.getD_eq_getElem?_getD]
  by_cases hk : k < N.length
  · rw [List.getElem?_append_left hk, List.getElem?_eq_getElem hk]
    exact (hch _ (List.getElem_mem hk)).1
  · rw [List.getElem?_append_right (by omega), show k - N.length = 0 by omega]
    simp
theorem pc_snoc (pre : List Pc) (x : Pc) : toC ((pre ++ [x]).map (·.1)) = toC (pre.map (·.1)) ++ [(bl x.1.1, bl x.1.2)] := by rw [List.map_append, List.map_cons, List.map_nil, toC_snoc]
set_option maxRecDepth 100000 in
set_option maxHeartbeats 4000000 in
theorem parts1_in (n : Nat) (hn : 1 ≤ n) (l Bn B : Nat) (s : ByteArray) (hs : s.size ≤ 1000000) (J Jx : List Pc → World → Prop) (hJ : AbidesFrom B J) (N : Nat) (Y : List Cp) (hYe : Y = yieldL (bl s) 0 0 []) (hN : Y.length ≤ N)
    (hY : ∀ pre x W, J pre W → pre.length < N → YieldAt Fence.wide (n - 1) Try.prog l (pcE x) W fun e W' =>
      (e = .returned (.bool true) ∧ J (pre ++ [x]) W' ∧ (W'.cell? ⟨Bn, 0, none⟩ = W.cell? ⟨Bn, 0, none⟩ ∧ W'.cell? ⟨0, 0, none⟩ = W.cell? ⟨0, 0, none⟩)) ∨ (e = .returned (.bool false) ∧ Jx (pre ++ [x]) W'))
    (W : World) (hBn : W.cell? ⟨Bn, 0, none⟩ = some (.string s)) (hM : MX W) (h0 : J [] W) :
    CallsIn Fence.wide n Try.prog 45 #[.func (.yield l) #[] #[], .pointer (some ⟨Bn, 0, none⟩)] W fun e W' => (∃ v, e = .returned v) ∧
      ((∃ ys : List Pc, toC (ys.map (·.1)) = Y ∧ J ys W') ∨ (∃ pre : List Pc, toC (pre.map (·.1)) <+: Y ∧ Jx pre W')) := by
  refine callsIn_of_wp Try.func45 rfl trivial ?_ rfl
  simp only [Try.ntmps45, List.size_toArray, List.length_cons, List.length_nil, Nat.reduceAdd, Nat.reduceSub, Array.replicate_succ, Array.replicate_zero, List.push_toArray, List.append_toArray, List.nil_append, List.cons_append]
  have hbl := bl_len s
  gi_wp2
  gi_loopw [3, 4, 9] (fun o q p wr => ∃ (pre : List Pc) (nm : ByteArray) (b i : Nat), o = .string nm ∧ q = .int .i64 (b : Int) ∧ p = .int .i64 (i : Int) ∧ i ≤ s.size ∧ b ≤ s.size ∧ nm.size ≤ 1000000 ∧ Hid (∀ j, i ≤ j → j < b → (bl s).getD j 0 ≠ 60) ∧ Hid (toC (pre.map (·.1)) ++ yieldL (bl s) i b (bl nm) = Y) ∧ J pre wr ∧ wr.cell? ⟨Bn, 0, none⟩ = some (.string s) ∧ MX wr)
    (fun _ _ p _ => s.size - (intOf p).toNat)
  case atStart => exact ⟨[], ByteArray.empty, 0, 0, rfl, rfl, rfl, Nat.zero_le _, Nat.zero_le _, Nat.zero_le _, Lib.hid (fun j h1 h2 => by omega), Lib.hid (by rw [hYe]; rfl), h0, hBn, hM⟩
  case round =>
    clear hBn hM
    obtain ⟨pre, nm, b, i, rfl, rfl, rfl, hi, hb, hnz, HG, HY, hJs, hBn, hM⟩ := hrel
    by_cases hlt : i < s.size
    · have g0 : (0 : Int) ≤ (i : Int) := by omega
      have g1 : (i : Int) < (s.size : Int) := by omega
      have g2 : (i : Int) ≤ (s.size : Int) := by omega
      have f1 : decide ((i : Int) < (s.size : Int)) = true := decide_eq_true g1
      obtain ⟨X, hX⟩ : ∃ X, s.extract i s.size = X := ⟨_, rfl⟩
      have hbX : bl X = (bl s).drop i := by rw [← hX, bl_extract, ← hbl, List.take_length]
      have hXz : X.size ≤ 1000000 := by rw [← hX, ByteArray.size_extract]; omega
      have HC := Lib.hid (captureName_any X hXz wr hM)
      have HI := Lib.hid (And.intro hi (And.intro hlt hb))
      by_cases hc : capN (bl X) = []
      · have HY2 : Hid (toC (pre.map (·.1)) ++ yieldL (bl s) (i + 1) b (bl nm) = Y) := Lib.hid (by rw [yield_none _ (by rw [hbl]; exact hlt) (by rw [← hbX]; exact hc)]; exact HY.out)
        have HG2 : Hid (∀ j, i + 1 ≤ j → j < b → (bl s).getD j 0 ≠ 60) := Lib.hid (fun j h1 h2 => HG.out j (by omega) h2)
        rw [hc, show ofl [] = ByteArray.empty from rfl] at HC
        have HBn := Lib.hid hBn
        have HM := Lib.hid hM
        have HJ := Lib.hid hJs
        clear hc hbX hJs hM
        gi_wp2_with fail
        refine ⟨trivial, (callsIn_wide.2 HC.out).mono ?_⟩
        rintro e w2 ⟨rfl, b2⟩
        have hJ2 : J pre w2 := hJ pre wr w2 none HJ.out (below_grown b2) (fun r e => by cases e)
        have hM2 := HM.out.on b2
        have hB2 : w2.cell? ⟨Bn, 0, none⟩ = some (.string s) := (b2.cell (p := ⟨Bn, 0, none⟩) (World.block_lt_of_cell? wr _ HBn.out)).trans HBn.out
        clear b2 hBn
        gi_wp2_with fail
        exact ⟨⟨pre, nm, b, i + 1, rfl, rfl, by go_num, HI.out.2.1, hb, hnz, HG2, HY2, hJ2, hB2, hM2⟩, by have := HI.out.2.1; simp [intOf]; omega⟩
      · have hc' : capN ((bl s).drop i) ≠ [] := by rw [← hbX]; exact hc
        obtain ⟨hw1, hw2, hw3⟩ := cap_within hc'
        have hbi : b ≤ i := by
          rcases Nat.lt_or_ge i b with h | h
          · exact absurd hw2 (HG.out i (Nat.le_refl _) h)
          · exact h
        have hys := yield_some (bl nm) hbi hc'
        rw [← hbX] at hw1 hw3 hys
        obtain ⟨nx, hnx⟩ : ∃ x, ofl (capN (bl X)) = x := ⟨_, rfl⟩
        have hbn : bl nx = capN (bl X) := by
          rw [← hnx]
          obtain ⟨t, ht, _⟩ := capN_shape hc
          refine bl_ofl fun z hz => ?_
          exact bl_byt X z (by rw [ht]; simp [hz])
        rw [hnx] at HC
        rw [← hbn] at hw1 hw3 hys
        rw [bl_len] at hw1 hw3 hys
        rw [hbl] at hw1
        have hnx0 : nx.toList.isEmpty = false := by
          cases hyl : bl nx with
          | nil => exact absurd (hbn ▸ hyl) hc
          | cons c t => exact isEmpty_no hyl
        obtain ⟨q, hq⟩ : ∃ q, i + nx.size + 2 = q := ⟨_, rfl⟩
        rw [hq] at hw1 hw3 hys
        obtain ⟨V, hV⟩ : ∃ x, s.extract b i = x := ⟨_, rfl⟩
        have hbV : bl V = ((bl s).take i).drop b := by rw [← hV, bl_extract]
        have hVz : V.size ≤ 1000000 := by rw [← hV, ByteArray.size_extract]; omega
        have hlen : pre.length < N := by
          have h := congrArg List.length HY.out
          have h2 := yield_pos (bl s) i b (bl nm)
          rw [List.length_append, toC_len, List.length_map] at h
          omega
        have HY2 : Hid (toC ((pre ++ [(⟨(nm, V), hnz, hVz⟩ : Pc)]).map (·.1)) ++ yieldL (bl s) (i + 1) q (bl nx) = Y) := Lib.hid (by
          rw [pc_snoc, ← HY.out, hys, hbV, List.append_assoc]; rfl)
        have HP2 : Hid (toC ((pre ++ [(⟨(nm, V), hnz, hVz⟩ : Pc)]).map (·.1)) <+: Y) := Lib.hid ⟨_, HY2.out⟩
        have HG2 : Hid (∀ j, i + 1 ≤ j → j < q → (bl s).getD j 0 ≠ 60) := Lib.hid hw3
        obtain ⟨u1, hu1⟩ : ∃ x, (⟨#[60]⟩ : ByteArray) ++ nx = x := ⟨_, rfl⟩
        have hu1z : u1.size = 1 + nx.size := by rw [← hu1, ByteArray.size_append]; rfl
        obtain ⟨u2, hu2⟩ : ∃ x, u1 ++ (⟨#[62]⟩ : ByteArray) = x := ⟨_, rfl⟩
        have hu2z : u2.size = u1.size + 1 := by rw [← hu2, ByteArray.size_append]; rfl
        have one1 : (⟨#[60]⟩ : ByteArray).size = 1 := rfl
        have one2 : (⟨#[62]⟩ : ByteArray).size = 1 := rfl
        have hra1 := add_runC ⟨#[60]⟩ nx u1 hu1 (by omega)
        have hra2 := add_runC u1 ⟨#[62]⟩ u2 hu2 (by omega)
        have k1 : (i : Int) + (u2.size : Int) = (q : Int) := by omega
        have k2 : IntKind.i64.wrap (q : Int) = (q : Int) := by rw [IntKind.wrap_i64]; omega
        have k3 : (0 : Int) ≤ (b : Int) := by omega
        have k4 : (b : Int) ≤ (i : Int) := by omega
        have hqs : q ≤ s.size := hw1
        have hnxz : nx.size ≤ 1000000 := by omega
        have HBn := Lib.hid hBn
        have HM := Lib.hid hM
        have HJ := Lib.hid hJs
        clear hc hc' hbX hJs hM hw1 hw2 hw3 hys hbn hnx hq hbV hu1 hu1z hu2 hu2z
        gi_wp2_with fail
        refine ⟨trivial, (callsIn_wide.2 HC.out).mono ?_⟩
        rintro e w2 ⟨rfl, b2⟩
        have hJ2 : J pre w2 := hJ pre wr w2 none HJ.out (below_grown b2) (fun r e => by cases e)
        have HM2 := Lib.hid (HM.out.on b2)
        have hB2 : w2.cell? ⟨Bn, 0, none⟩ = some (.string s) := (b2.cell (p := ⟨Bn, 0, none⟩) (World.block_lt_of_cell? wr _ HBn.out)).trans HBn.out
        have HB2 := Lib.hid hB2
        clear b2 hBn HBn HM HJ
        obtain ⟨fn, tmps, assign, body, hy, hR⟩ := hY pre ⟨(nm, V), hnz, hVz⟩ w2 hJ2 hlen
        dsimp only [pcE] at hy
        gi_wp2
        refine hR.mono ?_
        rintro e W3 (⟨rfl, hJ3, hK1, hK2⟩ | ⟨rfl, hJx3⟩)
        · have hB3 : W3.cell? ⟨Bn, 0, none⟩ = some (.string s) := hK1.trans HB2.out
          have HM3 : Hid (MX W3) := Lib.hid (by obtain ⟨m, hm⟩ := HM2.out; exact ⟨m, hK2.trans hm⟩)
          clear hK1 hK2 hR hy hB2
          gi_wp2_with fail
          exact ⟨⟨_, nx, q, i + 1, rfl, rfl, by go_num, HI.out.2.1, hqs, hnxz, HG2, HY2, hJ3, hB3, HM3.out⟩, by have := HI.out.2.1; simp [intOf]; omega⟩
        · gi_wp2
          refine bodyPost_ret (results_none rfl _ _ _) rfl ?_
          exact ⟨⟨_, rfl⟩, .inr ⟨_, HP2.out, hJx3⟩⟩
    · obtain rfl : i = s.size := by omega
      have f3 : ¬ ((s.size : Int) < (s.size : Int)) := by omega
      have f1 : decide ((s.size : Int) < (s.size : Int)) = false := decide_eq_false f3
      obtain ⟨V, hV⟩ : ∃ x, s.extract b s.size = x := ⟨_, rfl⟩
      have hbV : bl V = (bl s).drop b := by rw [← hV, bl_extract, ← hbl, List.take_length]
      have hVz : V.size ≤ 1000000 := by rw [← hV, ByteArray.size_extract]; omega
      have hys := yield_end (p := bl s) (b := b) (bl nm)
      rw [hbl] at hys
      have hlen : pre.length < N := by
        have h := congrArg List.length HY.out
        have h2 := yield_pos (bl s) s.size b (bl nm)
        rw [List.length_append, toC_len, List.length_map] at h
        omega
      have HY2 : Hid (toC ((pre ++ [(⟨(nm, V), hnz, hVz⟩ : Pc)]).map (·.1)) = Y) := Lib.hid (by rw [pc_snoc, ← HY.out, hys, hbV])
      have k3 : (0 : Int) ≤ (b : Int) := by omega
      have k4 : (b : Int) ≤ (s.size : Int) := by omega
      obtain ⟨fn, tmps, assign, body, hy, hR⟩ := hY pre ⟨(nm, V), hnz, hVz⟩ wr hJs hlen
      dsimp only [pcE] at hy
      clear hys hbV hi hlt HG hM
      gi_wp2
      refine hR.mono ?_
      rintro e W3 (⟨rfl, hJ3, _, _⟩ | ⟨rfl, hJx3⟩)
      · gi_wp2
        go_end0
        exact ⟨⟨_, rfl⟩, .inl ⟨_, HY2.out, hJ3⟩⟩
      · gi_wp2
        go_end0
        exact ⟨⟨_, rfl⟩, .inr ⟨_, ⟨[], by rw [HY2.out, List.append_nil]⟩, hJx3⟩⟩
theorem parts_in (n : Nat) (s : ByteArray) (w : World) :
    CallsIn Fence.wide n Try.prog 28 #[.string s] w fun e w' => e = .returned (.func (.func 45) #[] #[.pointer (some ⟨w.heap.size, 0, none⟩)]) ∧ w' = w.alloc (.cells #[.string s] 9) := by
  refine callsIn_of_wp Try.func28 rfl trivial ?_ rfl
  simp only [Try.ntmps28, List.size_toArray, List.length_cons, List.length_nil, Nat.reduceAdd, Nat.reduceSub, Array.replicate_succ, Array.replicate_zero, List.push_toArray, List.append_toArray, List.nil_append, List.cons_append]
  gi_wp2
  go_ret
  exact ⟨rfl, rfl⟩
/-- What a round of the caller leaves as it is. -/
def KpC (Bn : Nat) (W W' : World) : Prop := W'.cell? ⟨Bn, 0, none⟩ = W.cell? ⟨Bn, 0, none⟩ ∧ W'.cell? ⟨0, 0, none⟩ = W.cell? ⟨0, 0, none⟩
theorem parts_stops (n : Nat) (hn : 1 ≤ n) (Bn : Nat) (s : ByteArray) (hs : s.size ≤ 1000000) (w : World) (hB : Bn < w.heap.size) (hc : w.cell? ⟨Bn, 0, none⟩ = some (.string s)) (hM : MX w) :
    SeqStopsK Fence.wide n Try.prog 45 #[.pointer (some ⟨Bn, 0, none⟩)] pcE (KpC Bn) (fun ys : List Pc => toC (ys.map (·.1)) = yieldL (bl s) 0 0 []) (fun pre : List Pc => toC (pre.map (·.1)) <+: yieldL (bl s) 0 0 []) (yieldL (bl s) 0 0 []).length w := fun l J Jx W hW hJ _ hY h0 =>
  parts1_in n hn l Bn W.heap.size s hs J Jx hJ _ _ rfl (Nat.le_refl _) hY W ((hW.cell (p := ⟨Bn, 0, none⟩) hB).trans hc) (hM.on hW) h0
end Go.Proofs.Ytomjdicedjdpnaa
