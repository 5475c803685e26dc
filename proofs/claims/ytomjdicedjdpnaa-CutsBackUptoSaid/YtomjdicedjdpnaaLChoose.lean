/- LChoose: taken over. -/
import Derived.Test.YtomjdicedjdpnaaLEq
namespace Go.Proofs.Ytomjdicedjdpnaa
open Go.RowKit

instance (x : ByteArray) (ss : List ByteArray) : Decidable (x ∈ ss) := decidable_of_iff (ss.any (fun y => decide (y = x)) = true) (by simp)
def strs (ss : List ByteArray) : List Value := ss.map Value.string
theorem strs_len (ss : List ByteArray) : (strs ss).length = ss.length := by simp [strs]
theorem strs_get (ss : List ByteArray) (j : Nat) (h : j < ss.length) : (strs ss)[j]? = some (.string (ss.getD j ByteArray.empty)) := by
  simp [strs, h]
theorem mem_take {ss : List ByteArray} {x : ByteArray} {k : Nat} (h : k < ss.length) : x ∈ ss.take (k + 1) ↔ x ∈ ss.take k ∨ ss.getD k ByteArray.empty = x := by
  rw [List.take_succ_eq_append_getElem h, List.mem_append, List.mem_singleton, List.getD_eq_getElem?_getD, List.getElem?_eq_getElem h]
  exact or_congr_right ⟨fun e => e.symm, fun e => e.symm⟩
set_option maxRecDepth 100000 in
set_option maxHeartbeats 1000000 in
theorem among_any (A : Option Addr) (n c : Nat) (ss : List ByteArray) (x : ByteArray) (w : World) (hr : Row w w.heap.size A n (strs ss)) (hn : n ≤ 100000000) :
    Calls Try.prog 72 #[.slice A n c, .string x] w fun e w' => e = .returned (.bool (decide (x ∈ ss))) ∧ w = w' := by
  have HL : Hid (ss.length = n) := Lib.hid (by rw [← strs_len]; exact hr.1)
  have HR := Lib.hid hr
  clear hr
  go_enter Try.func72, Try.ntmps72
  go_wp2_with fail
  go_loopw [5] (fun p wr => ∃ k : Nat, k ≤ n ∧ p = .int .i64 (k : Int) ∧ Hid (x ∉ ss.take k) ∧ w = wr) (fun p _ => n - (intOf p).toNat)
  case atStart => exact ⟨0, by omega, rfl, Lib.hid (by simp), rfl⟩
  case round =>
    obtain ⟨k, hk, rfl, HN, rfl⟩ := hrel
    by_cases hlt : k < n
    · obtain ⟨b, off, rfl, _, hc⟩ := HR.out.2 (by omega)
      have HK : Hid (k < ss.length) := Lib.hid (by rw [HL.out]; exact hlt)
      have c1 := (hc k hlt).trans (strs_get _ _ HK.out)
      obtain ⟨y, hy⟩ : ∃ y, ss.getD k ByteArray.empty = y := ⟨_, rfl⟩
      rw [hy] at c1
      have HY := Lib.hid hy
      have g0 : (0 : Int) ≤ (k : Int) := by omega
      have g1 : (k : Int) < (n : Int) := by omega
      have f1 : decide ((k : Int) < (n : Int)) = true := decide_eq_true g1
      clear hc hy
      by_cases he : y = x
      · have e1 := seq_yes he
        have HF : Hid (decide (x ∈ ss) = true) := Lib.hid (decide_eq_true (List.mem_of_mem_take ((mem_take HK.out).2 (.inr (HY.out.trans he)))))
        clear he
        go_wp2_with fail
        go_ret
        rw [HF.out]
        exact ⟨rfl, rfl⟩
      · have e1 := seq_no he
        have HN2 : Hid (x ∉ ss.take (k + 1)) := Lib.hid (fun h => ((mem_take HK.out).1 h).elim HN.out (fun k => he (HY.out.symm.trans k)))
        clear he
        go_wp2_with fail
        exact ⟨⟨k + 1, hlt, by go_num, HN2, trivial⟩, by simp [intOf]; omega⟩
    · have f1 : decide ((k : Int) < (n : Int)) = false := decide_eq_false (by omega)
      have HF : Hid (decide (x ∈ ss) = false) := Lib.hid (decide_eq_false (by have h := HN.out; rwa [List.take_of_length_le (by rw [HL.out]; omega)] at h))
      go_wp2_with fail
      go_ret
      rw [HF.out]
      exact ⟨rfl, rfl⟩
theorem filter_snoc (p : Lb → Bool) {l : List Lb} {i : Nat} {x : Lb} (h : i < l.length) (hx : l.getD i noL = x) : (l.take (i + 1)).filter p = (l.take i).filter p ++ (if p x then [x] else []) := by
  rw [take_snocL h, hx, List.filter_append, List.filter_cons, List.filter_nil]
theorem filter_le (p : Lb → Bool) (l : List Lb) (i : Nat) : ((l.take i).filter p).length ≤ l.length := by
  have h1 := List.length_filter_le p (l.take i)
  rw [List.length_take] at h1
  omega
/-- By's, Without's choice. -/
def chosen (ss : List ByteArray) (b : Bool) (x : ByteArray) : Bool := decide (x ∈ ss) == b
set_option maxRecDepth 100000 in
set_option maxHeartbeats 4000000 in
theorem choose_any (A A' : Option Addr) (n m c c' : Nat) (l : List Lb) (ss : List ByteArray) (q : Bool) (w : World) (hr : RowL w w.heap.size A n l) (hs : Row w w.heap.size A' m (strs ss)) (hn : n ≤ 10000000) (hm : m ≤ 10000000) :
    Calls Try.prog 65 #[.slice A n c, .slice A' m c', .bool q] w (LOut w (pickL l (chosen ss q))) := by
  obtain ⟨i0, hi0, hz0, hz1, hz2⟩ := info_partsL lb_info
  have HL := Lib.hid hr.1
  have HR := Lib.hid hr
  have HC := Lib.hid (fun w' (hb : Below w.heap.size w w') => rInOrder_any A n c l w' (hr.on hb) (by omega))
  have HM := Lib.hid (fun x w' (hb : Below w.heap.size w w') => among_any A' m c' ss x w' (hs.on hb) (by omega))
  clear hr hs
  by_cases hO : Ord l
  · have HP : Hid (pickL l (chosen ss q) = l.filter (fun x => chosen ss q x.1)) := Lib.hid (by rw [pickL, if_pos hO])
    have HO := Lib.hid (decide_eq_true hO)
    clear hO
    go_enter Try.func65, Try.ntmps65
    go_wp2_with fail
    go_loopw [7, 8] (fun o p wr => ∃ i : Nat, i ≤ n ∧ p = .int .i64 (i : Int) ∧ wr.ownsRow w.heap.size 77 2 o ((l.take i).filter (fun x => chosen ss q x.1)).length (cL ((l.take i).filter (fun x => chosen ss q x.1))) ∧ Below w.heap.size w wr) (fun _ p _ => n - (intOf p).toNat)
    case atStart => exact ⟨0, by omega, rfl, World.ownsRow_nil _ _ _ _, Below.refl _ _⟩
    case round =>
      obtain ⟨i, hi, rfl, hown, hb⟩ := hrel
      by_cases hlt : i < n
      · have f1 : decide ((i : Int) < (n : Int)) = true := decide_eq_true (by omega)
        have C := HC.out wr hb
        rw [HO.out] at C
        replace C := Lib.hid C
        have HI : Hid (i < l.length) := Lib.hid (by rw [HL.out]; exact hlt)
        have hfl := filter_le (fun x => chosen ss q x.1) l i
        rw [HL.out] at hfl
        obtain ⟨F, hF⟩ : ∃ F, (l.take i).filter (fun x => chosen ss q x.1) = F := ⟨_, rfl⟩
        rw [hF] at hown hfl
        have HF := Lib.hid hF
        have HOw := Lib.hid hown
        have HBr := Lib.hid hb
        have hlti : (i : Int) < (n : Int) := by omega
        clear hown hb hF
        go_wp2_with fail
        with_reducible refine C.out.mono ?_
        rintro e w2 ⟨rfl, b2⟩
        obtain ⟨b, off, rfl, hbB, hc⟩ := HR.out.2 (by omega)
        obtain ⟨c1, c2⟩ := hc i hlt
        have hb2 := HBr.out.trans (b2.mono HBr.out.size)
        replace c1 := (hb2.cell (p := ⟨b, off + i * 2, none⟩) hbB).trans c1
        replace c2 := (hb2.cell (p := ⟨b, off + i * 2 + 1, none⟩) hbB).trans c2
        obtain ⟨x, hx⟩ : ∃ x, l.getD i noL = x := ⟨_, rfl⟩
        rw [hx] at c1 c2
        have HX := Lib.hid hx
        obtain ⟨x1, x2⟩ := x
        dsimp only at c1 c2
        have g0 : (0 : Int) ≤ (i : Int) := by omega
        have C2 := HM.out x1 w2 hb2
        obtain ⟨t, ht⟩ : ∃ t, decide (x1 ∈ ss) = t := ⟨_, rfl⟩
        rw [ht] at C2
        replace C2 := Lib.hid C2
        have HN : Hid (((l.take (i + 1)).filter (fun x => chosen ss q x.1)) = F ++ (if (t == q) = true then [(x1, x2)] else [])) := Lib.hid (by
          rw [filter_snoc _ HI.out HX.out, HF.out]; dsimp only; unfold chosen; rw [ht])
        have HO2 := Lib.hid (own_onL HOw.out b2)
        have HB2 := Lib.hid hb2
        clear C b2 hb2 hc hx ht HOw HBr
        go_wp2_with fail
        with_reducible refine C2.out.mono ?_
        rintro e w3 ⟨rfl, rfl⟩
        clear C2
        by_cases hk : (t == q) = true
        · rw [if_pos hk] at HN
          have hown := HO2.out
          have hbs := HB2.out.size
          go_wp2_with (at_builtin; refine wpList_appL _ rfl (.tmp 28) (.tmp 33) 31 rfl w.heap.size 77 i0 Try.underlying31 hi0 hz0 hz1 hz2 _ _ _ rfl (hown.alloc _) _ _ 1 1 _ rfl (RowL.one _ _ _ _) (by omega) (by simp; omega) ?_)
          intro v' w' hown' _ hb'
          have hb3 : Below w.heap.size w w' := (HB2.out.alloc HB2.out.size _).trans hb'
          have ho3 : w'.ownsRow w.heap.size 77 2 v' ((l.take (i + 1)).filter (fun x => chosen ss q x.1)).length (cL ((l.take (i + 1)).filter (fun x => chosen ss q x.1))) := by
            rw [HN.out, cL_app, List.length_append]; exact hown'
          clear hown hown' hb' hk
          go_wp2_with fail
          exact ⟨⟨i + 1, hlt, by go_num, ho3, hb3⟩, by simp [intOf]; omega⟩
        · rw [if_neg hk, List.append_nil] at HN
          replace hk := Bool.eq_false_iff.2 hk
          go_wp2_with fail
          exact ⟨⟨i + 1, hlt, by go_num, by rw [HN.out]; exact HO2.out, HB2.out⟩, by simp [intOf]; omega⟩
      · have f1 : decide ((i : Int) < (n : Int)) = false := decide_eq_false (by omega)
        rw [List.take_of_length_le (by rw [HL.out]; omega), ← HP.out] at hown
        obtain ⟨A1, c1, rfl⟩ := ownL_slice hown
        have HOw := Lib.hid hown
        clear hown
        go_wp2_with fail
        go_ret
        exact ⟨A1, c1, rfl, HOw.out, hb⟩
  · have HP : Hid (pickL l (chosen ss q) = []) := Lib.hid (by rw [pickL, if_neg hO])
    have HO := Lib.hid (decide_eq_false hO)
    clear hO
    go_enter Try.func65, Try.ntmps65
    go_wp2_with fail
    go_loopw [7, 8] (fun o p wr => o = .slice none 0 0 ∧ p = .int .i64 0 ∧ w = wr) (fun _ p _ => 0)
    case atStart => exact ⟨rfl, rfl, rfl⟩
    case round =>
      obtain ⟨rfl, rfl, rfl⟩ := hrel
      rcases Nat.eq_zero_or_pos n with h0 | h0
      · subst h0
        go_wp2_with fail
        go_ret
        rw [HP.out]
        exact ⟨none, 0, rfl, World.ownsRow_nil _ _ _ _, Below.refl _ _⟩
      · have f1 : decide ((0 : Int) < (n : Int)) = true := decide_eq_true (by omega)
        have f2 : (0 : Int) < (n : Int) := by omega
        have C := HC.out w (Below.refl _ _)
        rw [HO.out] at C
        replace C := Lib.hid C
        go_wp2_with fail
        with_reducible refine C.out.mono ?_
        rintro e w2 ⟨rfl, b2⟩
        go_wp2_with fail
        go_ret
        rw [HP.out]
        exact ⟨none, 0, rfl, World.ownsRow_nil _ _ _ _, b2⟩
theorem strs_one (w : World) (e : TypeId) (x : ByteArray) : Row (w.alloc (.cells #[.string x] e)) (w.alloc (.cells #[.string x] e)).heap.size (some ⟨w.heap.size, 0, none⟩) 1 (strs [x]) := by
  have := Row.one w e (.string x)
  rwa [← World.size_alloc w (.cells #[.string x] e)] at this
def notName (n : ByteArray) (x : ByteArray) : Bool := decide (x ≠ n)
theorem chosen_one (n : ByteArray) : chosen [n] false = notName n := by
  funext x
  unfold chosen notName
  by_cases h : x = n <;> simp [h]
set_option maxRecDepth 100000 in
set_option maxHeartbeats 1000000 in
theorem rDrop_any (A : Option Addr) (n c : Nat) (l : List Lb) (x : ByteArray) (w : World) (hr : RowL w w.heap.size A n l) (hn : n ≤ 10000000) :
    Calls Try.prog 51 #[.slice A n c, .string x] w (LOut w (pickL l (notName x))) := by
  have hb : Below w.heap.size w (w.alloc (.cells #[.string x] 9)) := (Below.refl _ w).alloc (Nat.le_refl _) _
  have HC := Lib.hid (choose_any A (some ⟨w.heap.size, 0, none⟩) n 1 c 1 l [x] false _ (hr.on hb) (strs_one w 9 x) hn (by omega))
  rw [chosen_one] at HC
  have HB := Lib.hid hb
  clear hr hb
  generalize pickL l (notName x) = r at *
  go_enter Try.func51, Try.ntmps51
  go_wp2_with fail
  with_reducible refine HC.out.mono ?_
  rintro e w2 ⟨A2, c2, rfl, o2, b2⟩
  have HO := Lib.hid (own_lowL HB.out.size o2)
  have HB2 := Lib.hid (next HB.out b2)
  clear o2 b2
  go_wp2_with fail
  go_ret
  exact ⟨A2, c2, rfl, HO.out, HB2.out⟩
end Go.Proofs.Ytomjdicedjdpnaa
