/- LSetQ: taken over. -/
import Derived.Test.YtomjdicedjdpnaaLPut
namespace Go.Proofs.Ytomjdicedjdpnaa
open Go.RowKit

theorem wpList_appLN {P : Program} (w : World) {ops : Array Oper} {rest : List Oper} {o : Oper} {a : Act} {Q : Exit → Act → World → Prop} (hgd : o.guard = none) (s x : Operand) (t : TypeId)
    (ho : o.op = .call { callee := .builtin .append, args := #[s, x], argTypes := #[t, t] })
    (base : Nat) (e : TypeId) (i : TypeInfo) (ht : P.underlying t = some (.slice e)) (hi : P.info? e = some i) (hz : i.zero = some (.agg #[.string ByteArray.empty, .string ByteArray.empty]))
    (hsize : i.size = 2) (hby : i.bytes = 32)
    (v : Value) (n : Nat) (xs : List Value) (hs : a.eval s = v) (hown : w.ownsRow base e 2 v n xs)
    (B : Nat) (A : Option Addr) (m c : Nat) (l : List Lb) (hx : a.eval x = .slice A m c) (hr : RowL w B A m l)
    (h63 : n + m ≤ 1000000000) (hbase : base ≤ w.heap.size) (N : Nat) (hN : n + m = N)
    (h : ∀ A' c' w', w'.ownsRow base e 2 (.slice A' N c') N (xs ++ cL l) → Below base w w' → wpList P ops Q rest (a.put o.dst (.slice A' N c')) w') : wpList P ops Q (o :: rest) a w := by
  subst hN
  exact wpList_appL w hgd s x t ho base e i ht hi hz hsize hby v n xs hs hown B A m c l hx hr h63 hbase fun v' w' h1 _ h3 => by
    obtain ⟨A1, c1, rfl⟩ := ownL_slice h1
    exact h A1 c1 w' h1 h3
theorem geq_no {a b : ByteArray} (h : lt a b) : (!Op.bytesLess a.toList b.toList) = false := by rw [less_lt, decide_eq_true h]; rfl
theorem geq_yes {a b : ByteArray} (h : ¬ lt a b) : (!Op.bytesLess a.toList b.toList) = true := by rw [less_lt, decide_eq_false h]; rfl
/-- How Set's parts stand: at, and behind what has the name. -/
theorem setL_at {l : List Lb} {n v : ByteArray} {k : Nat} (hO : Ord l) (h : At l n k) (q : Nat) (hq : (q = k + 1 ∧ k < l.length ∧ (l.getD k noL).1 = n) ∨ (q = k ∧ (k < l.length → (l.getD k noL).1 ≠ n))) :
    l.take k ++ (if v = ByteArray.empty then [] else [(n, v)]) ++ l.drop q = setL l n v := by
  rw [setL, if_pos hO, rise_split hO.2 n k h.1 h.2]
  have hk : hi n l = l.drop q := by
    refine rise_rest n q (fun x hx => ?_) (fun x hx => ?_)
    · rcases hq with ⟨rfl, h1, h2⟩ | ⟨rfl, _⟩
      · rw [take_snocL h1] at hx
        rcases List.mem_append.1 hx with hx | hx
        · exact lt_asymm (h.1 x hx)
        · rw [List.mem_singleton.1 hx, h2]; exact lt_irrefl _
      · exact lt_asymm (h.1 x hx)
    · have hd : Rise (l.drop k) := hO.2.sublist (List.drop_sublist _ _)
      rcases hq with ⟨rfl, h1, h2⟩ | ⟨rfl, h2⟩
      · rw [List.drop_eq_getElem_cons h1] at hd
        have := (List.pairwise_cons.1 hd).1 x hx
        rw [List.getD_eq_getElem?_getD, List.getElem?_eq_getElem h1] at h2
        simp only [Option.getD_some] at h2
        rwa [h2] at this
      · have hlt : q < l.length := by
          rcases Nat.lt_or_ge q l.length with h1 | h1
          · exact h1
          · rw [List.drop_of_length_le h1] at hx; cases hx
        have h3 := h2 hlt
        rw [List.drop_eq_getElem_cons hlt] at hx hd
        have h4 : l.getD q noL = l[q] := by rw [List.getD_eq_getElem?_getD, List.getElem?_eq_getElem hlt]; rfl
        rw [h4] at h3
        have h5 := h.2 l[q] (by rw [List.drop_eq_getElem_cons hlt]; exact List.mem_cons_self)
        have h6 : lt n l[q].1 := by
          rcases lt_tri l[q].1 n with c | c | c
          · exact absurd c h5
          · exact absurd c h3
          · exact c
        rcases List.mem_cons.1 hx with hx | hx
        · rw [hx]; exact h6
        · exact lt_trans h6 ((List.pairwise_cons.1 hd).1 x hx)
  rw [hk]
set_option maxRecDepth 100000 in
set_option maxHeartbeats 8000000 in
theorem Set_any (A : Option Addr) (n c : Nat) (l : List Lb) (x1 x2 : ByteArray) (w : World) (hr : RowL w w.heap.size A n l) (hn : n ≤ 1000000) (hnc : n ≤ c) (hc9 : c ≤ 9223372036854775807) :
    Calls Try.prog 19 #[.slice A n c, .string x1, .string x2] w (LOut w (setL l x1 x2)) := by
  obtain ⟨i0, hi0, hz0, hz1, hz2⟩ := info_partsL lb_info
  have HC := Lib.hid (isOrdered_any A n c l w hr (by omega))
  have HL := Lib.hid hr.1
  have HR0 := Lib.hid hr
  clear hr
  by_cases hO : Ord l
  · have C := HC.out
    rw [decide_eq_true hO] at C
    replace C := Lib.hid C
    have HO := Lib.hid hO
    have wn : IntKind.i64.wrap ((n : Int) + 1) = ((n + 1 : Nat) : Int) := by rw [IntKind.wrap_i64]; push_cast; omega
    clear hO HC
    go_enter Try.func19, Try.ntmps19
    go_wp2_with fail
    with_reducible refine C.out.mono ?_
    rintro e w1 ⟨rfl, b1⟩
    have HR := Lib.hid (HR0.out.on b1)
    have HB := Lib.hid b1
    clear C b1 HR0
    go_wp2_with (refine wpList_make_own _ rfl _ _ 31 rfl w1.heap.size 77 i0 (.agg #[.string ByteArray.empty, .string ByteArray.empty]) 2 Try.underlying31 hi0 hz0 hz1 .i64 .i64 _ (n + 1) rfl rfl rfl (by rw [hz2]; omega) (by unfold maxLen; omega) (Nat.le_refl _) ?_)
    intro w2 hown0 hg0
    have hb0 := grown_below hg0
    obtain ⟨N1, hN1⟩ : ∃ N, n + 1 = N := ⟨_, rfl⟩
    rw [hN1] at hown0 ⊢
    have hN2 : 1 ≤ N1 := by omega
    have HO0 := Lib.hid hown0
    have HB0 := Lib.hid hb0
    clear hown0 hg0 hb0 hN1 wn
    rcases A with _ | ⟨b0, off0, spot0⟩
    · have hn0 : n = 0 := by
        rcases Nat.eq_zero_or_pos n with h0 | h0
        · exact h0
        · obtain ⟨_, _, e, _⟩ := HR.out.2 h0
          cases e
      have hl0 : l = [] := List.eq_nil_of_length_eq_zero (by rw [HL.out, hn0])
      subst hl0
      subst hn0
      clear HO HR HL
      go_wp2_with fail
      go_loopw [8, 22] (fun f p wr => p = .int .i64 0 ∧ f = .int .i64 0 ∧ w2 = wr) (fun _ _ _ => 0)
      case atStart => exact ⟨rfl, rfl, rfl⟩
      case round =>
        obtain ⟨rfl, rfl, rfl⟩ := hrel
        by_cases he : x2 = ByteArray.empty
        · have q0 := emp_yes he
          have HS : Hid (setL [] x1 x2 = []) := Lib.hid (by rw [setL, if_pos Ord.nil, if_pos he]; rfl)
          clear he
          go_wp2_with fail
          go_ret
          rw [HS.out]
          exact ⟨_, N1, rfl, own_lowL HB.out.size HO0.out, next HB.out HB0.out⟩
        · have q0 := emp_no he
          have HS : Hid (setL [] x1 x2 = [(x1, x2)]) := Lib.hid (by rw [setL, if_pos Ord.nil, if_neg he]; rfl)
          have OW := HO0.out
          have hbs := HB0.out.size
          clear he
          go_wp2_with (at_builtin; refine wpList_appLN _ rfl (.tmp 40) (.tmp 44) 31 rfl w1.heap.size 77 i0 Try.underlying31 hi0 hz0 hz1 hz2 _ 0 [] rfl (OW.alloc _) _ _ 1 1 [(x1, x2)] rfl (RowL.one _ _ _ _) (by omega) (by simp; omega) 1 rfl ?_)
          intro B5 e5 w5 o5 b5
          have hb5 := (HB0.out.alloc HB0.out.size _).trans b5
          go_wp2_with (at_builtin; refine wpList_appLN _ rfl (.tmp 61) (.tmp 64) 31 rfl w1.heap.size 77 i0 Try.underlying31 hi0 hz0 hz1 hz2 _ _ _ rfl o5 0 none 0 _ [] rfl ⟨rfl, fun h => by omega⟩ (by omega) hb5.size 1 rfl ?_)
          intro B6 e6 w6 o6 b6
          have HB6 := Lib.hid (hb5.trans b6)
          have HO6 : Hid (w6.ownsRow w1.heap.size 77 2 (.slice B6 1 e6) 1 (cL [(x1, x2)])) := Lib.hid o6
          clear o5 b5 OW hb5 o6 b6
          go_wp2_with fail
          go_ret
          rw [HS.out]
          exact ⟨B6, e6, rfl, own_lowL HB.out.size HO6.out, next HB.out HB6.out⟩
    · have HD : Hid (∀ w', Below w1.heap.size w1 w' → ∀ q, q ≤ n → RowL w' w'.heap.size (if c = q then some ⟨b0, off0, spot0⟩ else some ((⟨b0, off0, spot0⟩ : Addr).add (q * 2))) (n - q) (l.drop q)) := Lib.hid (fun w' hb q hq => by
        by_cases hcq : c = q
        · exact ⟨by rw [List.length_drop, HL.out], fun h => by omega⟩
        · rw [if_neg hcq]
          rcases Nat.eq_zero_or_pos n with h0 | h0
          · exact ⟨by rw [List.length_drop, HL.out], fun h => by omega⟩
          · obtain ⟨_, _, e, _⟩ := HR.out.2 h0
            injection e with e
            injection e with _ _ e
            subst e
            rw [addr_addL]
            exact (HR.out.on hb).drop q hq)
      rcases Nat.eq_zero_or_pos n with hn0 | hn0
      · have HN0 := Lib.hid hn0
        clear hn0
        go_wp2_with fail
        go_loopw [8, 22] (fun f p wr => ∃ i : Nat, i ≤ n ∧ p = .int .i64 (i : Int) ∧ f = .int .i64 (n : Int) ∧ Hid (∀ x ∈ l.take i, lt x.1 x1) ∧ wr.ownsRow w1.heap.size 77 2 (.slice (some ⟨w1.heap.size, 0, none⟩) 0 N1) 0 [] ∧ Below w1.heap.size w1 wr) (fun _ p _ => n - (intOf p).toNat)
        case atStart => exact ⟨0, by omega, rfl, rfl, Lib.hid (by simp), HO0.out, HB0.out⟩
        case round =>
          obtain ⟨k, hkn0, rfl, rfl, HT, hown, bb⟩ := hrel
          by_cases hlt : k < n
          · have := HN0.out
            omega
          · have hkn1 : k = n := by omega
            have f1 : decide ((k : Int) < (n : Int)) = false := decide_eq_false (by omega)
            have HAt : Hid (At l x1 n) := Lib.hid ⟨by rw [← hkn1]; exact HT.out, fun x hx => by rw [List.drop_of_length_le (by rw [HL.out]; omega)] at hx; cases hx⟩
            have hkn0 : n ≤ n := Nat.le_refl _
            clear HT hkn1
            have h0 : (0 : Int) ≤ (n : Int) := by omega
            have h1 : (n : Int) ≤ (n : Int) := by omega
            have h2 : (n : Int) ≤ (c : Int) := by omega
            have h3 : n ≤ c := by omega
            have hrk := (HR.out.on bb).take hkn0
            have hbs := bb.size
            go_wp2_with (at_builtin; refine wpList_appLN _ rfl (.tmp 33) (.tmp 36) 31 rfl w1.heap.size 77 i0 Try.underlying31 hi0 hz0 hz1 hz2 _ 0 [] rfl hown _ _ n c (l.take n) rfl hrk (by omega) hbs n (by omega) ?_)
            intro B4 e4 w4 o4 b4
            replace bb := bb.trans b4
            clear hown hrk b4 hbs
            by_cases he : x2 = ByteArray.empty
            · have q0 := emp_yes he
              have HE := Lib.hid he
              have OWN := o4
              clear he o4
              have h1' : ¬ (n : Int) < (n : Int) := by omega
              have h2' : decide ((n : Int) < (n : Int)) = false := decide_eq_false h1'
              have HKq : Hid (n < l.length → (l.getD n noL).1 ≠ x1) := Lib.hid (fun h => by rw [HL.out] at h; omega)
              obtain ⟨M, hM⟩ : ∃ M, n + 0 = M := ⟨_, rfl⟩
              go_wp2_with (at_builtin; refine wpList_appLN _ rfl (.tmp 61) (.tmp 64) 31 rfl w1.heap.size 77 i0 Try.underlying31 hi0 hz0 hz1 hz2 _ _ _ rfl OWN _ (if c = n then some ⟨b0, off0, spot0⟩ else some ((⟨b0, off0, spot0⟩ : Addr).add (n * 2))) 0 (c - n) (l.drop n) rfl (by have h := HD.out _ bb n (by omega); rwa [Nat.sub_self] at h) (by omega) bb.size M hM ?_)
              all_goals
                intro B9 e9 w9 o9 b9
                have HE9 : Hid (l.take n ++ l.drop n = setL l x1 x2) := Lib.hid (by
                  have e := setL_at (v := x2) HO.out HAt.out n (.inr ⟨rfl, HKq.out⟩)
                  rwa [if_pos HE.out, List.append_nil] at e)
                have hl2 : M = (setL l x1 x2).length := by
                  rw [← HE9.out, ← hM]
                  simp only [List.length_append, List.length_take, List.length_drop, HL.out]
                  omega
                have HF : Hid (w9.ownsRow w1.heap.size 77 2 (.slice B9 M e9) M (cL (setL l x1 x2))) := Lib.hid (by
                  have h := o9
                  have e := HE9.out
                  try rw [List.nil_append] at h
                  skip
                  skip
                  rw [← cL_app, e] at h
                  exact h)
                have HB9 := Lib.hid (bb.trans b9)
                have HM := Lib.hid hl2
                clear o9 b9 hl2 OWN hM HE9
                go_wp2_with fail
                all_goals
                  go_ret
                  exact ⟨B9, e9, by rw [HM.out]; rfl, by rw [← HM.out]; exact own_lowL HB.out.size HF.out, next HB.out HB9.out⟩
            · have q0 := emp_no he
              have HE := Lib.hid he
              clear he
              have hbs := bb.size
              go_wp2_with (at_builtin; refine wpList_appLN _ rfl (.tmp 40) (.tmp 44) 31 rfl w1.heap.size 77 i0 Try.underlying31 hi0 hz0 hz1 hz2 _ _ _ rfl (o4.alloc _) _ _ 1 1 [(x1, x2)] rfl (RowL.one _ _ _ _) (by omega) (by simp; omega) (n + 1) rfl ?_)
              intro B5 e5 w5 OWN b5
              replace bb := (bb.alloc bb.size _).trans b5
              clear o4 b5 hbs
              have h1' : ¬ (n : Int) < (n : Int) := by omega
              have h2' : decide ((n : Int) < (n : Int)) = false := decide_eq_false h1'
              have HKq : Hid (n < l.length → (l.getD n noL).1 ≠ x1) := Lib.hid (fun h => by rw [HL.out] at h; omega)
              obtain ⟨M, hM⟩ : ∃ M, n + 1 + 0 = M := ⟨_, rfl⟩
              go_wp2_with (at_builtin; refine wpList_appLN _ rfl (.tmp 61) (.tmp 64) 31 rfl w1.heap.size 77 i0 Try.underlying31 hi0 hz0 hz1 hz2 _ _ _ rfl OWN _ (if c = n then some ⟨b0, off0, spot0⟩ else some ((⟨b0, off0, spot0⟩ : Addr).add (n * 2))) 0 (c - n) (l.drop n) rfl (by have h := HD.out _ bb n (by omega); rwa [Nat.sub_self] at h) (by omega) bb.size M hM ?_)
              all_goals
                intro B9 e9 w9 o9 b9
                have HE9 : Hid (l.take n ++ [(x1, x2)] ++ l.drop n = setL l x1 x2) := Lib.hid (by
                  have e := setL_at (v := x2) HO.out HAt.out n (.inr ⟨rfl, HKq.out⟩)
                  rwa [if_neg HE.out] at e)
                have hl2 : M = (setL l x1 x2).length := by
                  rw [← HE9.out, ← hM]
                  simp only [List.length_append, List.length_take, List.length_drop, List.length_cons, List.length_nil, HL.out]
                  omega
                have HF : Hid (w9.ownsRow w1.heap.size 77 2 (.slice B9 M e9) M (cL (setL l x1 x2))) := Lib.hid (by
                  have h := o9
                  have e := HE9.out
                  try rw [List.nil_append] at h
                  rw [List.append_assoc] at e
                  try rw [List.append_assoc] at h
                  rw [← cL_app, ← cL_app, e] at h
                  exact h)
                have HB9 := Lib.hid (bb.trans b9)
                have HM := Lib.hid hl2
                clear o9 b9 hl2 OWN hM HE9
                go_wp2_with fail
                all_goals
                  go_ret
                  exact ⟨B9, e9, by rw [HM.out]; rfl, by rw [← HM.out]; exact own_lowL HB.out.size HF.out, next HB.out HB9.out⟩
      · obtain ⟨b, off, eA, hbB, hc⟩ := HR.out.2 hn0
        injection eA with eA
        injection eA with eA1 eA2 eA3
        subst eA1; subst eA2; subst eA3
        have HCc := Lib.hid hc
        have HD0 := HD
        replace HD : Hid (∀ w', Below w1.heap.size w1 w' → ∀ q, q ≤ n → RowL w' w'.heap.size (if c = q then some ⟨b0, off0, none⟩ else some ⟨b0, off0 + q * 2, none⟩) (n - q) (l.drop q)) := Lib.hid (fun w' hb q hq => by have h := HD0.out w' hb q hq; rwa [addr_addL] at h)
        clear hc HD0
        go_wp2_with fail
        go_loopw [8, 22] (fun f p wr => ∃ i : Nat, i ≤ n ∧ p = .int .i64 (i : Int) ∧ f = .int .i64 (n : Int) ∧ Hid (∀ x ∈ l.take i, lt x.1 x1) ∧ wr.ownsRow w1.heap.size 77 2 (.slice (some ⟨w1.heap.size, 0, none⟩) 0 N1) 0 [] ∧ Below w1.heap.size w1 wr) (fun _ p _ => n - (intOf p).toNat)
        case atStart => exact ⟨0, by omega, rfl, rfl, Lib.hid (by simp), HO0.out, HB0.out⟩
        case round =>
          obtain ⟨k, hkn0, rfl, rfl, HT, hown, bb⟩ := hrel
          by_cases hlt : k < n
          · obtain ⟨c1, c2⟩ := HCc.out k hlt
            replace c1 := (bb.cell (p := ⟨b0, off0 + k * 2, none⟩) hbB).trans c1
            replace c2 := (bb.cell (p := ⟨b0, off0 + k * 2 + 1, none⟩) hbB).trans c2
            have hgi := getD_memL (l := l) (j := k) (by rw [HL.out]; exact hlt)
            obtain ⟨y, hy⟩ : ∃ y, l.getD k noL = y := ⟨_, rfl⟩
            rw [hy] at c1 c2
            have HY := Lib.hid hy
            obtain ⟨y1, y2⟩ := y
            dsimp only at c1 c2
            have g0 : (0 : Int) ≤ (k : Int) := by omega
            have g1 : (k : Int) < (n : Int) := by omega
            have f1 : decide ((k : Int) < (n : Int)) = true := decide_eq_true g1
            clear hy hgi
            by_cases hl : lt y1 x1
            · have q0 := geq_no hl
              have HT2 : Hid (∀ x ∈ l.take (k + 1), lt x.1 x1) := Lib.hid (fun x hx => by
                rw [take_snocL (by rw [HL.out]; exact hlt)] at hx
                rcases List.mem_append.1 hx with hx | hx
                · exact HT.out x hx
                · rw [List.mem_singleton.1 hx, HY.out]; exact hl)
              have HOw := Lib.hid hown
              have HBb := Lib.hid bb
              clear hl hown bb
              go_wp2_with fail
              exact ⟨⟨k + 1, hlt, by go_num, rfl, HT2, HOw.out.alloc _, HBb.out.alloc HBb.out.size _⟩, by simp [intOf]; omega⟩
            · have q0 := geq_yes hl
              have HAt : Hid (At l x1 k) := Lib.hid ⟨HT.out, fun x hx hlx => by
                have hki : k < l.length := by rw [HL.out]; exact hlt
                have hd : Rise (l.drop k) := HO.out.2.sublist (List.drop_sublist _ _)
                rw [List.drop_eq_getElem_cons hki] at hx hd
                have h4 : l.getD k noL = l[k] := by rw [List.getD_eq_getElem?_getD, List.getElem?_eq_getElem hki]; rfl
                have h5 : l[k].1 = y1 := by rw [← h4, HY.out]
                rcases List.mem_cons.1 hx with hx | hx
                · rw [hx, h5] at hlx; exact hl hlx
                · have h6 := (List.pairwise_cons.1 hd).1 x hx
                  rw [h5] at h6
                  exact hl (lt_trans h6 hlx)⟩
              clear hl HT
              have hown := hown.alloc (.cells #[.string y1, .string y2] 77)
              replace bb := bb.alloc bb.size (.cells #[.string y1, .string y2] 77)
              have h0 : (0 : Int) ≤ (k : Int) := by omega
              have h1 : (k : Int) ≤ (n : Int) := by omega
              have h2 : (k : Int) ≤ (c : Int) := by omega
              have h3 : k ≤ c := by omega
              have hrk := (HR.out.on bb).take hkn0
              have hbs := bb.size
              go_wp2_with (at_builtin; refine wpList_appLN _ rfl (.tmp 33) (.tmp 36) 31 rfl w1.heap.size 77 i0 Try.underlying31 hi0 hz0 hz1 hz2 _ 0 [] rfl hown _ _ k c (l.take k) rfl hrk (by omega) hbs k (by omega) ?_)
              intro B4 e4 w4 o4 b4
              replace bb := bb.trans b4
              clear hown hrk b4 hbs
              by_cases he : x2 = ByteArray.empty
              · have q0 := emp_yes he
                have HE := Lib.hid he
                have OWN := o4
                clear he o4
                have hkn : k < n := hlt
                obtain ⟨d1, _⟩ := HCc.out k hkn
                replace d1 := (bb.cell (p := ⟨b0, off0 + k * 2, none⟩) hbB).trans d1
                obtain ⟨y, hy⟩ : ∃ y, (l.getD k noL).1 = y := ⟨_, rfl⟩
                rw [hy] at d1
                have h0' : (0 : Int) ≤ (k : Int) := by omega
                have h1' : (k : Int) < (n : Int) := by omega
                have h2' : decide ((k : Int) < (n : Int)) = true := decide_eq_true h1'
                by_cases hyx : y = x1
                · have q1 := seq_yes hyx
                  have HKq : Hid (k < l.length ∧ (l.getD k noL).1 = x1) := Lib.hid ⟨by rw [HL.out]; exact hkn, hy.trans hyx⟩
                  have wk : IntKind.i64.wrap ((k : Int) + 1) = ((k + 1 : Nat) : Int) := by rw [IntKind.wrap_i64]; push_cast; omega
                  have h3' : (0 : Int) ≤ ((k + 1 : Nat) : Int) := by omega
                  have h4' : ((k + 1 : Nat) : Int) ≤ (n : Int) := by omega
                  have h5' : ((k + 1 : Nat) : Int) ≤ (c : Int) := by omega
                  have h6' : k + 1 ≤ c := by omega
                  have h7' : k + 1 ≤ n := by omega
                  obtain ⟨q, hq⟩ : ∃ q, k + 1 = q := ⟨_, rfl⟩
                  rw [hq] at wk h3' h4' h5' h6' h7'
                  have HQ := Lib.hid hq
                  have hkq : k ≤ q := by omega
                  clear hyx hy
                  obtain ⟨M, hM⟩ : ∃ M, k + (n - q) = M := ⟨_, rfl⟩
                  go_wp2_with (at_builtin; refine wpList_appLN _ rfl (.tmp 61) (.tmp 64) 31 rfl w1.heap.size 77 i0 Try.underlying31 hi0 hz0 hz1 hz2 _ _ _ rfl OWN _ (if c = q then some ⟨b0, off0, none⟩ else some ⟨b0, off0 + q * 2, none⟩) (n - q) (c - q) (l.drop q) rfl (HD.out _ bb q (by omega)) (by omega) bb.size M hM ?_)
                  all_goals
                    intro B9 e9 w9 o9 b9
                    have HE9 : Hid (l.take k ++ l.drop q = setL l x1 x2) := Lib.hid (by
                      have e := setL_at (v := x2) HO.out HAt.out q (.inl ⟨HQ.out.symm, HKq.out⟩)
                      rwa [if_pos HE.out, List.append_nil] at e)
                    have hl2 : M = (setL l x1 x2).length := by
                      rw [← HE9.out, ← hM]
                      simp only [List.length_append, List.length_take, List.length_drop, HL.out]
                      omega
                    have HF : Hid (w9.ownsRow w1.heap.size 77 2 (.slice B9 M e9) M (cL (setL l x1 x2))) := Lib.hid (by
                      have h := o9
                      have e := HE9.out
                      try rw [List.nil_append] at h
                      skip
                      skip
                      rw [← cL_app, e] at h
                      exact h)
                    have HB9 := Lib.hid (bb.trans b9)
                    have HM := Lib.hid hl2
                    clear o9 b9 hl2 OWN hM HE9
                    go_wp2_with fail
                    all_goals
                      go_ret
                      exact ⟨B9, e9, by rw [HM.out]; rfl, by rw [← HM.out]; exact own_lowL HB.out.size HF.out, next HB.out HB9.out⟩
                · have q1 := seq_no hyx
                  have HKq : Hid (k < l.length → (l.getD k noL).1 ≠ x1) := Lib.hid (fun _ => by rw [hy]; exact hyx)
                  clear hyx hy
                  obtain ⟨M, hM⟩ : ∃ M, k + (n - k) = M := ⟨_, rfl⟩
                  go_wp2_with (at_builtin; refine wpList_appLN _ rfl (.tmp 61) (.tmp 64) 31 rfl w1.heap.size 77 i0 Try.underlying31 hi0 hz0 hz1 hz2 _ _ _ rfl OWN _ (some ⟨b0, off0 + k * 2, none⟩) (n - k) (c - k) (l.drop k) rfl (by have h := HD.out _ bb k (by omega); rwa [if_neg (by omega)] at h) (by omega) bb.size M hM ?_)
                  all_goals
                    intro B9 e9 w9 o9 b9
                    have HE9 : Hid (l.take k ++ l.drop k = setL l x1 x2) := Lib.hid (by
                      have e := setL_at (v := x2) HO.out HAt.out k (.inr ⟨rfl, HKq.out⟩)
                      rwa [if_pos HE.out, List.append_nil] at e)
                    have hl2 : M = (setL l x1 x2).length := by
                      rw [← HE9.out, ← hM]
                      simp only [List.length_append, List.length_take, List.length_drop, HL.out]
                      omega
                    have HF : Hid (w9.ownsRow w1.heap.size 77 2 (.slice B9 M e9) M (cL (setL l x1 x2))) := Lib.hid (by
                      have h := o9
                      have e := HE9.out
                      try rw [List.nil_append] at h
                      skip
                      skip
                      rw [← cL_app, e] at h
                      exact h)
                    have HB9 := Lib.hid (bb.trans b9)
                    have HM := Lib.hid hl2
                    clear o9 b9 hl2 OWN hM HE9
                    go_wp2_with fail
                    all_goals
                      go_ret
                      exact ⟨B9, e9, by rw [HM.out]; rfl, by rw [← HM.out]; exact own_lowL HB.out.size HF.out, next HB.out HB9.out⟩
              · have q0 := emp_no he
                have HE := Lib.hid he
                clear he
                have hbs := bb.size
                go_wp2_with (at_builtin; refine wpList_appLN _ rfl (.tmp 40) (.tmp 44) 31 rfl w1.heap.size 77 i0 Try.underlying31 hi0 hz0 hz1 hz2 _ _ _ rfl (o4.alloc _) _ _ 1 1 [(x1, x2)] rfl (RowL.one _ _ _ _) (by omega) (by simp; omega) (k + 1) rfl ?_)
                intro B5 e5 w5 OWN b5
                replace bb := (bb.alloc bb.size _).trans b5
                clear o4 b5 hbs
                have hkn : k < n := hlt
                obtain ⟨d1, _⟩ := HCc.out k hkn
                replace d1 := (bb.cell (p := ⟨b0, off0 + k * 2, none⟩) hbB).trans d1
                obtain ⟨y, hy⟩ : ∃ y, (l.getD k noL).1 = y := ⟨_, rfl⟩
                rw [hy] at d1
                have h0' : (0 : Int) ≤ (k : Int) := by omega
                have h1' : (k : Int) < (n : Int) := by omega
                have h2' : decide ((k : Int) < (n : Int)) = true := decide_eq_true h1'
                by_cases hyx : y = x1
                · have q1 := seq_yes hyx
                  have HKq : Hid (k < l.length ∧ (l.getD k noL).1 = x1) := Lib.hid ⟨by rw [HL.out]; exact hkn, hy.trans hyx⟩
                  have wk : IntKind.i64.wrap ((k : Int) + 1) = ((k + 1 : Nat) : Int) := by rw [IntKind.wrap_i64]; push_cast; omega
                  have h3' : (0 : Int) ≤ ((k + 1 : Nat) : Int) := by omega
                  have h4' : ((k + 1 : Nat) : Int) ≤ (n : Int) := by omega
                  have h5' : ((k + 1 : Nat) : Int) ≤ (c : Int) := by omega
                  have h6' : k + 1 ≤ c := by omega
                  have h7' : k + 1 ≤ n := by omega
                  obtain ⟨q, hq⟩ : ∃ q, k + 1 = q := ⟨_, rfl⟩
                  rw [hq] at wk h3' h4' h5' h6' h7'
                  have HQ := Lib.hid hq
                  have hkq : k ≤ q := by omega
                  clear hyx hy
                  obtain ⟨M, hM⟩ : ∃ M, k + 1 + (n - q) = M := ⟨_, rfl⟩
                  go_wp2_with (at_builtin; refine wpList_appLN _ rfl (.tmp 61) (.tmp 64) 31 rfl w1.heap.size 77 i0 Try.underlying31 hi0 hz0 hz1 hz2 _ _ _ rfl OWN _ (if c = q then some ⟨b0, off0, none⟩ else some ⟨b0, off0 + q * 2, none⟩) (n - q) (c - q) (l.drop q) rfl (HD.out _ bb q (by omega)) (by omega) bb.size M hM ?_)
                  all_goals
                    intro B9 e9 w9 o9 b9
                    have HE9 : Hid (l.take k ++ [(x1, x2)] ++ l.drop q = setL l x1 x2) := Lib.hid (by
                      have e := setL_at (v := x2) HO.out HAt.out q (.inl ⟨HQ.out.symm, HKq.out⟩)
                      rwa [if_neg HE.out] at e)
                    have hl2 : M = (setL l x1 x2).length := by
                      rw [← HE9.out, ← hM]
                      simp only [List.length_append, List.length_take, List.length_drop, List.length_cons, List.length_nil, HL.out]
                      omega
                    have HF : Hid (w9.ownsRow w1.heap.size 77 2 (.slice B9 M e9) M (cL (setL l x1 x2))) := Lib.hid (by
                      have h := o9
                      have e := HE9.out
                      try rw [List.nil_append] at h
                      rw [List.append_assoc] at e
                      try rw [List.append_assoc] at h
                      rw [← cL_app, ← cL_app, e] at h
                      exact h)
                    have HB9 := Lib.hid (bb.trans b9)
                    have HM := Lib.hid hl2
                    clear o9 b9 hl2 OWN hM HE9
                    go_wp2_with fail
                    all_goals
                      go_ret
                      exact ⟨B9, e9, by rw [HM.out]; rfl, by rw [← HM.out]; exact own_lowL HB.out.size HF.out, next HB.out HB9.out⟩
                · have q1 := seq_no hyx
                  have HKq : Hid (k < l.length → (l.getD k noL).1 ≠ x1) := Lib.hid (fun _ => by rw [hy]; exact hyx)
                  clear hyx hy
                  obtain ⟨M, hM⟩ : ∃ M, k + 1 + (n - k) = M := ⟨_, rfl⟩
                  go_wp2_with (at_builtin; refine wpList_appLN _ rfl (.tmp 61) (.tmp 64) 31 rfl w1.heap.size 77 i0 Try.underlying31 hi0 hz0 hz1 hz2 _ _ _ rfl OWN _ (some ⟨b0, off0 + k * 2, none⟩) (n - k) (c - k) (l.drop k) rfl (by have h := HD.out _ bb k (by omega); rwa [if_neg (by omega)] at h) (by omega) bb.size M hM ?_)
                  all_goals
                    intro B9 e9 w9 o9 b9
                    have HE9 : Hid (l.take k ++ [(x1, x2)] ++ l.drop k = setL l x1 x2) := Lib.hid (by
                      have e := setL_at (v := x2) HO.out HAt.out k (.inr ⟨rfl, HKq.out⟩)
                      rwa [if_neg HE.out] at e)
                    have hl2 : M = (setL l x1 x2).length := by
                      rw [← HE9.out, ← hM]
                      simp only [List.length_append, List.length_take, List.length_drop, List.length_cons, List.length_nil, HL.out]
                      omega
                    have HF : Hid (w9.ownsRow w1.heap.size 77 2 (.slice B9 M e9) M (cL (setL l x1 x2))) := Lib.hid (by
                      have h := o9
                      have e := HE9.out
                      try rw [List.nil_append] at h
                      rw [List.append_assoc] at e
                      try rw [List.append_assoc] at h
                      rw [← cL_app, ← cL_app, e] at h
                      exact h)
                    have HB9 := Lib.hid (bb.trans b9)
                    have HM := Lib.hid hl2
                    clear o9 b9 hl2 OWN hM HE9
                    go_wp2_with fail
                    all_goals
                      go_ret
                      exact ⟨B9, e9, by rw [HM.out]; rfl, by rw [← HM.out]; exact own_lowL HB.out.size HF.out, next HB.out HB9.out⟩
          · have hkn1 : k = n := by omega
            have f1 : decide ((k : Int) < (n : Int)) = false := decide_eq_false (by omega)
            have HAt : Hid (At l x1 n) := Lib.hid ⟨by rw [← hkn1]; exact HT.out, fun x hx => by rw [List.drop_of_length_le (by rw [HL.out]; omega)] at hx; cases hx⟩
            have hkn0 : n ≤ n := Nat.le_refl _
            clear HT hkn1
            have h0 : (0 : Int) ≤ (n : Int) := by omega
            have h1 : (n : Int) ≤ (n : Int) := by omega
            have h2 : (n : Int) ≤ (c : Int) := by omega
            have h3 : n ≤ c := by omega
            have hrk := (HR.out.on bb).take hkn0
            have hbs := bb.size
            go_wp2_with (at_builtin; refine wpList_appLN _ rfl (.tmp 33) (.tmp 36) 31 rfl w1.heap.size 77 i0 Try.underlying31 hi0 hz0 hz1 hz2 _ 0 [] rfl hown _ _ n c (l.take n) rfl hrk (by omega) hbs n (by omega) ?_)
            intro B4 e4 w4 o4 b4
            replace bb := bb.trans b4
            clear hown hrk b4 hbs
            by_cases he : x2 = ByteArray.empty
            · have q0 := emp_yes he
              have HE := Lib.hid he
              have OWN := o4
              clear he o4
              have h1' : ¬ (n : Int) < (n : Int) := by omega
              have h2' : decide ((n : Int) < (n : Int)) = false := decide_eq_false h1'
              have HKq : Hid (n < l.length → (l.getD n noL).1 ≠ x1) := Lib.hid (fun h => by rw [HL.out] at h; omega)
              obtain ⟨M, hM⟩ : ∃ M, n + 0 = M := ⟨_, rfl⟩
              go_wp2_with (at_builtin; refine wpList_appLN _ rfl (.tmp 61) (.tmp 64) 31 rfl w1.heap.size 77 i0 Try.underlying31 hi0 hz0 hz1 hz2 _ _ _ rfl OWN _ (if c = n then some ⟨b0, off0, none⟩ else some ⟨b0, off0 + n * 2, none⟩) 0 (c - n) (l.drop n) rfl (by have h := HD.out _ bb n (by omega); rwa [Nat.sub_self] at h) (by omega) bb.size M hM ?_)
              all_goals
                intro B9 e9 w9 o9 b9
                have HE9 : Hid (l.take n ++ l.drop n = setL l x1 x2) := Lib.hid (by
                  have e := setL_at (v := x2) HO.out HAt.out n (.inr ⟨rfl, HKq.out⟩)
                  rwa [if_pos HE.out, List.append_nil] at e)
                have hl2 : M = (setL l x1 x2).length := by
                  rw [← HE9.out, ← hM]
                  simp only [List.length_append, List.length_take, List.length_drop, HL.out]
                  omega
                have HF : Hid (w9.ownsRow w1.heap.size 77 2 (.slice B9 M e9) M (cL (setL l x1 x2))) := Lib.hid (by
                  have h := o9
                  have e := HE9.out
                  try rw [List.nil_append] at h
                  skip
                  skip
                  rw [← cL_app, e] at h
                  exact h)
                have HB9 := Lib.hid (bb.trans b9)
                have HM := Lib.hid hl2
                clear o9 b9 hl2 OWN hM HE9
                go_wp2_with fail
                all_goals
                  go_ret
                  exact ⟨B9, e9, by rw [HM.out]; rfl, by rw [← HM.out]; exact own_lowL HB.out.size HF.out, next HB.out HB9.out⟩
            · have q0 := emp_no he
              have HE := Lib.hid he
              clear he
              have hbs := bb.size
              go_wp2_with (at_builtin; refine wpList_appLN _ rfl (.tmp 40) (.tmp 44) 31 rfl w1.heap.size 77 i0 Try.underlying31 hi0 hz0 hz1 hz2 _ _ _ rfl (o4.alloc _) _ _ 1 1 [(x1, x2)] rfl (RowL.one _ _ _ _) (by omega) (by simp; omega) (n + 1) rfl ?_)
              intro B5 e5 w5 OWN b5
              replace bb := (bb.alloc bb.size _).trans b5
              clear o4 b5 hbs
              have h1' : ¬ (n : Int) < (n : Int) := by omega
              have h2' : decide ((n : Int) < (n : Int)) = false := decide_eq_false h1'
              have HKq : Hid (n < l.length → (l.getD n noL).1 ≠ x1) := Lib.hid (fun h => by rw [HL.out] at h; omega)
              obtain ⟨M, hM⟩ : ∃ M, n + 1 + 0 = M := ⟨_, rfl⟩
              go_wp2_with (at_builtin; refine wpList_appLN _ rfl (.tmp 61) (.tmp 64) 31 rfl w1.heap.size 77 i0 Try.underlying31 hi0 hz0 hz1 hz2 _ _ _ rfl OWN _ (if c = n then some ⟨b0, off0, none⟩ else some ⟨b0, off0 + n * 2, none⟩) 0 (c - n) (l.drop n) rfl (by have h := HD.out _ bb n (by omega); rwa [Nat.sub_self] at h) (by omega) bb.size M hM ?_)
              all_goals
                intro B9 e9 w9 o9 b9
                have HE9 : Hid (l.take n ++ [(x1, x2)] ++ l.drop n = setL l x1 x2) := Lib.hid (by
                  have e := setL_at (v := x2) HO.out HAt.out n (.inr ⟨rfl, HKq.out⟩)
                  rwa [if_neg HE.out] at e)
                have hl2 : M = (setL l x1 x2).length := by
                  rw [← HE9.out, ← hM]
                  simp only [List.length_append, List.length_take, List.length_drop, List.length_cons, List.length_nil, HL.out]
                  omega
                have HF : Hid (w9.ownsRow w1.heap.size 77 2 (.slice B9 M e9) M (cL (setL l x1 x2))) := Lib.hid (by
                  have h := o9
                  have e := HE9.out
                  try rw [List.nil_append] at h
                  rw [List.append_assoc] at e
                  try rw [List.append_assoc] at h
                  rw [← cL_app, ← cL_app, e] at h
                  exact h)
                have HB9 := Lib.hid (bb.trans b9)
                have HM := Lib.hid hl2
                clear o9 b9 hl2 OWN hM HE9
                go_wp2_with fail
                all_goals
                  go_ret
                  exact ⟨B9, e9, by rw [HM.out]; rfl, by rw [← HM.out]; exact own_lowL HB.out.size HF.out, next HB.out HB9.out⟩
  · have C := HC.out
    rw [decide_eq_false hO] at C
    replace C := Lib.hid C
    have HS : Hid (setL l x1 x2 = []) := Lib.hid (by rw [setL, if_neg hO])
    rw [HS.out]
    clear hO HC HR0 HS
    go_enter Try.func19, Try.ntmps19
    go_wp2_with fail
    with_reducible refine C.out.mono ?_
    rintro e w1 ⟨rfl, b1⟩
    clear C
    go_wp2_with fail
    go_ret
    exact ⟨none, 0, rfl, World.ownsRow_nil _ _ _ _, b1⟩
end Go.Proofs.Ytomjdicedjdpnaa
