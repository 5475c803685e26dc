/- slices.Equal, Clone, Grow, Concat over bytes; the document's CopyBytes, Bring. -/
import Derived.Test.YtoodchnjikkkkaaSOf
namespace Go.Proofs.Ytoodchnjikkkkaa
open Go.RowKit

theorem own_low {w : World} {base base' size n : Nat} {e : TypeId} {v : Value} {xs : List Value} (h : w.ownsRow base e size v n xs) (hb : base' ≤ base) : w.ownsRow base' e size v n xs := by
  refine ⟨h.1, ?_⟩
  rcases h.2 with h0 | ⟨g, cap, cur, h1, h2, h3⟩
  · exact .inl h0
  · exact .inr ⟨g, cap, cur, h1, Nat.le_trans hb h2, h3⟩
theorem Fresh.from {w w1 w' : World} {l : List Int} {e : Ending} (hb : Below w.heap.size w w1) (h : Fresh w1 l e w') : Fresh w l e w' := by
  obtain ⟨A, c, he, hown, hb'⟩ := h
  exact ⟨A, c, he, own_low hown hb.size, next hb hb'⟩
theorem own_cap {w : World} {base n c : Nat} {e : TypeId} {A : Option Addr} {xs : List Value} (h : w.ownsRow base e 1 (.slice A n c) n xs) : n ≤ c ∧ c ≤ 9223372036854775807 := by
  rcases h.2 with ⟨e0, h0⟩ | ⟨g', cap', cur, e0, _, _, hn, hm, _⟩
  · injection e0 with _ _ e3
    omega
  · injection e0 with _ _ e3
    subst e3
    unfold maxLen at hm
    omega

theorem Clone_any (A : Option Addr) (c B : Nat) (l : List Int) (w : World) (hr : Row w B A l.length (ints .u8 l)) (hB : B ≤ w.heap.size) (hl : l.length ≤ 150000000000000) :
    Calls Try.prog 26 #[.slice A l.length c] w (Fresh w l) := by
  obtain ⟨i0, hi, hz0, hz1, hz2⟩ := info_parts u8_info
  rcases A with _ | a
  · have hnil : l = [] := by
      rcases Nat.eq_zero_or_pos l.length with h0 | h0
      · exact List.eq_nil_of_length_eq_zero h0
      · obtain ⟨_, _, he, _⟩ := hr.2 h0
        cases he
    subst hnil
    have hq := Lib.run_eql_slice_nil (P := Try.prog)
    go_enter Try.func26, Try.ntmps26
    go_wp2
    go_ret
    exact ⟨none, 0, rfl, World.ownsRow_nil _ _ _ _, Below.refl _ _⟩
  · have hq := fun (w : World) (n c : Nat) => Lib.run_eql_slice_nil (P := Try.prog) w 24 5 (some a) n c 0 0 Try.underlying24
    go_enter Try.func26, Try.ntmps26
    go_wp2_with (at_builtin; refine wpList_app _ rfl (.tmp 5) (.tmp 6) 24 rfl w.heap.size 5 i0 (.int .u8 0) 1 Try.underlying24 hi hz0 hz1 hz2 rfl _ 0 [] rfl (World.ownsRow_made w #[] 0 (Nat.le_refl _) (by unfold maxLen; omega) rfl) _ _ _ _ _ rfl (hr.alloc hB _) (ints_one _ _) (by unfold maxLen; omega) (by omega) (by simp) ?_)
    intro v' w' hown' _ hb'
    obtain ⟨A', c', rfl⟩ := own_slice hown'
    go_wp2
    go_ret
    exact ⟨A', c', by simp, by simpa using hown', ((Below.refl _ _).alloc (Nat.le_refl _) _).trans hb'⟩

theorem CopyBytes_any (A : Option Addr) (c B : Nat) (l : List Int) (w : World) (hr : Row w B A l.length (ints .u8 l)) (hB : B ≤ w.heap.size) (hl : l.length ≤ 150000000000000) :
    Calls Try.prog 10 #[.slice A l.length c] w (Fresh w l) := by
  obtain ⟨i0, hi, hz0, hz1, hz2⟩ := info_parts u8_info
  go_enter Try.func10, Try.ntmps10
  go_wp2_with (at_builtin; refine wpList_app _ rfl (.tmp 4) (.tmp 5) 24 rfl w.heap.size 5 i0 (.int .u8 0) 1 Try.underlying24 hi hz0 hz1 hz2 rfl _ 0 [] rfl (World.ownsRow_nil _ _ _ _) _ _ _ _ _ rfl hr (ints_one _ _) (by unfold maxLen; omega) (by omega) (Nat.le_refl _) ?_)
  intro v' w' hown' _ hb'
  obtain ⟨A', c', rfl⟩ := own_slice hown'
  go_wp2
  go_ret
  exact ⟨A', c', by simp, by simpa using hown', hb'⟩

theorem tmod_or (i n : Int) (hn : 0 < n) : (i.tmod n = i % n ∨ i.tmod n = i % n - n) ∧ 0 ≤ i % n ∧ i % n < n := by
  refine ⟨?_, Int.emod_nonneg _ (by omega), Int.emod_lt_of_pos _ hn⟩
  rw [Int.tmod_eq_emod]
  split
  · left; omega
  · right; omega
set_option maxRecDepth 100000 in
theorem Bring_any (i n : Int) (w : World) (hi : (Lit.int .i64 i).wf = true) (hn : n ≤ 9223372036854775807) (hn0 : 0 < n) :
    Calls Try.prog 23 #[.int .i64 i, .int .i64 n] w fun e w' => e = .returned (.int .i64 (i % n)) ∧ w = w' := by
  have HK := Lib.hid (tmod_or i n hn0)
  go_enter Try.func23, Try.ntmps23
  go_wp2
  · have h0 : i.tmod n < 0 := by assumption
    have h2 := HK.out
    go_ret
    refine ⟨?_, rfl⟩
    show Ending.returned (Value.int .i64 (wrap64 (i.tmod n + n))) = _
    rw [show i.tmod n + n = i % n by omega, IntWalk.wrap64_in _ (by omega)]
  · have h0 : 0 ≤ i.tmod n := by assumption
    have h2 := HK.out
    go_ret
    refine ⟨?_, rfl⟩
    show Ending.returned (Value.int .i64 (i.tmod n)) = _
    rw [show i.tmod n = i % n by omega]

theorem Grow_any (n : Nat) (w : World) (hn : n ≤ 200000000000000) :
    Calls Try.prog 28 #[.slice none 0 0, .int .i64 n] w fun e w' => ∃ A c, e = .returned (.slice A 0 c) ∧ w'.ownsRow w.heap.size 5 1 (.slice A 0 c) 0 [] ∧ Below w.heap.size w w' := by
  by_cases h : n = 0
  · subst h
    go_enter Try.func28, Try.ntmps28
    go_wp2
    go_ret
    exact ⟨none, 0, rfl, World.ownsRow_nil _ _ _ _, Below.refl _ _⟩
  · have hpos : (0 : Int) < n := by omega
    have hby : Try.t5.bytes = 1 := rfl
    have h1 : ¬ (281474976710656 < Builtin.nextslicecap n 0 * Try.t5.bytes) := by rw [nextslicecap_zero (by omega), hby]; omega
    have h2 : ¬ (281474976710656 < (n : Int) * (Try.t5.bytes : Int)) := by rw [hby]; omega
    clear hby
    go_enter Try.func28, Try.ntmps28
    go_wp2
    have hcap : ∀ t : Nat, n ≤ (Question.appendCap n 0 5).cut t ∧ (Question.appendCap n 0 5).cut t ≤ maxLen := by
      intro t
      show n ≤ n + t % (2 ^ 63 - n) ∧ n + t % (2 ^ 63 - n) ≤ maxLen
      have := Nat.mod_lt t (show 2 ^ 63 - n > 0 by omega)
      unfold maxLen
      omega
    have hc := hcap (w.tape w.drawn (Question.appendCap n 0 5))
    go_ret
    refine ⟨some ⟨w.heap.size, 0, none⟩, _, rfl, ?_, ((Below.refl _ _).alloc (Nat.le_refl _) _).drew⟩
    refine World.ownsRow_made w _ _ (Nat.le_refl _) hc.2 ?_
    rw [Array.size_append, size_zeroCells, size_zeroCells]
    simp
    omega
theorem len_flat_next {ls : List (List Int)} {k : Nat} {l : List Int} (h : ls[k]? = some l) : (ls.take (k + 1)).flatten.length = (ls.take k).flatten.length + l.length := by
  rw [flat_take h, List.length_append]
theorem len_flat_le (ls : List (List Int)) (k : Nat) : (ls.take k).flatten.length ≤ ls.flatten.length := by
  conv => rhs; rw [← List.take_append_drop k ls, List.flatten_append, List.length_append]
  omega
set_option maxRecDepth 100000 in
set_option maxHeartbeats 1000000 in
theorem Concat_any (A : Option Addr) (c B B' : Nat) (vs : List Value) (ls : List (List Int)) (w : World) (hr : Row w B A vs.length vs) (hl : Lists w B' vs ls) (hB : B ≤ w.heap.size) (hB' : B' ≤ w.heap.size)
    (hn : vs.length ≤ 9223372036854775807) (hm : ls.flatten.length ≤ 200000000000000) :
    Calls Try.prog 27 #[.slice A vs.length c] w (Fresh w ls.flatten) := by
  obtain ⟨i0, hi, hz0, hz1, hz2⟩ := info_parts u8_info
  have HR := Lib.hid hr
  have HL := Lib.hid hl
  clear hr hl
  go_enter Try.func27, Try.ntmps27
  go_wp2
  go_loopw [3, 11] (fun z i wr => ∃ k : Nat, k ≤ vs.length ∧ i = .int .i64 k ∧ z = .int .i64 (((ls.take k).flatten.length : Nat) : Int) ∧ Below w.heap.size w wr) (fun _ i _ => vs.length - (intOf i).toNat)
  case atStart => exact ⟨0, by omega, rfl, by simp, Below.refl _ _⟩
  case round =>
    obtain ⟨k, hk, rfl, rfl, hb⟩ := hrel
    rename World => ws
    by_cases hlt : k < vs.length
    · have hkl : k < ls.length := by have := HL.out.1; omega
      obtain ⟨l, hl⟩ : ∃ l, ls[k]? = some l := ⟨_, List.getElem?_eq_getElem hkl⟩
      obtain ⟨A', c', hv, hrow⟩ := HL.out.2 k l hl
      have HN := Lib.hid (len_flat_next hl)
      have hle := len_flat_le ls (k + 1)
      rw [HN.out] at hle
      obtain ⟨b, off, rfl, hbB, hc⟩ := (HR.out.below (hb.mono hB)).2 (by omega)
      have hcell := (hc k hlt).trans hv
      generalize (ls.take k).flatten.length = s at *
      have hlt' : (k : Int) < (vs.length : Int) := by omega
      have hs0 : (0 : Int) ≤ (s : Int) + (l.length : Int) := by omega
      clear hc hv hrow hl
      have HB := Lib.hid hb
      clear hb
      go_wp2
      refine ⟨⟨k + 1, by omega, by go_num, by rw [HN.out]; go_num, HB.out⟩, by simp [intOf]; omega⟩
    · obtain rfl : k = vs.length := by omega
      have hall : ls.take vs.length = ls := by rw [List.take_of_length_le (by have := HL.out.1; omega)]
      rw [hall]
      have HA := Lib.hid hall
      clear hall
      obtain ⟨T, hT⟩ : ∃ T, ls.flatten.length = T := ⟨_, rfl⟩
      rw [hT] at hm ⊢
      have HT := Lib.hid hT
      clear hT
      go_wp2_with fail
      refine (Grow_any T _ hm).mono ?_
      rintro e w1 ⟨A1, c1, rfl, hown, hb1⟩
      have hbb := next hb hb1
      have hown0 := own_low hown hb.size
      clear hown hb hb1
      go_wp2
      go_loopw [6, 27] (fun o i wr => ∃ (k n : Nat) (A2 : Option Addr) (c2 : Nat), k ≤ vs.length ∧ i = .int .i64 k ∧ o = .slice A2 n c2 ∧ Hid (n = (ls.take k).flatten.length) ∧
        wr.ownsRow w.heap.size 5 1 (.slice A2 n c2) n (ints .u8 (ls.take k).flatten) ∧ Below w.heap.size w wr) (fun _ i _ => vs.length - (intOf i).toNat)
      case atStart => exact ⟨0, 0, A1, c1, by omega, rfl, rfl, Lib.hid rfl, hown0, hbb⟩
      case round =>
        obtain ⟨k, n, A2, c2, hk, rfl, rfl, HN, hown, hb⟩ := hrel
        rename World => ws
        by_cases hlt : k < vs.length
        · have hkl : k < ls.length := by have := HL.out.1; omega
          obtain ⟨l, hl⟩ : ∃ l, ls[k]? = some l := ⟨_, List.getElem?_eq_getElem hkl⟩
          obtain ⟨A', c', hv, hrow⟩ := HL.out.2 k l hl
          have hnx := len_flat_next hl
          have hfl := Lib.hid (flat_take hl)
          have hle := len_flat_le ls (k + 1)
          rw [hnx, HT.out, ← HN.out] at hle
          have HN1 : Hid (n + l.length = (ls.take (k + 1)).flatten.length) := Lib.hid (by rw [hnx, HN.out])
          have hrow' := hrow.below (hb.mono hB')
          obtain ⟨b, off, rfl, hbB, hc⟩ := (HR.out.below (hb.mono hB)).2 (by omega)
          have hcell := (hc k hlt).trans hv
          have hlt' : (k : Int) < (vs.length : Int) := by omega
          have HOwn := Lib.hid hown
          have HRow := Lib.hid hrow'
          have HB := Lib.hid hb
          have hbs := hb.size
          clear hc hv hrow hrow' hl hnx hown hb
          go_wp2_with (at_builtin; refine wpList_app _ rfl (.tmp 31) (.tmp 32) 24 rfl w.heap.size 5 i0 (.int .u8 0) 1 Try.underlying24 hi hz0 hz1 hz2 rfl _ _ _ rfl HOwn.out _ _ _ _ _ rfl HRow.out (ints_one _ _) (by unfold maxLen; omega) (by omega) hbs ?_)
          intro v' w2 hown2 _ hb2
          obtain ⟨A3, c3, rfl⟩ := own_slice hown2
          go_wp2
          go_roundw
          case rel => exact ⟨k + 1, n + l.length, A3, c3, by omega, by go_num, rfl, HN1, by rw [hfl.out, ints_append]; exact hown2, HB.out.trans hb2⟩
          case measure => simp [intOf]; omega
        · obtain rfl : k = vs.length := by omega
          have hall := HA.out
          rw [hall] at hown
          have hn : n = ls.flatten.length := by rw [HN.out, hall]
          have HN2 := Lib.hid hn
          clear hall hn HN
          go_wp2
          go_ret
          have hn := HN2.out
          subst hn
          exact ⟨A2, c2, rfl, hown, hb⟩
end Go.Proofs.Ytoodchnjikkkkaa
