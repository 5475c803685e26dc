/- The document's Copy and Same, of entries. -/
import Derived.Test.YtpeepolmbcakbaaDoorBUnpW
import Derived.Deep.DeepAppendWide
namespace Go.Proofs.YtpeepolmbcakbaaDoor
open Go.RowKit

/-- The cells of given entries. -/
def ecE (es : List (Int × ByteArray)) : List Value := ec es.length (fun j => (es.getD j (0, ByteArray.empty)).1) (fun j => (es.getD j (0, ByteArray.empty)).2)
theorem ecE_len (es : List (Int × ByteArray)) : (ecE es).length = es.length * 2 := ec_len _ _ _
theorem ecE_one (es : List (Int × ByteArray)) : ∀ u ∈ ecE es, u.oneCell' = true := by
  intro u hu
  obtain ⟨i, _, rfl⟩ := List.mem_map.1 hu
  split <;> rfl
theorem ecE_own {w : World} {base n c : Nat} {A : Option Addr} {es : List (Int × ByteArray)} (h : w.ownsRow base 43 2 (.slice A n c) n (ecE es)) (hn : es.length = n) : RowE w w.heap.size A n es := by
  subst hn
  have := RowE.own h
  rwa [show (List.range es.length).map (fun j => ((es.getD j (0, ByteArray.empty)).1, (es.getD j (0, ByteArray.empty)).2)) = es from ?_] at this
  apply List.ext_getElem?
  intro i
  by_cases hi : i < es.length
  · simp [hi, List.getD_eq_getElem?_getD]
  · rw [List.getElem?_eq_none (by simpa using hi), List.getElem?_eq_none (by omega)]
theorem ownE_slice {w : World} {base n : Nat} {v : Value} {xs : List Value} (h : w.ownsRow base 43 2 v n xs) : ∃ A c, v = .slice A n c := by
  rcases h.2 with ⟨hv, hn⟩ | ⟨g, cap, cur, hv, _⟩
  · subst hv; subst hn; exact ⟨none, 0, rfl⟩
  · exact ⟨_, _, hv⟩
/-- What a call that answers entries leaves behind. -/
def FreshE (w : World) (es : List (Int × ByteArray)) (n : Nat) (e : Ending) (w' : World) : Prop :=
  ∃ A c, e = .returned (.slice A n c) ∧ w'.ownsRow w.heap.size 43 2 (.slice A n c) n (ecE es) ∧ Below w.heap.size w w'

theorem addr_add (b off j : Nat) : (⟨b, off, none⟩ : Addr).add j = ⟨b, off + j, none⟩ := by
  unfold Addr.add
  split <;> simp_all

set_option maxRecDepth 100000 in
theorem CopyE_any (A : Option Addr) (n c : Nat) (es : List (Int × ByteArray)) (w : World) (hr : RowE w w.heap.size A n es) (hn : n * 24 ≤ 140737488351232) :
    Calls Tryd.prog 10 #[.slice A n c] w (FreshE w es n) := by
  obtain ⟨i0, hi, hz0, hz1, hz2⟩ := info_parts ent_info
  rcases A with _ | ad
  · have hn0 : n = 0 := by
      rcases Nat.eq_zero_or_pos n with h0 | h0
      · exact h0
      · obtain ⟨_, _, he, _⟩ := hr.2 h0
        cases he
    subst hn0
    have he : es = [] := List.eq_nil_of_length_eq_zero hr.1
    subst he
    go_enter Tryd.func10, Tryd.ntmps10
    go_wp2
    go_ret
    exact ⟨none, 0, rfl, World.ownsRow_nil _ _ _ _, Below.refl _ _⟩
  · have hc : ∀ j u, (ecE es)[j]? = some u → w.cell? (ad.add j) = some u := by
      intro j u hu
      have hj : j < n * 2 := by have := (List.getElem?_eq_some_iff.1 hu).1; rw [ecE_len, hr.1] at this; exact this
      obtain ⟨b, off, he, _, hc⟩ := hr.2 (by omega)
      injection he with he
      subst he
      have hk := hc (j / 2) (by omega)
      rw [ecE, ec_get _ _ (by rw [hr.1]; exact hj)] at hu
      by_cases h2 : j % 2 = 0
      · rw [if_pos h2] at hu
        rw [← hu, ← hk.1, addr_add, show off + j = off + j / 2 * 2 by omega]
      · rw [if_neg h2] at hu
        rw [← hu, ← hk.2, addr_add, show off + j = off + j / 2 * 2 + 1 by omega]
    have hlen : (ecE es).length = n * 2 := by rw [ecE_len, hr.1]
    have HC := Lib.hid hc
    clear hr hc
    go_enter Tryd.func10, Tryd.ntmps10
    go_wp2_with (at_builtin; refine wpList_append_own_wide w rfl (.tmp 4) (.tmp 5) 22 rfl w.heap.size 43 i0 (.agg #[.int .i64 0, .string ByteArray.empty]) 2 24 Tryd.underlying22 hi hz0 hz1 hz2 rfl (by omega) _ 0 [] rfl (World.ownsRow_nil _ _ _ _) ad n c (ecE es) rfl hlen HC.out (ecE_one es) (by unfold maxLen; omega) (by omega) (Nat.le_refl _) ?_)
    intro v' w' hown' hg _
    have hb' : Below w.heap.size w w' := (Below.refl _ _).grown hg (Nat.le_refl _) (by simp [Value.ownBlock])
    obtain ⟨A', c', rfl⟩ := ownE_slice hown'
    go_wp2
    go_ret
    exact ⟨A', c', rfl, hown', hb'⟩

theorem getD_ne {es fs : List (Int × ByteArray)} {j : Nat} (h1 : j < es.length) (h2 : es.length = fs.length) (h : es.getD j (0, ByteArray.empty) ≠ fs.getD j (0, ByteArray.empty)) : es ≠ fs := by
  rintro rfl
  exact h rfl
theorem take_same {es fs : List (Int × ByteArray)} {j : Nat} (h1 : j < es.length) (h2 : es.length = fs.length) (h : es.take j = fs.take j) (h3 : es.getD j (0, ByteArray.empty) = fs.getD j (0, ByteArray.empty)) : es.take (j + 1) = fs.take (j + 1) := by
  rw [take_snoc (0, ByteArray.empty) h1, take_snoc (0, ByteArray.empty) (by omega), h, h3]

set_option maxRecDepth 100000 in
set_option maxHeartbeats 2000000 in
theorem SameE_any (A A' : Option Addr) (n m c c' : Nat) (es fs : List (Int × ByteArray)) (w : World) (hr : RowE w w.heap.size A n es) (hs : RowE w w.heap.size A' m fs) (hn : n ≤ 9223372036854775807) (hm : m ≤ 9223372036854775807) :
    Calls Tryd.prog 16 #[.slice A n c, .slice A' m c'] w fun e w' => e = .returned (.bool (decide (es = fs))) ∧ Below w.heap.size w w' := by
  by_cases hne : n = m
  · subst hne
    have HR := Lib.hid hr
    have HS := Lib.hid hs
    clear hr hs
    go_enter Tryd.func16, Tryd.ntmps16
    go_wp2_with fail
    go_loopw [5] (fun s5 wr => ∃ k : Nat, k ≤ n ∧ s5 = .int .i64 k ∧ Hid (es.take k = fs.take k) ∧ Below w.heap.size w wr) (fun i _ => n - (intOf i).toNat)
    case atStart => exact ⟨0, Nat.zero_le _, rfl, Lib.hid rfl, Below.refl _ _⟩
    case round =>
      obtain ⟨k, hk, rfl, HT, hb⟩ := hrel
      rename World => wr
      by_cases hlt : k < n
      · have hlt' : (k : Int) < (n : Int) := by omega
        have hk0 : (0 : Int) ≤ (k : Int) := by omega
        obtain ⟨b, off, rfl, hb1, h1⟩ := HR.out.2 (by omega)
        obtain ⟨b', off', rfl, hb2, h2⟩ := HS.out.2 (by omega)
        obtain ⟨a1, a2⟩ := h1 k hlt
        obtain ⟨a3, a4⟩ := h2 k hlt
        replace a1 := (hb.cell (p := ⟨b, off + k * 2, none⟩) hb1).trans a1
        replace a2 := (hb.cell (p := ⟨b, off + k * 2 + 1, none⟩) hb1).trans a2
        replace a3 := (hb.cell (p := ⟨b', off' + k * 2, none⟩) hb2).trans a3
        replace a4 := (hb.cell (p := ⟨b', off' + k * 2 + 1, none⟩) hb2).trans a4
        obtain ⟨t, ht⟩ : ∃ t, (es.getD k (0, ByteArray.empty)).1 = t := ⟨_, rfl⟩
        obtain ⟨s, hs⟩ : ∃ s, (es.getD k (0, ByteArray.empty)).2 = s := ⟨_, rfl⟩
        obtain ⟨t', ht'⟩ : ∃ t, (fs.getD k (0, ByteArray.empty)).1 = t := ⟨_, rfl⟩
        obtain ⟨s', hs'⟩ : ∃ s, (fs.getD k (0, ByteArray.empty)).2 = s := ⟨_, rfl⟩
        have HX : Hid (es.getD k (0, ByteArray.empty) = (t, s) ∧ fs.getD k (0, ByteArray.empty) = (t', s')) := Lib.hid ⟨Prod.ext ht hs, Prod.ext ht' hs'⟩
        rw [ht] at a1
        rw [hs] at a2
        rw [ht'] at a3
        rw [hs'] at a4
        replace hb := Lib.hid hb
        clear ht hs ht' hs' h1 h2
        by_cases hte : t = t'
        · subst hte
          by_cases hse : s = s'
          · subst hse
            have hb1 : (t == t) = true := beq_self_eq_true t
            have hb2 : (s.toList == s.toList) = true := beq_self_eq_true _
            have HT1 : Hid (es.take (k + 1) = fs.take (k + 1)) := Lib.hid (take_same (by rw [HR.out.1]; exact hlt) (by rw [HR.out.1, HS.out.1]) HT.out (by rw [HX.out.1, HX.out.2]))
            go_wp2_with fail
            go_quiet (fail)
            go_wp2_with fail
            refine ⟨⟨k + 1, hlt, by go_num, HT1, Below.dn hb.out _⟩, ?_⟩
            simp [intOf]
            omega
          · have hb1 : (t == t) = true := beq_self_eq_true t
            have hb2 : (s.toList == s'.toList) = false := by
              refine beq_eq_false_iff_ne.2 fun h => hse ?_
              rw [ByteArray.toList_eq, ByteArray.toList_eq] at h
              exact ByteArray.ext (Array.toList_inj.1 h)
            have HF : Hid (decide (es = fs) = false) := Lib.hid (decide_eq_false (getD_ne (j := k) (by rw [HR.out.1]; exact hlt) (by rw [HR.out.1, HS.out.1]) (by rw [HX.out.1, HX.out.2]; simpa using hse)))
            go_wp2_with fail
            go_quiet (fail)
            go_wp2_with fail
            go_ret
            exact ⟨by rw [HF.out]; rfl, Below.dn hb.out _⟩
        · have hb1 : (t == t') = false := beq_eq_false_iff_ne.2 hte
          have HF : Hid (decide (es = fs) = false) := Lib.hid (decide_eq_false (getD_ne (j := k) (by rw [HR.out.1]; exact hlt) (by rw [HR.out.1, HS.out.1]) (by rw [HX.out.1, HX.out.2]; simp [hte])))
          go_wp2_with fail
          go_quiet (fail)
          go_wp2_with fail
          go_ret
          exact ⟨by rw [HF.out]; rfl, Below.dn hb.out _⟩
      · have hkn : k = n := by omega
        subst hkn
        have HF : Hid (decide (es = fs) = true) := Lib.hid (by
          have := HT.out
          rw [List.take_of_length_le (by rw [HR.out.1]; exact Nat.le_refl _), List.take_of_length_le (by rw [HS.out.1]; exact Nat.le_refl _)] at this
          simp [this])
        clear hlt hk
        go_wp2_with fail
        go_ret
        exact ⟨by rw [HF.out]; rfl, hb⟩
  · have hne' : ¬ (n : Int) = (m : Int) := by omega
    have HF : Hid (decide (es = fs) = false) := Lib.hid (by
      rw [decide_eq_false_iff_not]
      rintro rfl
      exact hne (hr.1.symm.trans hs.1))
    clear hr hs
    go_enter Tryd.func16, Tryd.ntmps16
    go_wp2
    go_ret
    exact ⟨by rw [HF.out]; rfl, Below.refl _ _⟩
end Go.Proofs.YtpeepolmbcakbaaDoor
