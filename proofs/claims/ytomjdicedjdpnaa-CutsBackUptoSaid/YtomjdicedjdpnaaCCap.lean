/- The program's captureName. -/
import Derived.Test.YtomjdicedjdpnaaCPart
import Derived.Test.YtomjdicedjdpnaaShelf
import Derived.Lib.IndexMore
import Derived.Lib.Strings
namespace Go.Proofs.Ytomjdicedjdpnaa
open Go.RowKit

/-- The library's variable holds some number. -/
def MX (w : World) : Prop := ∃ m, w.cell? ⟨0, 0, none⟩ = some (.int .i64 m)
theorem MX.pos {w : World} (h : MX w) : 0 < w.heap.size := by
  obtain ⟨m, hm⟩ := h
  exact World.block_lt_of_cell? w _ hm
theorem MX.on {w w' : World} (h : MX w) (hb : Below w.heap.size w w') : MX w' := by
  have hp := h.pos
  obtain ⟨m, hm⟩ := h
  exact ⟨m, (hb.cell (p := ⟨0, 0, none⟩) hp).trans hm⟩
theorem idx62 : ∀ L : List UInt8, (62 ∈ L.map UInt8.toNat → 0 ≤ Lib.index L [62] ∧ (L.take (Lib.index L [62]).toNat).map UInt8.toNat = pre62 (L.map UInt8.toNat)) ∧ (62 ∉ L.map UInt8.toNat → Lib.index L [62] = -1)
  | [] => ⟨fun h => by simp at h, fun _ => rfl⟩
  | b :: l => by
    have ih := idx62 l
    have hp : ([62] : List UInt8).isPrefixOf (b :: l) = ((62 : UInt8) == b) := by simp [List.isPrefixOf]
    unfold Lib.index
    rw [hp]
    by_cases hb : (62 : UInt8) = b
    · subst hb
      refine ⟨fun _ => ⟨by simp, by simp [pre62]⟩, fun h => absurd (by simp) h⟩
    · have hbf : ((62 : UInt8) == b) = false := by simpa using hb
      have hbn : b.toNat ≠ 62 := fun e => hb (UInt8.toNat_inj.1 e.symm)
      rw [hbf, if_neg (by simp)]
      rw [List.map_cons]
      by_cases hm : 62 ∈ l.map UInt8.toNat
      · obtain ⟨h1, h2⟩ := ih.1 hm
        have hf : (Lib.index l [62] == -1) = false := by rw [beq_eq_false_iff_ne]; omega
        rw [hf, if_neg (by simp)]
        refine ⟨fun _ => ⟨by omega, ?_⟩, fun h => absurd (List.mem_cons_of_mem _ hm) h⟩
        rw [show (Lib.index l [62] + 1).toNat = (Lib.index l [62]).toNat + 1 by omega, List.take_succ_cons, List.map_cons, h2, pre62, if_neg hbn]
      · have h1 := ih.2 hm
        rw [h1]
        refine ⟨fun h => ?_, fun _ => rfl⟩
        rcases List.mem_cons.1 h with h | h
        · exact absurd h.symm hbn
        · exact absurd h hm
theorem cut62 (s : ByteArray) : (62 ∈ bl s → (Lib.cut s.data.toList [62]).2.2 = true ∧ bl (⟨(Lib.cut s.data.toList [62]).1.toArray⟩ : ByteArray) = pre62 (bl s)) ∧ (62 ∉ bl s → (Lib.cut s.data.toList [62]).2.2 = false) := by
  have h := idx62 s.data.toList
  refine ⟨fun hm => ?_, fun hm => ?_⟩
  · obtain ⟨h1, h2⟩ := h.1 hm
    unfold Lib.cut
    rw [if_pos h1]
    exact ⟨rfl, by simpa [bl] using h2⟩
  · have h1 := h.2 hm
    unfold Lib.cut
    rw [if_neg (by omega)]
set_option maxRecDepth 100000 in
set_option maxHeartbeats 4000000 in
theorem captureName_any (s : ByteArray) (hs : s.size ≤ 1000000) (w : World) (hm : MX w) : Calls Try.prog 46 #[.string s] w fun e w' => e = .returned (.string (ofl (capN (bl s)))) ∧ Below w.heap.size w w' := by
  have HP := Try.strings_CutPrefix s ⟨#[60]⟩ w
  obtain ⟨inside, hin⟩ : ∃ x : ByteArray, (⟨(Lib.trimPrefix s.data.toList [60]).toArray⟩ : ByteArray) = x := ⟨_, rfl⟩
  obtain ⟨fd, hfd⟩ : ∃ x, Lib.hasPrefix s.data.toList [60] = x := ⟨_, rfl⟩
  rw [show (ByteArray.mk #[60]).data.toList = [60] from rfl, hin, hfd] at HP
  have hinz : inside.size ≤ s.size := by
    rw [← hin]
    show (Lib.trimPrefix s.data.toList [60]).toArray.size ≤ _
    rw [List.size_toArray]
    have hsl : s.data.toList.length = s.size := by rw [Array.length_toList]; rfl
    unfold Lib.trimPrefix
    split
    · rw [List.length_drop]; omega
    · omega
  obtain ⟨m, hmm⟩ := hm
  have HC := Try.strings_Cut inside ⟨#[62]⟩ m w (by omega) hmm
  rw [show (ByteArray.mk #[62]).data.toList = [62] from rfl] at HC
  have hc := cut62 inside
  obtain ⟨nm, hnm⟩ : ∃ x : ByteArray, (⟨(Lib.cut inside.data.toList [62]).1.toArray⟩ : ByteArray) = x := ⟨_, rfl⟩
  obtain ⟨af, haf⟩ : ∃ x : ByteArray, (⟨(Lib.cut inside.data.toList [62]).2.1.toArray⟩ : ByteArray) = x := ⟨_, rfl⟩
  obtain ⟨cl, hcl⟩ : ∃ x, (Lib.cut inside.data.toList [62]).2.2 = x := ⟨_, rfl⟩
  rw [hnm, haf, hcl] at HC
  rw [hnm, hcl] at hc
  have HI := Lib.hid (fun v => IsName_any nm v)
  have hfound : fd = true → ∃ t, bl s = 60 :: t ∧ bl inside = t := by
    intro e
    rw [e] at hfd
    unfold Lib.hasPrefix at hfd
    obtain ⟨t, ht⟩ := List.isPrefixOf_iff_prefix.1 hfd
    refine ⟨t.map UInt8.toNat, by unfold bl; rw [← ht]; rfl, ?_⟩
    rw [← hin]
    unfold Lib.trimPrefix
    rw [← ht]
    simp [bl, Lib.hasPrefix]
  have hnot : fd = false → capN (bl s) = [] := by
    intro e
    cases hL : bl s with
    | nil => rfl
    | cons c t =>
      refine capN_other t fun hc => ?_
      subst hc
      have : Lib.hasPrefix s.data.toList [60] = true := by
        unfold Lib.hasPrefix
        unfold bl at hL
        cases hd : s.data.toList with
        | nil => rw [hd] at hL; simp at hL
        | cons x r =>
          rw [hd] at hL
          simp only [List.map_cons, List.cons.injEq] at hL
          have hx : x = 60 := UInt8.toNat_inj.1 hL.1
          subst hx
          simp
      rw [this] at hfd
      rw [← hfd] at e
      cases e
  obtain ⟨r, hr⟩ : ∃ x, ofl (capN (bl s)) = x := ⟨_, rfl⟩
  rw [hr]
  clear hin hnm haf hcl hfd
  cases fd with
  | false =>
    have hr0 : ByteArray.empty = r := by rw [← hr, hnot rfl]; rfl
    clear hc hfound hnot hr
    go_enter Try.func46, Try.ntmps46
    go_wp2_with fail
    with_reducible refine HP.mono ?_
    rintro e w1 ⟨rfl, rfl⟩
    go_wp2_with fail
    with_reducible refine HC.mono ?_
    rintro e w2 ⟨rfl, ⟨nd, rfl⟩⟩
    have HB := Lib.hid (Below.dn (Below.refl w1.heap.size w1) nd)
    clear HP HC hmm
    go_wp2_with fail
    go_ret
    exact ⟨by rw [← hr0]; rfl, HB.out⟩
  | true =>
    obtain ⟨t, ht1, ht2⟩ := hfound rfl
    rw [ht2] at hc
    cases cl with
    | false =>
      have hr0 : ByteArray.empty = r := by
        rw [← hr, ht1, capN_never (fun k => by have := (hc.1 k).1; cases this)]; rfl
      clear hc hfound hnot hr ht1 ht2
      go_enter Try.func46, Try.ntmps46
      go_wp2_with fail
      with_reducible refine HP.mono ?_
      rintro e w1 ⟨rfl, rfl⟩
      go_wp2_with fail
      with_reducible refine HC.mono ?_
      rintro e w2 ⟨rfl, ⟨nd, rfl⟩⟩
      have HB := Lib.hid (Below.dn (Below.refl w1.heap.size w1) nd)
      clear HP HC hmm
      go_wp2_with fail
      go_ret
      exact ⟨by rw [← hr0]; rfl, HB.out⟩
    | true =>
      have h62 : 62 ∈ t := by
        rcases Classical.em (62 ∈ t) with k | k
        · exact k
        · have := hc.2 k; cases this
      have hnp := (hc.1 h62).2
      have hcap : capN (bl s) = if nameB (bl nm) = true then bl nm else [] := by
        rw [ht1, capN_cons, hnp]
        by_cases hn : nameB (pre62 t) = true
        · rw [if_pos ⟨rfl, h62, hn⟩, if_pos hn]
        · rw [if_neg (fun k => hn k.2.2), if_neg hn]
      cases hn : nmS nm with
      | false =>
        rw [hn] at HI
        have hr0 : ByteArray.empty = r := by rw [← hr, hcap, if_neg (by unfold nmS at hn; rw [hn]; simp)]; rfl
        clear hc hfound hnot hr ht1 ht2 hcap hnp hn h62
        go_enter Try.func46, Try.ntmps46
        go_wp2_with fail
        with_reducible refine HP.mono ?_
        rintro e w1 ⟨rfl, rfl⟩
        go_wp2_with fail
        with_reducible refine HC.mono ?_
        rintro e w2 ⟨rfl, ⟨nd, rfl⟩⟩
        have HB := Lib.hid (Below.dn (Below.refl w1.heap.size w1) nd)
        clear HP HC hmm
        go_wp2_with fail
        with_reducible refine (HI.out _).mono ?_
        rintro e w3 ⟨rfl, b⟩
        have HB2 := Lib.hid (next HB.out b)
        clear b
        go_wp2_with fail
        go_ret
        exact ⟨by rw [← hr0]; rfl, HB2.out⟩
      | true =>
        rw [hn] at HI
        have hr0 : nm = r := by
          rw [← hr, hcap, if_pos (show nameB (bl nm) = true from hn)]
          exact (bl_inj (bl_ofl (bl_byt nm))).symm
        clear hc hfound hnot hr ht1 ht2 hcap hnp hn h62
        subst hr0
        go_enter Try.func46, Try.ntmps46
        go_wp2_with fail
        with_reducible refine HP.mono ?_
        rintro e w1 ⟨rfl, rfl⟩
        go_wp2_with fail
        with_reducible refine HC.mono ?_
        rintro e w2 ⟨rfl, ⟨nd, rfl⟩⟩
        have HB := Lib.hid (Below.dn (Below.refl w1.heap.size w1) nd)
        clear HP HC hmm
        go_wp2_with fail
        with_reducible refine (HI.out _).mono ?_
        rintro e w3 ⟨rfl, b⟩
        have HB2 := Lib.hid (next HB.out b)
        clear b
        go_wp2_with fail
        go_ret
        exact ⟨by rfl, HB2.out⟩
end Go.Proofs.Ytomjdicedjdpnaa
