/- The program's Match. -/
import Derived.Test.YtomjdicedjdpnaaCRMatch2
import Derived.Test.YtomjdicedjdpnaaCCap
namespace Go.Proofs.Ytomjdicedjdpnaa
open Go.RowKit

theorem toBA (s : ByteArray) : (⟨s.data.toList.toArray⟩ : ByteArray) = s := by simp
theorem ext_take (s : ByteArray) (i : Nat) : (⟨(s.data.toList.take i).toArray⟩ : ByteArray) = s.extract 0 i := by
  apply ByteArray.ext
  apply Array.toList_inj.1
  simp [ByteArray.data_extract]
theorem ext_drop (s : ByteArray) (i : Nat) : (⟨(s.data.toList.drop i).toArray⟩ : ByteArray) = s.extract i s.size := by
  apply ByteArray.ext
  apply Array.toList_inj.1
  have : s.data.toList.length = s.size := by rw [Array.length_toList]; rfl
  simp only [ByteArray.data_extract, Array.toList_extract, List.extract_eq_take_drop]
  rw [List.take_of_length_le (by rw [List.length_drop, this]; exact Nat.le_refl _)]
theorem prefix_iff (s p : ByteArray) : (Lib.hasPrefix s.data.toList p.data.toList = true) ↔ (p.size ≤ s.size ∧ s.extract 0 p.size = p) := by
  have hp : p.data.toList.length = p.size := by rw [Array.length_toList]; rfl
  have hs : s.data.toList.length = s.size := by rw [Array.length_toList]; rfl
  unfold Lib.hasPrefix
  rw [List.isPrefixOf_iff_prefix]
  constructor
  · intro h
    have hl := h.length_le
    refine ⟨by omega, ?_⟩
    rw [← ext_take]
    have e := List.prefix_iff_eq_take.1 h
    rw [hp] at e
    rw [← e]
  · rintro ⟨h1, h2⟩
    rw [List.prefix_iff_eq_take, hp]
    rw [← ext_take] at h2
    have := congrArg (fun z : ByteArray => z.data.toList) h2
    simpa using this.symm
theorem cut_any (s t : ByteArray) (w : World) (hs : s.size < 4294967281) (hm : MX w) :
    Calls Try.prog 31 #[.string s, .string t] w fun e w' => (idx s t < 0 ∧ e = .returned (.tuple #[.string s, .string ByteArray.empty, .bool false]) ∨ 0 ≤ idx s t ∧ e = .returned (.tuple #[.string (s.extract 0 (idx s t).toNat), .string (s.extract ((idx s t).toNat + t.size) s.size), .bool true])) ∧ Below w.heap.size w w' := by
  obtain ⟨m, hmm⟩ := hm
  refine (Try.strings_Cut s t m w hs hmm).mono ?_
  rintro e w' ⟨rfl, n, rfl⟩
  refine ⟨?_, Below.dn (Below.refl _ _) n⟩
  have ht : t.data.toList.length = t.size := by rw [Array.length_toList]; rfl
  unfold Lib.cut
  by_cases h : 0 ≤ Lib.index s.data.toList t.data.toList
  · right
    rw [if_pos h]
    refine ⟨h, ?_⟩
    dsimp only
    rw [ht, ext_take, ext_drop]
    rfl
  · left
    rw [if_neg h]
    refine ⟨by unfold idx; omega, ?_⟩
    dsimp only
    rw [toBA]
    rfl
set_option maxRecDepth 100000 in
set_option maxHeartbeats 8000000 in
theorem Match_any (b : Nat) (A : ByteArray) (l : List Lb) (line : ByteArray) (w : World) (h : CAt w b A l) (hne : l ≠ []) (hl : l.length ≤ 1000) (hs : line.size ≤ 100000000) (hM : MX w) :
    Calls Try.prog 11 #[.pointer (some ⟨b, 0, none⟩), .string line] w (MOut w (matchC A l line)) := by
  obtain ⟨a, n, c, hbw, hc0, hc1, hr⟩ := h
  have HR := Lib.hid hr
  have hn := hr.1
  have hn0 : 0 < n := by
    rcases Nat.eq_zero_or_pos n with h | h
    · exact absurd (List.length_eq_zero_iff.1 (hn.trans h)) hne
    · exact h
  have HC := Lib.hid (And.intro hbw hc1)
  have HN := Lib.hid hn
  have HM := Lib.hid hM
  have hP := Try.strings_CutPrefix line A w
  have hpi := prefix_iff line A
  have t0 : ((n : Int) == 0) = false := by rw [beq_eq_false_iff_ne]; omega
  clear hr
  cases hpf : Lib.hasPrefix line.data.toList A.data.toList with
  | false =>
    have HF : Hid (matchC A l line = none) := Lib.hid (by unfold matchC; rw [if_neg (fun k => by rw [hpi.2 k] at hpf; cases hpf)])
    rw [hpf] at hP
    obtain ⟨L0, hL0⟩ : ∃ x : ByteArray, (⟨(Lib.trimPrefix line.data.toList A.data.toList).toArray⟩ : ByteArray) = x := ⟨_, rfl⟩
    rw [hL0] at hP
    have HP := Lib.hid hP
    clear hP hpi hpf hL0
    go_enter Try.func11, Try.ntmps11
    go_wp2_with fail
    with_reducible refine HP.out.mono ?_
    rintro e w1 ⟨rfl, rfl⟩
    go_wp2_with fail
    go_ret2
    exact ⟨Below.refl _ _, .inl ⟨HF.out, rfl⟩⟩
  | true =>
    have hpq := hpi.1 hpf
    have hL0 : (⟨(Lib.trimPrefix line.data.toList A.data.toList).toArray⟩ : ByteArray) = line.extract A.size line.size := by
      unfold Lib.trimPrefix
      have hA : A.data.toList.length = A.size := by rw [Array.length_toList]; rfl
      rw [if_pos hpf, hA, ext_drop]
    rw [hL0, hpf] at hP
    obtain ⟨L0, hL0e⟩ : ∃ x, line.extract A.size line.size = x := ⟨_, rfl⟩
    rw [hL0e] at hP
    have hL0s : L0.size ≤ 100000000 := by rw [← hL0e, ByteArray.size_extract]; omega
    have HP := Lib.hid hP
    have HMa : Hid (matchC A l line = goM l L0 []) := Lib.hid (by unfold matchC; rw [if_pos hpq, hL0e])
    clear hP hpi hpf hL0 hpq hL0e
    go_enter Try.func11, Try.ntmps11
    go_wp2_with fail
    with_reducible refine HP.out.mono ?_
    rintro e w1 ⟨rfl, rfl⟩
    go_wp2_with fail
    go_loopw [6, 8, 39] (fun p o q v => ∃ (k : Nat) (left : ByteArray) (Ao : Option Addr) (no co : Nat) (acc : List Lb), k ≤ n ∧ p = .string left ∧ o = .slice Ao no co ∧ q = .int .i64 (k : Int) ∧ no ≤ k ∧ no ≤ co ∧ co ≤ 9223372036854775807 ∧ left.size ≤ 100000000 ∧ Hid (RowL v v.heap.size Ao no acc) ∧ Hid (goM (l.drop k) left acc = goM l L0 []) ∧ Hid (Below w1.heap.size w1 v)) (fun _ _ q _ => n - (intOf q).toNat)
    case atStart => exact ⟨0, L0, none, 0, 0, [], by omega, rfl, rfl, rfl, by omega, by omega, by omega, hL0s, Lib.hid ⟨rfl, fun h => absurd h (by omega)⟩, Lib.hid rfl, Lib.hid (Below.refl _ _)⟩
    case round =>
      obtain ⟨k, left, Ao, no, co, acc, hk, rfl, rfl, rfl, hno, hnc, hcm, hls, HO, HG, HB⟩ := hrel
      rename World => wr
      have hn1 := HN.out
      by_cases hlt : k < n
      · obtain ⟨g, off, rfl, hgB, hc⟩ := HR.out.2 (by omega)
        have a1 := (HB.out.cell (p := ⟨g, off + k * 2, none⟩) hgB).trans (hc k hlt).1
        have a2 := (HB.out.cell (p := ⟨g, off + k * 2 + 1, none⟩) hgB).trans (hc k hlt).2
        have hkl : k < l.length := by omega
        have hd := getD_cons_drop hkl
        obtain ⟨x, hx⟩ : ∃ x, l.getD k noL = x := ⟨_, rfl⟩
        rw [hx] at a1 a2 hd
        obtain ⟨nm, lit⟩ := x
        dsimp only at a1 a2
        have hg := HG.out
        rw [hd, goM] at hg
        have k0 : (0 : Int) ≤ (k : Int) := by omega
        have k1 : (k : Int) < (n : Int) := by omega
        have f1 : decide ((k : Int) < (n : Int)) = true := decide_eq_true k1
        have HK := Lib.hid hlt
        have HBx := Lib.hid (HB.out.alloc HB.out.size (.cells #[.string nm, .string lit] 62))
        have HOx := Lib.hid (HO.out.on ((Below.refl wr.heap.size wr).alloc (Nat.le_refl _) (.cells #[.string nm, .string lit] 62)))
        have HMx := Lib.hid (HM.out.on HBx.out)
        clear hx hd hkl hc
        by_cases hlit : lit = ByteArray.empty
        · have t2 : lit.toList.isEmpty = true := by rw [hlit, ByteArray.toList_eq]; rfl
          rw [if_pos hlit] at hg
          have HGx := Lib.hid hg
          have hrs : ByteArray.empty.size ≤ 100000000 := Nat.zero_le _
          clear hg hlit
          by_cases hu : nm = ⟨#[95]⟩
          · have t3 : (nm.toList == [95]) = true := (lit_eq nm [95]).trans (decide_eq_true hu)
            have HG2 : Hid (goM (l.drop (k + 1)) ByteArray.empty acc = goM l L0 []) := Lib.hid (by
              have h := HGx.out
              unfold putN at h
              rwa [if_pos hu] at h)
            clear hu
            go_wp2_with fail
            exact ⟨⟨k + 1, ByteArray.empty, Ao, no, co, acc, HK.out, rfl, rfl, by go_num, by omega, hnc, hcm, hrs, HOx, HG2, HBx⟩, by have := HK.out; simp [intOf]; omega⟩
          · have t3 : (nm.toList == [95]) = false := (lit_eq nm [95]).trans (decide_eq_false hu)
            obtain ⟨acc2, hacc2⟩ : ∃ x, setL acc nm left = x := ⟨_, rfl⟩
            obtain ⟨m2, hm2⟩ : ∃ x, acc2.length = x := ⟨_, rfl⟩
            have HG2 : Hid (goM (l.drop (k + 1)) ByteArray.empty acc2 = goM l L0 []) := Lib.hid (by
              have h := HGx.out
              unfold putN at h
              rwa [if_neg hu, hacc2] at h)
            have hm2k : m2 ≤ k + 1 := by
              have h := set_len (l := acc) nm left
              have h2 := HO.out.1
              rw [hacc2, hm2] at h
              omega
            have hno9 : no ≤ 1000000 := by omega
            have HS := Lib.hid (fun v (hr : RowL v v.heap.size Ao no acc) => (show Calls Try.prog 19 #[.slice Ao no co, .string nm, .string left] v fun e w' => ∃ A2 c2, e = .returned (.slice A2 m2 c2) ∧ w'.ownsRow v.heap.size 77 2 (.slice A2 m2 c2) m2 (cL acc2) ∧ Below v.heap.size v w' from by
              have h := Set_any Ao no co acc nm left v hr hno9 hnc hcm
              rw [hacc2] at h
              unfold LOut at h
              rwa [hm2] at h))
            clear hu hacc2 hm2
            go_wp2_with fail
            with_reducible refine (HS.out _ (HOx).out).mono ?_
            rintro e s2 ⟨A2, c2, rfl, o2, b2⟩
            have HO2 := Lib.hid (RowL.own o2)
            have hcap := own_cap o2
            have HB2 := Lib.hid (next (HBx).out b2)
            clear b2 o2
            go_wp2_with fail
            exact ⟨⟨k + 1, ByteArray.empty, A2, m2, c2, acc2, HK.out, rfl, rfl, by go_num, hm2k, hcap.1, hcap.2, hrs, HO2, HG2, HB2⟩, by have := HK.out; simp [intOf]; omega⟩
        · have t2 : lit.toList.isEmpty = false := by
            cases hyl : bl lit with
            | nil => exact absurd (bl_nil.2 hyl) hlit
            | cons c t => exact isEmpty_no hyl
          rw [if_neg hlit] at hg
          have HCt := Lib.hid (cut_any left lit (wr.alloc (.cells #[.string nm, .string lit] 62)) (by omega) HMx.out)
          by_cases hneg : idx left lit < 0
          · rw [if_pos hneg] at hg
            have HF : Hid (matchC A l line = none) := Lib.hid (by rw [HMa.out, ← hg])
            have HNg := Lib.hid hneg
            clear hg hlit hneg
            go_wp2_with fail
            with_reducible refine HCt.out.mono ?_
            rintro e w2 ⟨⟨_, rfl⟩ | ⟨h9, _⟩, b2⟩
            · have HB2 := Lib.hid (next HBx.out b2)
              clear b2
              go_wp2_with fail
              go_ret2
              exact ⟨HB2.out, .inl ⟨HF.out, rfl⟩⟩
            · exact absurd HNg.out (by omega)
          · rw [if_neg hneg] at hg
            obtain ⟨val, hval⟩ : ∃ m, left.extract 0 (idx left lit).toNat = m := ⟨_, rfl⟩
            obtain ⟨rest, hrest⟩ : ∃ m, left.extract ((idx left lit).toNat + lit.size) left.size = m := ⟨_, rfl⟩
            rw [hval, hrest] at hg HCt
            have HGx := Lib.hid hg
            have hrs : rest.size ≤ 100000000 := by rw [← hrest, ByteArray.size_extract]; omega
            have HNg := Lib.hid hneg
            clear hg hlit hneg hval hrest
            by_cases hu : nm = ⟨#[95]⟩
            · have t3 : (nm.toList == [95]) = true := (lit_eq nm [95]).trans (decide_eq_true hu)
              have HG2 : Hid (goM (l.drop (k + 1)) rest acc = goM l L0 []) := Lib.hid (by
                have h := HGx.out
                unfold putN at h
                rwa [if_pos hu] at h)
              clear hu
              go_wp2_with fail
              with_reducible refine HCt.out.mono ?_
              rintro e w2 ⟨⟨h9, _⟩ | ⟨_, rfl⟩, b2⟩
              · exact absurd HNg.out (by omega)
              have HOy := Lib.hid (HOx.out.on b2)
              have HBy := Lib.hid (next HBx.out b2)
              have y1 : w2.cell? ⟨wr.heap.size, 0, none⟩ = some (.string nm) := (b2.cell (p := ⟨wr.heap.size, 0, none⟩) (by show wr.heap.size < (wr.alloc _).heap.size; rw [World.size_alloc]; omega)).trans (by rw [World.cell?_alloc_at _ _ _ _ (by simp)]; rfl)
              clear b2 a1 a2
              go_wp2_with fail
              exact ⟨⟨k + 1, rest, Ao, no, co, acc, HK.out, rfl, rfl, by go_num, by omega, hnc, hcm, hrs, HOy, HG2, HBy⟩, by have := HK.out; simp [intOf]; omega⟩
            · have t3 : (nm.toList == [95]) = false := (lit_eq nm [95]).trans (decide_eq_false hu)
              obtain ⟨acc2, hacc2⟩ : ∃ x, setL acc nm val = x := ⟨_, rfl⟩
              obtain ⟨m2, hm2⟩ : ∃ x, acc2.length = x := ⟨_, rfl⟩
              have HG2 : Hid (goM (l.drop (k + 1)) rest acc2 = goM l L0 []) := Lib.hid (by
                have h := HGx.out
                unfold putN at h
                rwa [if_neg hu, hacc2] at h)
              have hm2k : m2 ≤ k + 1 := by
                have h := set_len (l := acc) nm val
                have h2 := HO.out.1
                rw [hacc2, hm2] at h
                omega
              have hno9 : no ≤ 1000000 := by omega
              have HS := Lib.hid (fun v (hr : RowL v v.heap.size Ao no acc) => (show Calls Try.prog 19 #[.slice Ao no co, .string nm, .string val] v fun e w' => ∃ A2 c2, e = .returned (.slice A2 m2 c2) ∧ w'.ownsRow v.heap.size 77 2 (.slice A2 m2 c2) m2 (cL acc2) ∧ Below v.heap.size v w' from by
                have h := Set_any Ao no co acc nm val v hr hno9 hnc hcm
                rw [hacc2] at h
                unfold LOut at h
                rwa [hm2] at h))
              clear hu hacc2 hm2
              go_wp2_with fail
              with_reducible refine HCt.out.mono ?_
              rintro e w2 ⟨⟨h9, _⟩ | ⟨_, rfl⟩, b2⟩
              · exact absurd HNg.out (by omega)
              have HOy := Lib.hid (HOx.out.on b2)
              have HBy := Lib.hid (next HBx.out b2)
              have y1 : w2.cell? ⟨wr.heap.size, 0, none⟩ = some (.string nm) := (b2.cell (p := ⟨wr.heap.size, 0, none⟩) (by show wr.heap.size < (wr.alloc _).heap.size; rw [World.size_alloc]; omega)).trans (by rw [World.cell?_alloc_at _ _ _ _ (by simp)]; rfl)
              clear b2 a1 a2
              go_wp2_with fail
              with_reducible refine (HS.out _ (HOy).out).mono ?_
              rintro e s2 ⟨A2, c2, rfl, o2, b2⟩
              have HO2 := Lib.hid (RowL.own o2)
              have hcap := own_cap o2
              have HB2 := Lib.hid (next (HBy).out b2)
              clear b2 o2
              go_wp2_with fail
              exact ⟨⟨k + 1, rest, A2, m2, c2, acc2, HK.out, rfl, rfl, by go_num, hm2k, hcap.1, hcap.2, hrs, HO2, HG2, HB2⟩, by have := HK.out; simp [intOf]; omega⟩
      · obtain rfl : n = k := by omega
        have f3 : ¬ ((n : Int) < (n : Int)) := by omega
        have f1 : decide ((n : Int) < (n : Int)) = false := decide_eq_false f3
        have HF : Hid (matchC A l line = some acc) := Lib.hid (by rw [HMa.out, ← HG.out, List.drop_of_length_le (by omega), goM])
        go_wp2_with fail
        go_ret2
        exact ⟨HB.out, .inr ⟨acc, Ao, no, co, HF.out, rfl, HO.out, hnc, hcm⟩⟩
end Go.Proofs.Ytomjdicedjdpnaa
