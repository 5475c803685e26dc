/- The document's Unpack, walked. -/
import Derived.Test.YtpeepolmbcakbaaDoorBRUnp
import Derived.Deep.RegionLaw
import Derived.Deep.AppendLies
namespace Go.Proofs.YtpeepolmbcakbaaDoor
open Go.RowKit

theorem rCutK (A : Option Addr) (c n m : Nat) (b : List Int) (r : Bool) (w : World) (hr : Row w w.heap.size A n (ints .u8 b)) (hn : b.length = n) (hu : U8 b) (hl : n ≤ 150000000000000) (hc : n ≤ c) (hc2 : c ≤ 9223372036854775807) (hm : (cutOf b).length = m) (hs : sealedI b = r) :
    Calls Tryd.prog 39 #[.slice A n c] w fun e w' => ∃ A' c', e = .returned (.tuple #[.slice A' m c', .bool r]) ∧ Row w' w'.heap.size A' m (ints .u8 (cutOf b)) ∧ m ≤ c' ∧ Below w.heap.size w w' := by
  subst hm hs hn
  refine (rCut_any A c _ b w hr (Nat.le_refl _) hu hl hc hc2).mono ?_
  rintro e w' ⟨A', c', rfl, o, b'⟩
  exact ⟨A', c', rfl, Row.own o, own_cap o, b'⟩

set_option maxRecDepth 100000 in
set_option maxHeartbeats 4000000 in
theorem rUnpack_any (A : Option Addr) (n c : Nat) (b : List Int) (w : World) (hr : Row w w.heap.size A n (ints .u8 b)) (hn : b.length = n) (hu : U8 b) (hl : n ≤ 150000000000000) (hc : n ≤ c) (hc2 : c ≤ 9223372036854775807) :
    Calls Tryd.prog 20 #[.slice A n c] w (fun e w' => ∃ A' m c', m = (esU b).length ∧ e = .returned (.tuple #[.slice A' m c', .int .i64 (xU b)]) ∧ RowE w' w'.heap.size A' m (esU b) ∧ (∀ x, A' = some x → w.heap.size ≤ x.block) ∧ Below w.heap.size w w') := by
  obtain ⟨i0, hi, hz0, hz1, hz2⟩ := info_parts ent_info
  have BAD : Hid (∀ w', okU b = false → Below w.heap.size w w' → ∃ A' m c', m = (esU b).length ∧ Ending.returned (.tuple #[.slice none 0 0, .int .i64 80]) = .returned (.tuple #[.slice A' m c', .int .i64 (xU b)]) ∧ RowE w' w'.heap.size A' m (esU b) ∧ (∀ x, A' = some x → w.heap.size ≤ x.block) ∧ Below w.heap.size w w') := Lib.hid (fun w' h hb => by
    have e1 : esU b = [] := by rw [esU, h]; rfl
    have e2 : xU b = 80 := by rw [xU, h]; rfl
    rw [e1, e2]
    exact ⟨none, 0, 0, rfl, rfl, ⟨rfl, fun h => absurd h (by omega)⟩, (fun x h => by cases h), hb⟩)
  obtain ⟨m, hm⟩ : ∃ m, (cutOf b).length = m := ⟨_, rfl⟩
  by_cases hs : sealedI b = true
  case neg =>
    have HF : Hid (okU b = false) := Lib.hid (by rw [okU]; simp [hs])
    have HC := Lib.hid (rCutK A c n m b false w hr hn hu hl hc hc2 hm (by simpa using hs))
    clear hr hu hs hm hn
    go_enter Tryd.func20, Tryd.ntmps20
    go_wp2_with fail
    with_reducible refine HC.out.mono ?_
    rintro e w1 ⟨A1, c1, rfl, _, _, b1⟩
    go_wp2
    go_ret2
    exact BAD.out w1 HF.out b1
  case pos =>
    have HC := Lib.hid (rCutK A c n m b true w hr hn hu hl hc hc2 hm hs)
    have hml : m ≤ 150000000000000 := by
      rw [← hm, cutOf, if_pos hs, List.length_take]; omega
    have HU := Lib.hid (cutOf_u8 hu)
    obtain ⟨l, hl0⟩ : ∃ l, cutOf b = l := ⟨_, rfl⟩
    have HO : Hid (okU b = goodB l) := Lib.hid (by rw [okU, hs, Bool.true_and, hl0])
    have HE : Hid (∀ x, okU b = x → esU b = if x then esS l else []) := Lib.hid (by rintro x rfl; rw [esU, hl0])
    have HAg : Hid ((endOf l).2 = 0 → chkB (mm (esS l)) = 0 → okU b = decide (b = packL (esS l))) := Lib.hid (by rw [← hl0]; exact same_again hu hs)
    rw [hl0] at HC HU hm
    have HM := Lib.hid hm
    have HRb := Lib.hid hr
    have HNb := Lib.hid hn
    obtain ⟨p, hp⟩ : ∃ p, nU (l, 0) = p := ⟨_, rfl⟩
    obtain ⟨cn, hcn⟩ : ∃ k, cnt l = k := ⟨_, rfl⟩
    have hcv : uV l 0 = (cn : Int) := by rw [← hcn, cnt, Int.toNat_of_nonneg (uV_bd l 0).1]
    have HP : Hid (nU (l, 0) = p ∧ cnt l = cn ∧ uV l 0 = (cn : Int) ∧ uL l 0 = p.1 ∧ uX l 0 = p.2) := Lib.hid ⟨hp, hcn, hcv, by rw [← hp]; rfl, by rw [← hp]; rfl⟩
    obtain ⟨x0, hx0⟩ : ∃ x, p.2 = x := ⟨_, rfl⟩
    have HGF : Hid (goodB l = true → x0 = 0 ∧ 1 ≤ cn ∧ cn ≤ 32) := Lib.hid (fun h => by
      have := good_first HU.out h
      rw [HP.out.2.2.2.2, HP.out.2.1, hx0] at this
      exact this)
    have HX0 := Lib.hid hx0
    clear hr hu hs hm hl0 hp hcn hcv hn hx0
    go_enter Tryd.func20, Tryd.ntmps20
    go_wp2_with fail
    with_reducible refine HC.out.mono ?_
    rintro e w1 ⟨A1, c1, rfl, r1, _, b1⟩
    go_wp2_with fail
    with_reducible refine (NewM A1 c1 m l w1 HM.out r1 hml HU.out).mono ?_
    rintro e w2 ⟨g, rfl, hg, hgl, b2, rm⟩
    have hgw : w.heap.size ≤ g := Nat.le_trans b1.size hg
    obtain ⟨B, hB⟩ : ∃ B, w2.heap.size = B := ⟨_, rfl⟩
    obtain ⟨L, hL⟩ : ∃ L, w1.heap.size = L := ⟨_, rfl⟩
    rw [hB, hL] at rm
    replace b2 := next b1 b2
    have CU := MU_st g L B l l 0 w2 rm (fun _ => rfl)
    rw [HP.out.2.2.1, HP.out.2.2.2.1, HP.out.2.2.2.2, HX0.out] at CU
    replace CU := Lib.hid CU
    have hgB : g < B := hB ▸ hgl
    clear r1 b1 hg rm hL hgl HC
    go_wp2_with fail
    with_reducible refine CU.out.mono ?_
    rintro e w3 ⟨l2, rfl, rm3, hl2, o3⟩
    have hB3 : B ≤ w3.heap.size := hB ▸ o3.size
    have b3 := o3.below b2 hgw b2.size
    have hec := rm3.errCell
    clear CU hB o3 b2
    by_cases hbad : x0 ≠ 0 ∨ cn < 1 ∨ 32 < cn
    · have HF : Hid (okU b = false) := Lib.hid (by
        rw [HO.out]
        rcases hq : goodB l with _ | _
        · rfl
        · have := HGF.out hq; omega)
      have hd : (x0 != 0) = true ∨ ((x0 != 0) = false ∧ decide ((cn : Int) < 1) = true) ∨ ((x0 != 0) = false ∧ decide ((cn : Int) < 1) = false ∧ decide (32 < (cn : Int)) = true) := by
        by_cases h1 : x0 = 0
        · subst h1
          by_cases h2 : cn < 1
          · exact .inr (.inl ⟨rfl, by simp; omega⟩)
          · exact .inr (.inr ⟨rfl, by simp; omega, by simp; omega⟩)
        · exact .inl (by simp [h1])
      clear hbad
      rcases hd with h1 | ⟨h1, h2⟩ | ⟨h1, h2, h3⟩
      · go_wp2_with fail
        go_ret2
        exact BAD.out w3 HF.out b3
      · go_wp2_with fail
        go_ret2
        exact BAD.out w3 HF.out b3
      · go_wp2_with fail
        go_ret2
        exact BAD.out w3 HF.out b3
    · have hx00 : x0 = 0 := by omega
      subst hx00
      have h1 : 1 ≤ cn := by omega
      have h32 : cn ≤ 32 := by omega
      have h1' : ¬ (cn : Int) < 1 := by omega
      have h2' : ¬ 32 < (cn : Int) := by omega
      have hd1 : decide ((cn : Int) < 1) = false := by simp; omega
      have hd2 : decide (32 < (cn : Int)) = false := by simp; omega
      have hl2' := hl2 rfl
      subst hl2'
      have CS : Calls Tryd.prog 42 #[.pointer (some ⟨g, 0, none⟩)] w3 (MPost g L B w3 (rdAt p 0).1 (rdAt p 0).2.1 (rdAt p 0).2.2) := by
        have := MS_st g L B p.1 p.1 0 w3 rm3 (fun _ => rfl)
        show Calls _ _ _ _ (MPost g L B w3 (unzz (uV p.1 p.2)) (uL p.1 p.2) (uX p.1 p.2))
        rw [HX0.out]; exact this
      replace CS := Lib.hid CS
      clear hbad rm3
      go_wp2_with fail
      with_reducible refine CS.out.mono ?_
      rintro e w4 ⟨l4, rfl, rm4, hl4, o4⟩
      have b4 := o4.below b3 hgw b3.size
      have hB4 : B ≤ w4.heap.size := Nat.le_trans hB3 o4.size
      clear CS o4 b3 hec
      go_wp2_with fail
      have own0 := own_first w4 B (rdAt p 0).1 hB4
      have hgl0 : g ≠ w4.heap.size := by have := rm4.lt; omega
      have rm5 := rm4.other (Only.of_below ((Below.refl w4.heap.size w4).alloc (Nat.le_refl _) (.cells #[.int .i64 (rdAt p 0).1, .string ByteArray.empty] 43)) w4.heap.size) hgl0 hB4
      have b5 : Below w.heap.size w (w4.alloc (.cells #[.int .i64 (rdAt p 0).1, .string ByteArray.empty] 43)) := b4.alloc b4.size _
      obtain ⟨gl0, hgl1⟩ : ∃ x, w4.heap.size = x := ⟨_, rfl⟩
      obtain ⟨w5, hw5⟩ : ∃ W, w4.alloc (.cells #[.int .i64 (rdAt p 0).1, .string ⟨#[]⟩] 43) = W := ⟨_, rfl⟩
      rw [show w4.alloc (.cells #[.int .i64 (rdAt p 0).1, .string ByteArray.empty] 43) = w5 from hw5] at own0 rm5 b5
      rw [hw5]
      have e0 : [Value.int .i64 (rdAt p 0).1, .string ByteArray.empty] = ec 1 (tA p) (fun _ => ByteArray.empty) := rfl
      rw [hgl1, e0] at own0
      rw [hgl1]
      clear rm4 b4 hw5 hgl1 hgl0
      go_loopw [8, 9] (fun s8 s9 wr => ∃ (k gl c' : Nat) (lk : List Int), 1 ≤ k ∧ k ≤ cn ∧ s9 = .int .i64 k ∧ s8 = .slice (some ⟨gl, 0, none⟩) k c' ∧ wr.ownsRow B 43 2 (.slice (some ⟨gl, 0, none⟩) k c') k (ec k (tA p) (fun _ => ByteArray.empty)) ∧ Rm wr g L B lk (rdAt p (k - 1)).2.2 ∧ Hid ((rdAt p (k - 1)).2.2 = 0 → lk = (rdAt p (k - 1)).2.1) ∧ Below w.heap.size w wr) (fun _ i _ => cn - (intOf i).toNat)
      case atStart => exact ⟨1, gl0, 1, l4, by omega, h1, rfl, rfl, own0, rm5, Lib.hid hl4, b5⟩
      case round =>
        obtain ⟨k, gl, c', lk, hk1, hk2, rfl, rfl, ownk, rmk, HLk, hb⟩ := hrel
        rename World => wr
        obtain ⟨hBl, hglt⟩ := ownk.lt gl rfl
        have hgg : g ≠ gl := by omega
        by_cases hlt : k < cn
        · have hlt' : (k : Int) < (cn : Int) := by omega
          obtain ⟨q, hq⟩ : ∃ q, k - 1 = q := ⟨_, rfl⟩
          rw [hq] at rmk HLk
          have hkq : k = q + 1 := by omega
          have CU := MU_st g L B (rdAt p q).2.1 lk (rdAt p q).2.2 wr.drew rmk HLk.out
          have hs : (rdAt p q).1 + uV (rdAt p q).2.1 (rdAt p q).2.2 = (rdAt p k).1 := by rw [hkq]; rfl
          have HRk : Hid (uL (rdAt p q).2.1 (rdAt p q).2.2 = (rdAt p k).2.1 ∧ uX (rdAt p q).2.1 (rdAt p q).2.2 = (rdAt p k).2.2) := Lib.hid (by rw [hkq]; exact ⟨rfl, rfl⟩)
          rw [HRk.out.1, HRk.out.2] at CU
          have hq1 := rdAt_bd p q
          have hv := uV_bd (rdAt p q).2.1 (rdAt p q).2.2
          obtain ⟨a, ha⟩ : ∃ a, (rdAt p q).1 = a := ⟨_, rfl⟩
          obtain ⟨v, hv0⟩ : ∃ v, uV (rdAt p q).2.1 (rdAt p q).2.2 = v := ⟨_, rfl⟩
          obtain ⟨t, ht⟩ : ∃ t, (rdAt p k).1 = t := ⟨_, rfl⟩
          rw [ha, hv0, ht] at hs
          rw [ha] at hq1
          rw [hv0] at hv CU
          have hqi : (k : Int) - 1 = (q : Int) := by omega
          have hq0 : (0 : Int) ≤ (q : Int) := Int.natCast_nonneg q
          have hqk : (q : Int) < (k : Int) := by omega
          have hk32 : k < 32 := by omega
          have hq2 : q * 2 < k * 2 := by omega
          have hqlt : q < k := by omega
          have hqr : -9223372036854775808 ≤ (q : Int) ∧ (q : Int) ≤ 9223372036854775807 := by omega
          have htb : -9223372036854775808 ≤ t ∧ t ≤ 9223372036854775807 := by omega
          have HE1 : Hid (k + 1 - 1 = k) := Lib.hid (Nat.add_sub_cancel k 1)
          have hV : Hid ((Value.slice (some ⟨gl, 0, none⟩) k c').ownBlock ≠ some g) := Lib.hid (by simp [Value.ownBlock]; omega)
          have HK7 : Hid (k + 1 ≤ maxLen ∧ (k + 1) * 24 ≤ 140737488355328 ∧ w.heap.size ≤ gl ∧ 1 ≤ k + 1 ∧ cn - (k + 1) < cn - k) := Lib.hid (by unfold maxLen; omega)
          have hw64 : wrap64 t = t := IntWalk.wrap64_in _ htb
          have hwt : IntKind.i64.wrap t = t := IntWalk.i64_in _ htb
          have hwq : IntKind.i64.wrap (q : Int) = (q : Int) := IntWalk.i64_in _ hqr
          have hwq2 : wrap64 (q : Int) = (q : Int) := IntWalk.wrap64_in _ hqr
          have HST : Hid (∀ w' : World, w'.ownsRow B 43 2 (.slice (some ⟨gl, 0, none⟩) k c') k (ec k (tA p) (fun _ => ByteArray.empty)) → w'.cell? ⟨gl, q * 2, none⟩ = some (.int .i64 a)) := Lib.hid (fun w' ho => by
            rw [ho.cellAt (q * 2) hq2, ec_t _ _ hqlt, tA, ha])
          have HS0 := Lib.hid (HST.out wr.drew ownk)
          have HT := Lib.hid ht
          have HO0 := Lib.hid ownk
          have HB0 := Lib.hid hb
          replace CU := Lib.hid CU
          clear ha hv0 ht hq hkq rmk HLk ownk hb
          have hs0 := HS0.out
          have HONE : Hid (∀ u ∈ [Value.int .i64 t, .string ByteArray.empty], u.oneCell' = true) := Lib.hid (by simp [Value.oneCell'])
          go_wp2_with fail
          go_region_law ((first
              | (apply step_append_lies (hgd := rfl) (s := .tmp 46) (x := .tmp 57) (t := 22) (ho := rfl) (base := B) (e := 43) (i := i0) (z := .agg #[.int .i64 0, .string ByteArray.empty]) (size := 2) (bytes := 24) (ht := Tryd.underlying22) (hi := hi) (hz := hz0) (hsize := hz1) (hby := hz2) (hzs := rfl) (hsz := Nat.two_pos) (hs := rfl) (hown := own6.alloc _) (ad := ⟨w6.heap.size, 0, none⟩) (m := 1) (c := 1) (news := [.int .i64 t, .string ByteArray.empty]) (hx := rfl) (hl := rfl) (hnews := HN6.out) (h1 := HONE.out) (hm := Nat.one_pos) (h63 := HK7.out.1) (hbytes := HK7.out.2.1) (hbase := HB7.out) (H := _) (hH := rfl)
                 intro g7 c7 w7 o7 gr7 hor7 hlt7)
              | (go_simp
                 go_at_call 41
                 with_reducible refine CU.out.mono ?_
                 rintro e w6 ⟨l6, rfl, rm6, hl6, o6⟩
                 have own6 := own_only (w := wr.drew) HO0.out o6 hV.out
                 have s6 := HST.out w6 own6
                 have hB6 : B ≤ w6.heap.size := Nat.le_trans hBl (Nat.le_trans (Nat.le_of_lt hglt) o6.size)
                 have hb6 := o6.below HB0.out.drew hgw HB0.out.size
                 have HN6 : Hid (∀ j u, [Value.int .i64 t, .string ByteArray.empty][j]? = some u → (w6.alloc (.cells #[.int .i64 t, .string ⟨#[]⟩] 43)).cell? ((⟨w6.heap.size, 0, none⟩ : Addr).add j) = some u) := Lib.hid (fun j u hu => by rw [addr_add, Nat.zero_add]; exact (Blk.cell (Blk.made w6 43 [.int .i64 t, .string ⟨#[]⟩]) j).trans hu)
                 have HB7 : Hid (B ≤ (w6.alloc (.cells #[.int .i64 t, .string ⟨#[]⟩] 43)).heap.size) := Lib.hid (Nat.le_trans hB6 ((Below.refl w6.heap.size w6).alloc (Nat.le_refl _) _).size))))
          all_goals
            clear hs hv hq1 hw64 hwt hwq hwq2
            have o8 : w7.ownsRow B 43 2 (.slice (some ⟨g7, 0, none⟩) (k + 1) c7) (k + 1) (ec (k + 1) (tA p) (fun _ => ByteArray.empty)) := by
              rw [← ec_snoc, tA, HT.out]
              exact o7
            have on7 : Only gl (w6.alloc (.cells #[.int .i64 t, .string ⟨#[]⟩] 43)) w7 := gr7
            have hA6 : Below w6.heap.size w6 (w6.alloc (.cells #[.int .i64 t, .string ⟨#[]⟩] 43)) := (Below.refl _ _).alloc (Nat.le_refl _) _
            have rm7 := (rm6.other (Only.of_below hA6 gl) hgg hBl).other on7 hgg hBl
            have hb7 := on7.below (next hb6 hA6) HK7.out.2.2.1 (Nat.le_trans hb6.size hA6.size)
            clear o7 gr7 hor7 rm6 on7 hA6 own6 s6 hs0 o6 hb6
            go_wp2_with fail
            refine ⟨⟨k + 1, g7, c7, l6, HK7.out.2.2.2.1, hlt, by go_num, rfl, o8, by rw [HE1.out]; exact rm7, by rw [HE1.out]; exact Lib.hid hl6, hb7⟩, ?_⟩
            simp [intOf]
            omega
        · have hkn : k = cn := by omega
          subst hkn
          clear hlt hk2
          obtain ⟨d, hd⟩ : ∃ d, (rdAt p (k - 1)).2 = d := ⟨_, rfl⟩
          rw [hd] at rmk HLk
          have HD := Lib.hid hd
          have hs0 : wr.ownsRow B 43 2 (.slice (some ⟨gl, 0, none⟩) k c') k (ec k (tA p) (sK d 0)) := by rw [sK_zero]; exact ownk
          clear hd ownk
          go_wp2_with fail
          rename World => wr0
          go_loopw [10] (fun s10 wr => ∃ (j : Nat) (lj : List Int), j ≤ k ∧ s10 = .int .i64 j ∧ Rm wr g L B lj (rdLn d j).2 ∧ Hid ((rdLn d j).2 = 0 → lj = (rdLn d j).1) ∧ wr.ownsRow B 43 2 (.slice (some ⟨gl, 0, none⟩) k c') k (ec k (tA p) (sK d j)) ∧ Below w.heap.size w wr) (fun i _ => k - (intOf i).toNat)
          case atStart => exact ⟨0, lk, Nat.zero_le _, rfl, rmk, HLk, hs0, hb⟩
          case round =>
            obtain ⟨j, lj, hj, rfl, rmj, HLj, ownj, hbj⟩ := hrel
            rename World => wr
            by_cases hlt : j < k
            · have hlt' : (j : Int) < (k : Int) := by omega
              have hj0 : (0 : Int) ≤ (j : Int) := by omega
              have hj1 : j + 1 ≤ k := hlt
              have CT : Calls Tryd.prog 43 #[.pointer (some ⟨g, 0, none⟩), .int .i64 4096] wr (MtPost g L B wr (lnAt d j) (rdLn d (j + 1)).1 (rdLn d (j + 1)).2) := MT_st g L B 4096 _ lj _ wr rmj HLj.out
              obtain ⟨s, hs⟩ : ∃ s, strOfNums (lnAt d j) = s := ⟨_, rfl⟩
              have HS : Hid (∀ e w', MtPost g L B wr (lnAt d j) (rdLn d (j + 1)).1 (rdLn d (j + 1)).2 e w' → ∃ l', e = .returned (.string s) ∧ Rm w' g L B l' (rdLn d (j + 1)).2 ∧ ((rdLn d (j + 1)).2 = 0 → l' = (rdLn d (j + 1)).1) ∧ Only g wr w') := Lib.hid (by rintro e w' ⟨l', rfl, h1, h2, h3⟩; exact ⟨l', by rw [hs], h1, h2, h3⟩)
              have FIN : Hid (∀ (wr' : World) (l' : List Int), wr'.ownsRow B 43 2 (.slice (some ⟨gl, 0, none⟩) k c') k (ec k (tA p) (sK d j)) → Rm wr' g L B l' (rdLn d (j + 1)).2 → Below w.heap.size w wr' → Rm (wr'.setCell ⟨gl, j * 2 + 1, none⟩ (.string s)) g L B l' (rdLn d (j + 1)).2 ∧ (wr'.setCell ⟨gl, j * 2 + 1, none⟩ (.string s)).ownsRow B 43 2 (.slice (some ⟨gl, 0, none⟩) k c') k (ec k (tA p) (sK d (j + 1))) ∧ Below w.heap.size w (wr'.setCell ⟨gl, j * 2 + 1, none⟩ (.string s))) := Lib.hid (fun wr' l' ho hr hb => by
                have ho2 := (ho.stored (j * 2 + 1) (.string s)).1
                rw [ec_setS _ _ hlt, ← hs, sK_next, hs] at ho2
                have on : Only gl wr' (wr'.setCell ⟨gl, j * 2 + 1, none⟩ (.string s)) := (Only.refl gl _).put _ _
                exact ⟨hr.other on hgg hBl, ho2, on.below hb (by omega) hb.size⟩)
              have HFz := Lib.hid (fun (wr' : World) (ho : wr'.ownsRow B 43 2 (.slice (some ⟨gl, 0, none⟩) k c') k (ec k (tA p) (sK d j))) => And.intro (ho.frozenAt (j * 2 + 1)) ((ho.cellAt (j * 2 + 1) (by omega)).trans (ec_s _ _ hlt)))
              replace CT := Lib.hid CT
              replace ownj := Lib.hid ownj
              replace hbj := Lib.hid hbj
              clear hs rmj HLj
              go_wp2_with fail
              with_reducible refine CT.out.mono ?_
              intro e w6 hpost
              obtain ⟨l6, rfl, rd6, hl6, o6⟩ := HS.out e w6 hpost
              have own6 := own_only ownj.out o6 (by simp [Value.ownBlock]; omega)
              have hb6 := o6.below hbj.out hgw hbj.out.size
              obtain ⟨hfz, hc0⟩ := HFz.out w6 own6
              have HF := Lib.hid (FIN.out w6 l6 own6 rd6 hb6)
              have HL6 := Lib.hid hl6
              clear FIN HFz CT ownj hbj rd6 o6 own6 hb6 hpost HS hl6
              go_wp2_with fail
              obtain ⟨f1, f2, f3⟩ := HF.out
              refine ⟨⟨j + 1, l6, hj1, by go_num, f1, HL6, f2, f3⟩, ?_⟩
              simp [intOf]
              omega
            · have hjk : j = k := by omega
              subst hjk
              clear hlt hj hs0
              obtain ⟨X, hX⟩ : ∃ X, (rdLn d j).2 = X := ⟨_, rfl⟩
              have hend : (endOf l).2 = X := by rw [endOf, HP.out.1, HP.out.2.1, HD.out, ← hX]
              have hes : (List.range j).map (fun i => (tA p i, sK d j i)) = esS l := by
                rw [esS, HP.out.1, HP.out.2.1, HD.out]
                apply List.map_congr_left
                intro i hi
                rw [tA, sK, if_pos (List.mem_range.1 hi)]
              have hlen : (esS l).length = j := by rw [← hes]; simp
              have hrow := RowE.own ownj
              rw [hes] at hrow
              have hmm := mm_esS HU.out
              obtain ⟨y, hy⟩ : ∃ y, chkB (mm (esS l)) = y := ⟨_, rfl⟩
              have HG : Hid (goodB l = true → X = 0 ∧ y = 0) := Lib.hid (fun h => by
                unfold goodB at h
                simp only [Bool.and_eq_true, decide_eq_true_eq] at h
                exact ⟨hend.symm.trans h.1.1, by rw [← hy, hmm]; exact h.2⟩)
              have HAg2 : Hid (X = 0 → y = 0 → okU b = decide (b = packL (esS l))) := Lib.hid (fun h1 h2 => HAg.out (hend.trans h1) (hy.trans h2))
              have HBadG : Hid ((X ≠ 0 ∨ y ≠ 0) → okU b = false) := Lib.hid (fun h => by
                rw [HO.out]
                rcases hq : goodB l with _ | _
                · rfl
                · have := HG.out hq; omega)
              obtain ⟨mp, hmp⟩ : ∃ m, (packL (esS l)).length = m := ⟨_, rfl⟩
              have CP : Hid (Calls Tryd.prog 12 #[.slice (some ⟨gl, 0, none⟩) j c'] wr fun e w' => ∃ A' c', e = .returned (.tuple #[.slice A' mp c', .int .i64 y]) ∧ Row w' w'.heap.size A' mp (ints .u8 (packL (esS l))) ∧ Below wr.heap.size wr w') := Lib.hid (by
                refine (rPack_any _ j c' _ wr hrow (by omega)).mono ?_
                rintro e w' ⟨A', c', rfl, o, b⟩
                rw [hy]
                rw [hmp] at o ⊢
                exact ⟨A', c', rfl, Row.own o, b⟩)
              have hec := rmj.errCell
              have hlt9 := rmj.lt
              rw [hX] at hec
              have HROW := Lib.hid hrow
              have HN := Lib.hid hlen
              have HRB := Lib.hid (HRb.out.on hbj)
              have HEC := Lib.hid hec
              have HBJ := Lib.hid hbj
              clear hX hend hes hmm hy hmp hrow hlen hec hbj ownj rmj HLj
              go_wp2_with fail
              with_reducible refine CP.out.mono ?_
              rintro e w7 ⟨A7, c7, rfl, r7, b7⟩
              have hec7 := (b7.cell (p := ⟨g, 1, none⟩) hlt9).trans HEC.out
              replace HRB := Lib.hid (HRB.out.on b7)
              replace HROW := Lib.hid (HROW.out.on b7)
              replace HBJ := Lib.hid (next HBJ.out b7)
              have HR7 := Lib.hid r7
              clear CP b7 r7
              by_cases hX0 : X = 0
              · subst hX0
                by_cases hy0 : y = 0
                · subst hy0
                  have HZ := HAg2.out rfl rfl
                  obtain ⟨z, hz⟩ : ∃ z, decide (b = packL (esS l)) = z := ⟨_, rfl⟩
                  rw [hz] at HZ
                  have CQ : Hid (Calls Tryd.prog 13 #[.slice A n c, .slice A7 mp c7] w7 fun e w' => e = .returned (.bool z) ∧ Below w7.heap.size w7 w') := Lib.hid (by
                    have := eq_any _ _ n mp c c7 _ _ b (packL (esS l)) w7 HRB.out HR7.out (by omega)
                    rwa [hz] at this)
                  replace HZ := Lib.hid HZ
                  clear hz HAg HAg2
                  cases z
                  · go_wp2_with fail
                    with_reducible refine CQ.out.mono ?_
                    rintro e w8 ⟨rfl, b8⟩
                    have hb8 := next HBJ.out b8
                    go_wp2_with fail
                    go_ret2
                    exact BAD.out w8 HZ.out hb8
                  · go_wp2_with fail
                    with_reducible refine CQ.out.mono ?_
                    rintro e w8 ⟨rfl, b8⟩
                    have hb8 := next HBJ.out b8
                    have r8 := HROW.out.on b8
                    go_wp2_with fail
                    go_ret2
                    have h1 : esU b = esS l := HE.out true HZ.out
                    have h2 : xU b = 0 := by rw [xU, HZ.out]; rfl
                    rw [h1, h2]
                    exact ⟨_, j, c', HN.out.symm, rfl, r8, (fun x h => by injection h with h; subst h; show w.heap.size ≤ gl; omega), hb8⟩
                · have hyb : (y != 0) = true := by simp [hy0]
                  have HF := Lib.hid (HBadG.out (.inr hy0))
                  go_wp2_with fail
                  go_ret2
                  exact BAD.out w7 HF.out HBJ.out
              · have hxb : (X != 0) = true := by simp [hX0]
                have HF := Lib.hid (HBadG.out (.inl hX0))
                go_wp2_with fail
                go_ret2
                exact BAD.out w7 HF.out HBJ.out
end Go.Proofs.YtpeepolmbcakbaaDoor
