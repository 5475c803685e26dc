/- block.Unpack, walked. -/
import Derived.Test.YtpeepolmbcakbaaDoorBUnpack
namespace Go.Proofs.YtpeepolmbcakbaaDoor
open Go.RowKit

theorem own_only {w w' : World} {base n g : Nat} {v : Value} {xs : List Value} (h : w.ownsRow base 43 2 v n xs) (ho : Only g w w') (hv : v.ownBlock ≠ some g) : w'.ownsRow base 43 2 v n xs :=
  h.kept ho (.inr hv)
theorem own_onE {w w' : World} {base n : Nat} {v : Value} {xs : List Value} (h : w.ownsRow base 43 2 v n xs) (hb : Below w.heap.size w w') : w'.ownsRow base 43 2 v n xs :=
  h.kept (row := none) ⟨hb.os, hb.tape, hb.output, hb.size, fun j hj _ => hb.block j hj⟩ (by rcases h : v.ownBlock with _ | g <;> simp)
def tK (p : List Int × Int) (k : Nat) (j : Nat) : Int := if j < k then (rdAt p j).1 else 0
def sK (p : List Int × Int) (k : Nat) (j : Nat) : ByteArray := if j < k then strOfNums (lnAt p j) else ByteArray.empty
theorem tK_zero (p : List Int × Int) : tK p 0 = fun _ => 0 := by
  funext j
  rw [tK, if_neg (by omega)]
theorem sK_zero (p : List Int × Int) : sK p 0 = fun _ => ByteArray.empty := by
  funext j
  rw [sK, if_neg (by omega)]
theorem tK_next (p : List Int × Int) (k : Nat) : (fun j => if j = k then (rdAt p k).1 else tK p k j) = tK p (k + 1) := by
  funext j
  unfold tK
  by_cases h : j = k
  · subst h; rw [if_pos rfl, if_pos (by omega)]
  · rw [if_neg h]
    by_cases h2 : j < k
    · rw [if_pos h2, if_pos (by omega)]
    · rw [if_neg h2, if_neg (by omega)]
theorem sK_next (p : List Int × Int) (k : Nat) : (fun j => if j = k then strOfNums (lnAt p k) else sK p k j) = sK p (k + 1) := by
  funext j
  unfold sK
  by_cases h : j = k
  · subst h; rw [if_pos rfl, if_pos (by omega)]
  · rw [if_neg h]
    by_cases h2 : j < k
    · rw [if_pos h2, if_pos (by omega)]
    · rw [if_neg h2, if_neg (by omega)]
theorem goodB_cnt {l : List Int} (h : 32 < cnt l) : goodB l = false := by
  have : chkB (esOf l) = 2 := by rw [chkB, if_pos (.inr (by simp [esOf]; omega))]
  unfold goodB
  rw [this]
  simp

theorem cutOf_u8 {b : List Int} (h : U8 b) : Byt8 (cutOf b) := by
  unfold cutOf
  split
  · exact fun x hx => h x (List.mem_of_mem_take hx)
  · intro x hx; cases hx
theorem CutK (A : Option Addr) (c m : Nat) (b : List Int) (r : Bool) (w : World) (hr : Row w w.heap.size A b.length (ints .u8 b)) (hu : U8 b) (hl : b.length ≤ 150000000000000) (hc : b.length ≤ c) (hc2 : c ≤ 9223372036854775807) (hm : (cutOf b).length = m) (hs : sealedI b = r) :
    Calls Tryd.prog 22 #[.slice A b.length c] w fun e w' => ∃ A' c', e = .returned (.tuple #[.slice A' m c', .bool r]) ∧ Row w' w'.heap.size A' m (ints .u8 (cutOf b)) ∧ m ≤ c' ∧ Below w.heap.size w w' := by
  subst hm hs
  refine (Cut_any A c _ b w hr (Nat.le_refl _) hu hl hc hc2).mono ?_
  rintro e w' ⟨A', c', rfl, o, b'⟩
  exact ⟨A', c', rfl, Row.own o, own_cap o, b'⟩
theorem NewK (A : Option Addr) (c m : Nat) (l : List Int) (w : World) (hm : l.length = m) (hr : Row w w.heap.size A m (ints .u8 l)) (hl : m ≤ 150000000000000) (hu : Byt8 l) :
    Calls Tryd.prog 33 #[.slice A m c] w fun e w' => ∃ g, e = .returned (.pointer (some ⟨g, 0, none⟩)) ∧ w.heap.size ≤ g ∧ Rd w' g w'.heap.size l 0 ∧ Below w.heap.size w w' := by
  subst hm
  exact New_any A c _ l w hr (Nat.le_refl _) hl hu
theorem Rd.lt {w : World} {g B : Nat} {l : List Int} {x : Int} (h : Rd w g B l x) : g < w.heap.size := by
  obtain ⟨A, c, hblk, _⟩ := h
  exact hblk.lt

set_option maxRecDepth 100000 in
set_option maxHeartbeats 4000000 in
theorem Unpack_any (A : Option Addr) (n c : Nat) (b : List Int) (w : World) (hr : Row w w.heap.size A n (ints .u8 b)) (hn : b.length = n) (hu : U8 b) (hl : n ≤ 150000000000000) (hc : n ≤ c) (hc2 : c ≤ 9223372036854775807) :
    Calls Tryd.prog 19 #[.slice A n c] w (EOut w (esU b) (xU b)) := by
  subst hn
  obtain ⟨i0, hi, hz0, hz1, hz2⟩ := info_parts ent_info
  obtain ⟨m, hm⟩ : ∃ m, (cutOf b).length = m := ⟨_, rfl⟩
  by_cases hs : sealedI b = true
  case neg =>
    have HF : Hid (okU b = false) := Lib.hid (by rw [okU]; simp [hs])
    have HC := Lib.hid (CutK A c m b false w hr hu hl hc hc2 hm (by simpa using hs))
    clear hr hu hs hm
    go_enter Tryd.func19, Tryd.ntmps19
    go_wp2_with fail
    with_reducible refine HC.out.mono ?_
    rintro e w1 ⟨A1, c1, rfl, _, _, b1⟩
    go_wp2
    go_ret2
    exact EOut.bad HF.out b1
  case pos =>
    have HC := Lib.hid (CutK A c m b true w hr hu hl hc hc2 hm hs)
    have hml : m ≤ 150000000000000 := by
      rw [← hm, cutOf, if_pos hs, List.length_take]; omega
    have HU := Lib.hid (cutOf_u8 hu)
    obtain ⟨l, hl0⟩ : ∃ l, cutOf b = l := ⟨_, rfl⟩
    have HO : Hid (okU b = goodB l) := Lib.hid (by rw [okU, hs, Bool.true_and, hl0])
    have HE : Hid (∀ x, okU b = x → esU b = if x then esS l else []) := Lib.hid (by rintro x rfl; rw [esU, hl0])
    rw [hl0] at HC HU hm
    have HM := Lib.hid hm
    obtain ⟨p, hp⟩ : ∃ p, nU (l, 0) = p := ⟨_, rfl⟩
    obtain ⟨cn, hcn⟩ : ∃ k, cnt l = k := ⟨_, rfl⟩
    have hcv : uV l 0 = (cn : Int) := by rw [← hcn, cnt, Int.toNat_of_nonneg (uV_bd l 0).1]
    have HP : Hid (nU (l, 0) = p ∧ cnt l = cn ∧ uV l 0 = (cn : Int) ∧ uL l 0 = p.1 ∧ uX l 0 = p.2) := Lib.hid ⟨hp, hcn, hcv, by rw [← hp]; rfl, by rw [← hp]; rfl⟩
    have HB0 : Hid (p.2 ≠ 0 → p.1 = []) := Lib.hid (by rw [← hp]; exact nU_bad (p := (l, 0)) (fun h => absurd rfl h))
    clear hr hu hs hm hl hl0 hp hcn hcv
    go_enter Tryd.func19, Tryd.ntmps19
    go_wp2_with fail
    with_reducible refine HC.out.mono ?_
    rintro e w1 ⟨A1, c1, rfl, r1, _, b1⟩
    go_wp2_with fail
    with_reducible refine (NewK A1 c1 m l w1 HM.out r1 hml HU.out).mono ?_
    rintro e w2 ⟨g, rfl, hg, rd2, b2⟩
    have hgw : w.heap.size ≤ g := Nat.le_trans b1.size hg
    obtain ⟨B, hB⟩ : ∃ B, w2.heap.size = B := ⟨_, rfl⟩
    rw [hB] at rd2
    replace b2 := next b1 b2
    have CU := RU_st g B l 0 w2 rd2
    rw [HP.out.2.2.1, HP.out.2.2.2.1, HP.out.2.2.2.2] at CU
    replace CU := Lib.hid CU
    clear r1 b1 hg rd2
    go_wp2_with fail
    with_reducible refine CU.out.mono ?_
    rintro e w3 ⟨rfl, rd3, o3⟩
    have hB3 : B ≤ w3.heap.size := hB ▸ o3.size
    have b3 := o3.below b2 hgw b2.size
    clear CU hB o3 b2
    by_cases h32 : 32 < cn
    · have HF : Hid (okU b = false) := Lib.hid (by rw [HO.out]; exact goodB_cnt (by rw [HP.out.2.1]; exact h32))
      have h32' : 32 < (cn : Int) := by omega
      clear h32
      go_wp2_with fail
      go_ret2
      exact EOut.bad HF.out b3
    · have h32' : ¬ 32 < (cn : Int) := by omega
      have hz : B ≤ w3.heap.size := hB3
      have hws := b3.size
      go_wp2_with (refine wpList_make_full _ rfl (.tmp 25) (.tmp 25) 22 rfl w.heap.size 43 i0 (.agg #[.int .i64 0, .string ByteArray.empty]) 2 Tryd.underlying22 hi hz0 hz1 .i64 .i64 _ _ cn rfl rfl rfl rfl (by rw [hz2]; omega) (by unfold maxLen; omega) hws ?_)
      intro w4 hown hgr
      rw [made_ec] at hown
      have hb4 : Below w3.heap.size w3 w4 := (Below.refl _ _).grown hgr (Nat.le_refl _) (by simp)
      obtain ⟨gl, hgl⟩ : ∃ x, w3.heap.size = x := ⟨_, rfl⟩
      have hgg : g ≠ gl := by have := rd3.lt; omega
      have hBl : B ≤ gl := by omega
      have hwl : w.heap.size ≤ gl := by omega
      have rd4 : Rd w4 g B p.1 p.2 := rd3.other (Only.of_below hb4 gl) hgg hBl
      rw [hgl] at hown
      have b4 : Below w.heap.size w w4 := next b3 hb4
      have CS : Calls Tryd.prog 35 #[.pointer (some ⟨g, 0, none⟩)] w4 (RdPost g B w4 (rdAt p 0).1 (rdAt p 0).2.1 (rdAt p 0).2.2) := RS_st g B p.1 p.2 w4 rd4
      replace CS := Lib.hid CS
      have hcn : cn ≤ 32 := by omega
      clear rd3 b3 hb4 rd4 hz hws hB3 hgr
      rw [hgl]
      clear hgl
      go_wp2_with fail
      with_reducible refine CS.out.mono ?_
      rintro e w5 ⟨rfl, rd, o⟩
      have own := own_only hown o (by simp [Value.ownBlock]; omega)
      have bb := o.below b4 hgw b4.size
      clear CS o b4 hown
      rw [← tK_zero p] at own
      go_wp2_with fail
      go_loopw [9, 31] (fun s9 s31 wr => ∃ k : Nat, k ≤ cn ∧ s31 = .int .i64 k ∧ s9 = .int .i64 (rdAt p (k - 1)).1 ∧ Rd wr g B (rdAt p (k - 1)).2.1 (rdAt p (k - 1)).2.2 ∧ wr.ownsRow w.heap.size 43 2 (.slice (some ⟨gl, 0, none⟩) cn cn) cn (ec cn (tK p k) (fun _ => ByteArray.empty)) ∧ Below w.heap.size w wr) (fun _ i _ => cn - (intOf i).toNat)
      case atStart => exact ⟨0, Nat.zero_le _, rfl, rfl, rd, own, bb⟩
      case round =>
        obtain ⟨k, hk, rfl, rfl, rdk, ownk, hb⟩ := hrel
        rename World => wr
        by_cases hlt : k < cn
        · have hlt' : (k : Int) < (cn : Int) := by omega
          have hk0 : (0 : Int) ≤ (k : Int) := by omega
          have hk1 : k + 1 ≤ cn := hlt
          have FIN : Hid (∀ wr' : World, wr'.ownsRow w.heap.size 43 2 (.slice (some ⟨gl, 0, none⟩) cn cn) cn (ec cn (tK p k) (fun _ => ByteArray.empty)) → Rd wr' g B (rdAt p k).2.1 (rdAt p k).2.2 → Below w.heap.size w wr' → Rd (wr'.setCell ⟨gl, k * 2, none⟩ (.int .i64 (rdAt p k).1)) g B (rdAt p k).2.1 (rdAt p k).2.2 ∧ (wr'.setCell ⟨gl, k * 2, none⟩ (.int .i64 (rdAt p k).1)).ownsRow w.heap.size 43 2 (.slice (some ⟨gl, 0, none⟩) cn cn) cn (ec cn (tK p (k + 1)) (fun _ => ByteArray.empty)) ∧ Below w.heap.size w (wr'.setCell ⟨gl, k * 2, none⟩ (.int .i64 (rdAt p k).1))) := Lib.hid (fun wr' ho hr hb => by
            have ho2 := (ho.stored (k * 2) (.int .i64 (rdAt p k).1)).1
            rw [ec_setT _ _ hlt, tK_next] at ho2
            have on : Only gl wr' (wr'.setCell ⟨gl, k * 2, none⟩ (.int .i64 (rdAt p k).1)) := (Only.refl gl _).put _ _
            exact ⟨hr.other on hgg hBl, ho2, on.below hb hwl hb.size⟩)
          by_cases k0 : k = 0
          · subst k0
            have hfz := ownk.frozenAt (0 * 2)
            have hc0 := (ownk.cellAt (0 * 2) (by omega)).trans (ec_t _ _ hlt)
            have HF := Lib.hid (FIN.out wr ownk rdk hb)
            rw [Nat.zero_mul] at hfz hc0 HF
            clear FIN
            go_wp2_with fail
            obtain ⟨f1, f2, f3⟩ := HF.out
            refine ⟨⟨1, by omega, rfl, rfl, f1, f2, f3⟩, ?_⟩
            simp [intOf]
            omega
          · have hkp : (0 : Int) < (k : Int) := by omega
            obtain ⟨q, hq⟩ : ∃ q, k - 1 = q := ⟨_, rfl⟩
            rw [hq] at rdk ⊢
            have hkq : k = q + 1 := by omega
            have CU := RU_st g B _ _ wr rdk
            have hs : (rdAt p q).1 + uV (rdAt p q).2.1 (rdAt p q).2.2 = (rdAt p k).1 := by rw [hkq]; rfl
            have HR : Hid (uL (rdAt p q).2.1 (rdAt p q).2.2 = (rdAt p k).2.1 ∧ uX (rdAt p q).2.1 (rdAt p q).2.2 = (rdAt p k).2.2) := Lib.hid (by rw [hkq]; exact ⟨rfl, rfl⟩)
            rw [HR.out.1, HR.out.2] at CU
            have hq1 := rdAt_bd p q
            have hv := uV_bd (rdAt p q).2.1 (rdAt p q).2.2
            obtain ⟨a, ha⟩ : ∃ a, (rdAt p q).1 = a := ⟨_, rfl⟩
            obtain ⟨v, hv0⟩ : ∃ v, uV (rdAt p q).2.1 (rdAt p q).2.2 = v := ⟨_, rfl⟩
            obtain ⟨t, ht⟩ : ∃ t, (rdAt p k).1 = t := ⟨_, rfl⟩
            rw [ha, hv0, ht] at hs
            rw [ha] at hq1 ⊢
            rw [hv0] at hv CU
            rw [ht] at FIN
            have hwt : IntKind.i64.wrap t = t := IntWalk.i64_in _ (by omega)
            have hw64 : wrap64 t = t := IntWalk.wrap64_in _ (by omega)
            have htb : -9223372036854775808 ≤ t ∧ t ≤ 9223372036854775807 := by omega
            replace ht := Lib.hid ht
            have hkq9 := Lib.hid hkq
            have HFz := Lib.hid (fun (wr' : World) (ho : wr'.ownsRow w.heap.size 43 2 (.slice (some ⟨gl, 0, none⟩) cn cn) cn (ec cn (tK p k) (fun _ => ByteArray.empty))) => And.intro (ho.frozenAt (k * 2)) ((ho.cellAt (k * 2) (by omega)).trans (ec_t _ _ hlt)))
            have HE1 : Hid (k + 1 - 1 = k) := Lib.hid (by omega)
            replace CU := Lib.hid CU
            replace ownk := Lib.hid ownk
            replace hb := Lib.hid hb
            clear ha hv0 hq rdk k0 hkq
            go_wp2_with fail
            with_reducible refine CU.out.mono ?_
            rintro e w6 ⟨rfl, rd6, o6⟩
            have own6 := own_only ownk.out o6 (by simp [Value.ownBlock]; omega)
            have hb6 := o6.below hb.out hgw hb.out.size
            obtain ⟨hfz, hc0⟩ := HFz.out w6 own6
            have HF := Lib.hid (FIN.out w6 own6 rd6 hb6)
            clear FIN HFz CU ownk hb rd6 o6 own6 hb6
            go_wp2_with fail
            obtain ⟨f1, f2, f3⟩ := HF.out
            refine ⟨⟨k + 1, hk1, by go_num, by rw [HE1.out, ht.out], by rw [HE1.out]; exact f1, f2, f3⟩, ?_⟩
            simp [intOf]
            omega
        · have hkn : k = cn := by omega
          subst hkn
          clear hlt hk
          obtain ⟨d, hd⟩ : ∃ d, (rdAt p (k - 1)).2 = d := ⟨_, rfl⟩
          rw [hd] at rdk
          have HD := Lib.hid hd
          rw [← sK_zero d] at ownk
          clear hd
          go_wp2_with fail
          rename World => wr0
          go_loopw [48] (fun s48 wr => ∃ j : Nat, j ≤ k ∧ s48 = .int .i64 j ∧ Rd wr g B (rdLn d j).1 (rdLn d j).2 ∧ wr.ownsRow w.heap.size 43 2 (.slice (some ⟨gl, 0, none⟩) k k) k (ec k (tK p k) (sK d j)) ∧ Below w.heap.size w wr) (fun i _ => k - (intOf i).toNat)
          case atStart => exact ⟨0, Nat.zero_le _, rfl, rdk, ownk, hb⟩
          case round =>
            obtain ⟨j, hj, rfl, rdj, ownj, hbj⟩ := hrel
            rename World => wr
            by_cases hlt : j < k
            · have hlt' : (j : Int) < (k : Int) := by omega
              have hj0 : (0 : Int) ≤ (j : Int) := by omega
              have hj1 : j + 1 ≤ k := hlt
              have CT : Calls Tryd.prog 36 #[.pointer (some ⟨g, 0, none⟩), .int .i64 4096] wr (RtPost g B wr (lnAt d j) (rdLn d (j + 1)).1 (rdLn d (j + 1)).2) := RT_st g B 4096 _ _ wr rdj
              obtain ⟨s, hs⟩ : ∃ s, strOfNums (lnAt d j) = s := ⟨_, rfl⟩
              have HS : Hid (∀ e w', RtPost g B wr (lnAt d j) (rdLn d (j + 1)).1 (rdLn d (j + 1)).2 e w' → e = .returned (.string s) ∧ Rd w' g B (rdLn d (j + 1)).1 (rdLn d (j + 1)).2 ∧ Only g wr w') := Lib.hid (by rintro e w' ⟨rfl, h1, h2⟩; exact ⟨by rw [hs], h1, h2⟩)
              have FIN : Hid (∀ wr' : World, wr'.ownsRow w.heap.size 43 2 (.slice (some ⟨gl, 0, none⟩) k k) k (ec k (tK p k) (sK d j)) → Rd wr' g B (rdLn d (j + 1)).1 (rdLn d (j + 1)).2 → Below w.heap.size w wr' → Rd (wr'.setCell ⟨gl, j * 2 + 1, none⟩ (.string s)) g B (rdLn d (j + 1)).1 (rdLn d (j + 1)).2 ∧ (wr'.setCell ⟨gl, j * 2 + 1, none⟩ (.string s)).ownsRow w.heap.size 43 2 (.slice (some ⟨gl, 0, none⟩) k k) k (ec k (tK p k) (sK d (j + 1))) ∧ Below w.heap.size w (wr'.setCell ⟨gl, j * 2 + 1, none⟩ (.string s))) := Lib.hid (fun wr' ho hr hb => by
                have ho2 := (ho.stored (j * 2 + 1) (.string s)).1
                rw [ec_setS _ _ hlt, ← hs, sK_next, hs] at ho2
                have on : Only gl wr' (wr'.setCell ⟨gl, j * 2 + 1, none⟩ (.string s)) := (Only.refl gl _).put _ _
                exact ⟨hr.other on hgg hBl, ho2, on.below hb hwl hb.size⟩)
              have HFz := Lib.hid (fun (wr' : World) (ho : wr'.ownsRow w.heap.size 43 2 (.slice (some ⟨gl, 0, none⟩) k k) k (ec k (tK p k) (sK d j))) => And.intro (ho.frozenAt (j * 2 + 1)) ((ho.cellAt (j * 2 + 1) (by omega)).trans (ec_s _ _ hlt)))
              replace CT := Lib.hid CT
              replace ownj := Lib.hid ownj
              replace hbj := Lib.hid hbj
              clear hs rdj
              go_wp2_with fail
              with_reducible refine CT.out.mono ?_
              intro e w6 hpost
              obtain ⟨rfl, rd6, o6⟩ := HS.out e w6 hpost
              have own6 := own_only ownj.out o6 (by simp [Value.ownBlock]; omega)
              have hb6 := o6.below hbj.out hgw hbj.out.size
              obtain ⟨hfz, hc0⟩ := HFz.out w6 own6
              have HF := Lib.hid (FIN.out w6 own6 rd6 hb6)
              clear FIN HFz CT ownj hbj rd6 o6 own6 hb6 hpost HS
              go_wp2_with fail
              obtain ⟨f1, f2, f3⟩ := HF.out
              refine ⟨⟨j + 1, hj1, by go_num, f1, f2, f3⟩, ?_⟩
              simp [intOf]
              omega
            · have hjk : j = k := by omega
              subst hjk
              clear hlt hj
              obtain ⟨L, hL⟩ : ∃ L, (rdLn d j).1 = L := ⟨_, rfl⟩
              obtain ⟨X, hX⟩ : ∃ X, (rdLn d j).2 = X := ⟨_, rfl⟩
              have hend : endOf l = (L, X) := by
                rw [endOf, HP.out.1, HP.out.2.1, HD.out, ← hL, ← hX]
              have hes : (List.range j).map (fun i => (tK p j i, sK d j i)) = esS l := by
                rw [esS, HP.out.1, HP.out.2.1, HD.out]
                apply List.map_congr_left
                intro i hi
                have hi' := List.mem_range.1 hi
                rw [tK, sK, if_pos hi', if_pos hi']
              have hlen : (esS l).length = j := by rw [← hes]; simp
              have hrow := RowE.own ownj
              rw [hes] at hrow
              have hmm := mm_esS HU.out
              have hgood : goodB l = (decide (X = 0) && decide (L = []) && decide (chkB (mm (esS l)) = 0)) := by
                rw [goodB, hend, ← hmm]
              have hbad : X ≠ 0 → L = [] := by
                rw [← hL, ← hX]
                refine rdLn_bad ?_ j
                rw [← HD.out]
                exact rdAt_bad HB0.out (j - 1)
              rw [hL, hX] at rdj
              have CE := Lib.hid (fun w' h => Err_state g B L X w' h)
              have CL := Lib.hid (fun w' h => Left_state g B L X w' h hbad)
              have CC := Lib.hid (Check_any (some ⟨gl, 0, none⟩) j j (esS l) wr hrow (by omega))
              have HG := Lib.hid hgood
              have HEC : Hid (ec j (tK p j) (sK d j) = ec j (fun i => ((esS l).getD i (0, ByteArray.empty)).1) (fun i => ((esS l).getD i (0, ByteArray.empty)).2)) := Lib.hid (by
                apply ec_congr
                intro i hi
                rw [← hes]
                simp [List.getD_eq_getElem?_getD, hi])
              replace rdj := Lib.hid rdj
              replace ownj := Lib.hid ownj
              replace hbj := Lib.hid hbj
              have HN := Lib.hid hlen
              clear hL hX hend hes hrow hmm hgood hlen
              by_cases hX0 : X = 0
              · subst hX0
                by_cases hL0 : L = []
                · subst hL0
                  obtain ⟨y, hy⟩ : ∃ y, chkB (mm (esS l)) = y := ⟨_, rfl⟩
                  rw [hy] at CC HG
                  have CL0 : Hid (∀ w', Rd w' g B [] 0 → Calls Tryd.prog 38 #[.pointer (some ⟨g, 0, none⟩)] w' fun e w'' => e = .returned (.int .i64 0) ∧ w' = w'') := Lib.hid CL.out
                  clear CL hbad hy
                  go_wp2_with fail
                  with_reducible refine (CE.out _ rdj.out).mono ?_
                  rintro e w6 ⟨rfl, rfl⟩
                  go_wp2_with fail
                  with_reducible refine (CL0.out _ rdj.out).mono ?_
                  rintro e w6 ⟨rfl, rfl⟩
                  go_wp2_with fail
                  with_reducible refine CC.out.mono ?_
                  rintro e w6 ⟨rfl, b6⟩
                  by_cases hy0 : y = 0
                  · subst hy0
                    have HO1 : Hid (okU b = true) := Lib.hid (by rw [HO.out, HG.out]; simp)
                    have h1 : esU b = esS l := HE.out true HO1.out
                    have h2 : xU b = 0 := by rw [xU, HO1.out]; rfl
                    go_wp2_with fail
                    go_ret2
                    rw [h1, h2]
                    refine ⟨some ⟨gl, 0, none⟩, j, by show Ending.returned (.tuple #[.slice (some ⟨gl, 0, none⟩) j j, .int .i64 0]) = _; rw [HN.out], ?_, next hbj.out b6⟩
                    rw [HN.out, ← HEC.out]
                    exact own_onE ownj.out b6
                  · have HF : Hid (okU b = false) := Lib.hid (by rw [HO.out, HG.out]; simp [hy0])
                    go_wp2_with fail
                    go_ret2
                    exact EOut.bad HF.out (next hbj.out b6)
                · have HF : Hid (okU b = false) := Lib.hid (by rw [HO.out, HG.out]; simp [hL0])
                  obtain ⟨q, hq⟩ : ∃ q, L.length = q := ⟨_, rfl⟩
                  rw [hq] at CL
                  have hLn : (0 : Int) < (q : Int) := by
                    have := List.length_pos_iff.2 hL0; omega
                  clear hL0 hbad hq
                  go_wp2_with fail
                  with_reducible refine (CE.out _ rdj.out).mono ?_
                  rintro e w6 ⟨rfl, rfl⟩
                  go_wp2_with fail
                  with_reducible refine (CL.out _ rdj.out).mono ?_
                  rintro e w6 ⟨rfl, rfl⟩
                  go_wp2_with fail
                  go_ret2
                  exact EOut.bad HF.out hbj.out
              · have HF : Hid (okU b = false) := Lib.hid (by rw [HO.out, HG.out]; simp [hX0])
                clear hbad
                go_wp2_with fail
                with_reducible refine (CE.out _ rdj.out).mono ?_
                rintro e w6 ⟨rfl, rfl⟩
                go_wp2_with fail
                go_ret2
                exact EOut.bad HF.out hbj.out
end Go.Proofs.YtpeepolmbcakbaaDoor
