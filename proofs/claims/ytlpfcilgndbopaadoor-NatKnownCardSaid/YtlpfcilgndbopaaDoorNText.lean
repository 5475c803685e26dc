/- nat.Text. -/
import Derived.Test.YtlpfcilgndbopaaDoorNTextMath
import Derived.Sort.OwnSorted
namespace Go.Proofs.YtlpfcilgndbopaaDoor
open Go.RowKit

def strs (gs : List (List UInt8)) : List Value := gs.map fun l => .string ⟨l.toArray⟩
/-- What stays the call's own where a block that is not its own is written. -/
theorem own_apart {w w' : World} {base n : Nat} {e : TypeId} {v : Value} {xs : List Value} {r : Option Nat} (h : w.ownsRow base e 1 v n xs) (hg : w.grownBy w' r) (hne : ∀ k, v.ownBlock = some k → r ≠ some k) : w'.ownsRow base e 1 v n xs := by
  refine h.kept hg ?_
  rcases hv : v.ownBlock with _ | k
  · exact .inl rfl
  · right
    exact fun e => hne k hv e.symm
theorem own_over2 {w w' : World} {base n : Nat} {e : TypeId} {v : Value} {xs : List Value} (h : w.ownsRow base e 1 v n xs) (hb : Below w.heap.size w w') : w'.ownsRow base e 1 v n xs :=
  own_apart (r := none) h ⟨hb.os, hb.tape, hb.output, hb.size, fun j hj _ => hb.block j hj⟩ (by intro k _ e; cases e)
theorem str_info : (Tryd.prog.info? 9).map (fun i => (i.zero, i.size, i.bytes)) = some (some (.string ⟨#[]⟩), 1, 16) := by kernel_rfl
theorem str_parts : ∃ i0, Tryd.prog.info? 9 = some i0 ∧ i0.zero = some (.string ⟨#[]⟩) ∧ i0.size = 1 ∧ i0.bytes = 16 := by
  have h := str_info
  cases hi : Tryd.prog.info? 9 with
  | none => rw [hi] at h; cases h
  | some i => rw [hi] at h; simp only [Option.map_some, Option.some.injEq, Prod.mk.injEq] at h; exact ⟨i, rfl, h.1, h.2.1, h.2.2⟩
theorem groups_len : ∀ (k v : Nat), v < 2 ^ k → (groupsF v).length ≤ k
  | 0, v, h => by
    obtain rfl : v = 0 := by simpa using h
    rw [groups_zero]; simp
  | k + 1, v, h => by
    by_cases hv : v = 0
    · subst hv; rw [groups_zero]; simp
    · rw [groups_pos hv, List.length_cons]
      have := groups_len k (v / 1000000000) (by rw [Nat.pow_succ] at h; omega)
      omega
theorem own_sliceE {w : World} {base n : Nat} {e : TypeId} {v : Value} {xs : List Value} (h : w.ownsRow base e 1 v n xs) : ∃ A c, v = .slice A n c := by
  obtain ⟨_, h⟩ := h
  rcases h with ⟨hv, hn⟩ | ⟨g, cap, cur, hv, _⟩
  · exact ⟨none, 0, by rw [hv, hn]⟩
  · exact ⟨_, _, hv⟩
/-- Behind the append of one more group: both rows are the call's own, as before. -/
theorem round_own {w w2 W w8 : World} {g n m cap : Nat} {G : Option Addr} {cg : Nat} {o : Obj} {xs ys : List Value} (hO : W.ownsRow w.heap.size 34 1 (.slice (some ⟨g, 0, none⟩) n cap) n xs) (hG : W.ownsRow w2.heap.size 9 1 (.slice G m cg) m ys)
    (hB2 : Below w.heap.size w w2) (hB : Below w.heap.size w W) (hS : w2.heap.size ≤ W.heap.size) (hg : g < w2.heap.size) (hgr : (W.alloc o).grownBy w8 (Value.slice G m cg).ownBlock) (hb : Below w2.heap.size (W.alloc o) w8) :
    w8.ownsRow w.heap.size 34 1 (.slice (some ⟨g, 0, none⟩) n cap) n xs ∧ Below w.heap.size w w8 ∧ w2.heap.size ≤ w8.heap.size := by
  have hA : Below W.heap.size W (W.alloc o) := (Below.refl _ W).alloc (Nat.le_refl _) o
  refine ⟨own_apart (own_over2 hO hA) hgr ?_, (hB.alloc hB.size o).trans (hb.mono hB2.size), Nat.le_trans hS (Nat.le_trans hA.size hb.size)⟩
  intro k hk e
  have h1 := (hG.lt k e).1
  simp [Value.ownBlock] at hk
  omega
/-- slices.Reverse of strings that the call owns. -/
theorem reverse_any {base : Nat} (bg m cg : Nat) (gs : List (List UInt8)) (w : World) (og : w.ownsRow base 9 1 (.slice (some ⟨bg, 0, none⟩) m cg) m (strs gs)) (hm : gs.length = m) (hm2 : m ≤ 2048) :
    Calls Tryd.prog 60 #[.slice (some ⟨bg, 0, none⟩) m cg] w fun e w' => e = .returned (.tuple #[]) ∧ w.grownBy w' (some bg) ∧ ∀ j x, gs.reverse[j]? = some x → w'.cell? ⟨bg, j, none⟩ = some (.string ⟨x.toArray⟩) := by
  have hH : Sort.Holds encStr w bg 0 gs.toArray := fun j hj => by
    have hj' : j < gs.length := by simpa using hj
    refine ⟨?_, ?_⟩
    · rw [Nat.zero_add]
      refine (og.cellAt j (by omega)).trans ?_
      simp [strs, hj', encStr]
    · rw [Nat.zero_add]; exact og.frozenAt j
  subst hm
  refine (Tryd.slices_Reverse_string bg 0 cg gs w hH (by omega)).mono ?_
  rintro e w' ⟨rfl, k, rfl⟩
  refine ⟨rfl, ?_, fun j x hx => ?_⟩
  · have := grownBy_sorted (w := w) (g := bg) (n := k) (os := #[]) gs.reverse.toArray
    rwa [Sort.grow_empty] at this
  · have hj : j < gs.reverse.length := (List.getElem?_eq_some_iff.1 hx).1
    have := Sort.cell?_putRow encStr (Sort.ahead w k) bg 0 gs.toArray gs.reverse.toArray hH (by simp) j (by simpa using hj)
    rw [Nat.zero_add] at this
    rw [this]
    have e : gs.reverse.toArray[j]! = x := by
      rw [getElem!_pos _ j (by simpa using hj)]
      have := (List.getElem?_eq_some_iff.1 hx).2
      simpa using this
    rw [e]
theorem bytes_app (x y : List UInt8) : (⟨x.toArray⟩ : ByteArray) ++ ⟨y.toArray⟩ = ⟨(x ++ y).toArray⟩ := by
  apply ByteArray.ext
  rw [ByteArray.data_append]
  simp
theorem repeat_len : ∀ (l : List UInt8) (k : Nat), (Lib.repeatL l k).length = k * l.length := Lib.repeatL_length
theorem pad_len {n : Nat} (hn : n < 1000000000) : (padL (Lib.decDigits n)).length = 9 := by
  have := digits_len hn
  rw [padL, List.length_append, repeat_len]
  simp; omega
theorem groups_each (v : Nat) : ∀ l ∈ groupsF v, l.length ≤ 9 := by
  induction v using Nat.strongRecOn with
  | _ v ih =>
    by_cases hv : v = 0
    · subst hv; rw [groups_zero]; intro l hl; cases hl
    · rw [groups_pos hv]
      intro l hl
      have hm : v % 1000000000 < 1000000000 := Nat.mod_lt _ (by omega)
      rcases List.mem_cons.1 hl with h | h
      · subst h
        split
        · exact (digits_len hm).1
        · rw [pad_len hm]; exact Nat.le_refl _
      · exact ih (v / 1000000000) (by omega) l h
theorem flat_len : ∀ (gs : List (List UInt8)), (∀ l ∈ gs, l.length ≤ 9) → gs.flatten.length ≤ 9 * gs.length
  | [], _ => by simp
  | g :: gs, h => by
    rw [List.flatten_cons, List.length_append, List.length_cons]
    have := flat_len gs (fun l hl => h l (List.mem_cons_of_mem _ hl))
    have := h g List.mem_cons_self
    omega
theorem set_take {n k : Nat} {a q : List Int} (p : Int) (ha : a.length = n) (hk : k < n) : (ints .u32 (a.take (k + 1) ++ q)).set k (.int .u32 p) = ints .u32 (a.take k ++ p :: q) := by
  have h : (a.take (k + 1) ++ q).set k p = a.take k ++ p :: q := by
    rw [List.take_succ_eq_append_getElem (by omega), List.append_assoc, List.set_append_right _ _ (by rw [List.length_take]; omega), List.length_take, Nat.min_eq_left (by omega), Nat.sub_self]
    rfl
  unfold ints
  rw [← List.map_set, h]
theorem take_at {n k : Nat} {a q : List Int} (ha : a.length = n) (hk : k < n) : (ints .u32 (a.take (k + 1) ++ q))[k]? = some (.int .u32 (a.getD k 0)) := by
  rw [ints_get _ _ _ (by rw [List.length_append, List.length_take]; omega), List.getD_eq_getElem?_getD, List.getElem?_append_left (by rw [List.length_take]; omega), List.getElem?_take_of_lt (by omega), List.getD_eq_getElem?_getD]

set_option maxRecDepth 100000 in
set_option maxHeartbeats 2000000 in
theorem Text_some (A : Option Addr) (n c : Nat) (a : List Int) (w : World) (hr : Row w w.heap.size A n (ints .u32 a)) (ha : Lim a) (ht : Tab w) (hx : chk a = 0) (hp : 0 < n) :
    Calls Tryd.prog 34 #[.slice A n c] w fun e w' => e = .returned (.tuple #[.string ⟨(textOf (val a)).toArray⟩, .int .i64 0]) ∧ Below w.heap.size w w' := by
  have hl := hr.1
  rw [ints_len] at hl
  have HC := Check_any A n c _ a w hr
  rw [hx] at HC
  replace HC := Lib.hid HC
  have hlen := chk_len hx
  have HR := Lib.hid hr
  have HA := Lib.hid ha
  have HT := Lib.hid ht
  have hpz : ¬ ((n : Int) = 0) := by omega
  have hpb : ((n : Int) == 0) = false := beq_eq_false_iff_ne.2 hpz
  have hn64 : n ≤ 64 := by omega
  have HX := Lib.hid (limbs_of hx ha)
  clear hr ha ht hx hlen
  go_enter Tryd.func34, Tryd.ntmps34
  go_wp2_with fail
  with_reducible refine HC.out.mono ?_
  rintro e w' ⟨rfl, rfl⟩
  go_wp2_with fail
  with_reducible refine (Clone32_any A n c _ a w HR.out (Nat.le_refl _) (by omega)).mono ?_
  rintro e w2 ⟨A2, c2, rfl, o2, b2⟩
  go_wp2_with fail
  rw [hl] at o2
  have hc2 := own_cap32 o2
  obtain ⟨g, rfl, hg0, hg1⟩ : ∃ g, A2 = some ⟨g, 0, none⟩ ∧ w.heap.size ≤ g ∧ g < w2.heap.size := by
    rcases own_forms o2 with ⟨_, h0, _⟩ | ⟨g, h1, h2, h3⟩
    · omega
    · exact ⟨g, h1, h2, h3⟩
  have ho2 : w2.ownsRow w.heap.size 34 1 (.slice (some ⟨g, 0, none⟩) n c2) n (ints .u32 (limbs (val a))) := by rw [HX.out]; exact o2
  have hn2 : Hid ((limbs (val a)).length = n) := Lib.hid (by rw [HX.out]; exact hl)
  have HT2 := Lib.hid (HT.out.below b2)
  obtain ⟨V, hV⟩ : ∃ V, val a = V := ⟨_, rfl⟩
  rw [hV] at ho2 hn2
  have HVp : Hid (V ≠ 0) := Lib.hid (by rintro rfl; have := hn2.out; rw [limbs_zero] at this; simp at this; omega)
  have HB2 := Lib.hid b2
  have HK : Hid ((groupsF V).length ≤ 2048) := Lib.hid (by
    have h1 := val_lt (lim_limbs V)
    rw [val_limbs, hn2.out, pow32] at h1
    have := groups_len _ _ h1
    omega)
  obtain ⟨i0, hi, sz0, sz1, sz2⟩ := str_parts
  clear o2 b2
  go_loopg [5, 6] V (fun v s5 s6 wx => ∃ (n : Nat) (G : Option Addr) (m cg : Nat) (gs : List (List UInt8)), s5 = .slice (some ⟨g, 0, none⟩) n c2 ∧ s6 = .slice G m cg ∧ n ≤ 64 ∧ n ≤ c2 ∧ Hid ((limbs v).length = n) ∧ Hid (gs.length = m ∧ gs ++ groupsF v = groupsF V) ∧
    wx.ownsRow w.heap.size 34 1 (.slice (some ⟨g, 0, none⟩) n c2) n (ints .u32 (limbs v)) ∧ wx.ownsRow w2.heap.size 9 1 (.slice G m cg) m (strs gs) ∧ Below w.heap.size w wx ∧ w2.heap.size ≤ wx.heap.size)
  case atStart => exact ⟨n, none, 0, 0, [], rfl, rfl, hn64, hc2.1, hn2, Lib.hid ⟨rfl, rfl⟩, ho2, World.ownsRow_nil _ _ _ _, HB2.out, Nat.le_refl _⟩
  case round =>
    obtain ⟨n, G, m, cg, gs, rfl, rfl, hn, hnc, HN, HG, ol, og, hb, hsz⟩ := hrel
    rename World => ws
    by_cases h0 : 0 < n
    · have h0' : (0 : Int) < (n : Int) := by omega
      have HV : Hid (Lim (limbs gk)) := Lib.hid (lim_limbs gk)
      go_wp2_with fail
      go_loopw [7, 8] (fun s7 s8 wr => ∃ (k : Nat) (z r : Int) (q : List Int), k ≤ n ∧ z = (k : Int) - 1 ∧ s8 = .int .i64 z ∧ s7 = .int .u32 r ∧ 0 ≤ r ∧ r < 1000000000 ∧ Hid (q.length = n - k ∧ Lim q ∧ val ((limbs gk).drop k) = val q * 1000000000 + r.toNat) ∧
        wr.ownsRow w.heap.size 34 1 (.slice (some ⟨g, 0, none⟩) n c2) n (ints .u32 ((limbs gk).take k ++ q)) ∧ wr.ownsRow w2.heap.size 9 1 (.slice G m cg) m (strs gs) ∧ Below w.heap.size w wr ∧ w2.heap.size ≤ wr.heap.size) (fun _ i _ => ((intOf i) + 1).toNat)
      case atStart =>
        refine ⟨n, (n : Int) - 1, 0, [], Nat.le_refl _, rfl, rfl, rfl, Int.le_refl _, by decide, Lib.hid ⟨by simp, Lim.nil, ?_⟩, ?_, og, hb, hsz⟩
        · rw [List.drop_eq_nil_of_le (by have := HN.out; omega)]; rfl
        · rw [List.take_of_length_le (by have := HN.out; omega), List.append_nil]; exact ol
      case round =>
        obtain ⟨k, z, r, q, hk, hz, rfl, rfl, hr0, hr1, HQ, ol, og, hb, hsz⟩ := hrel
        rename World => wr
        rcases k with _ | j
        · have hz1 : z < 0 := by omega
          obtain ⟨rn, rfl⟩ := Int.eq_ofNat_of_zero_le hr0
          have hq := HQ.out
          rw [List.drop_zero, val_limbs, Int.toNat_natCast] at hq
          rw [List.take_zero, List.nil_append] at ol
          have hdiv : val q = gk / 1000000000 ∧ rn = gk % 1000000000 := by omega
          have hgk : Hid (gk ≠ 0) := Lib.hid (by rintro rfl; have := HN.out; rw [limbs_zero] at this; simp at this; omega)
          have hT := trim_own g n c2 w.heap.size q wr ol hq.2.1 hnc hc2.2
          rw [hdiv.1] at hT
          have hle : (limbs (gk / 1000000000)).length ≤ n := limbs_len (by have := val_lt hq.2.1; rw [hdiv.1, hq.1, Nat.sub_zero] at this; exact this)
          obtain ⟨n', hn'⟩ : ∃ n', (limbs (gk / 1000000000)).length = n' := ⟨_, rfl⟩
          rw [hn'] at hT hle
          have HTr := Lib.hid hT
          have HNew := Lib.hid (And.intro hn' hdiv.2)
          have hrn : rn < 1000000000 := by omega
          have HOg := Lib.hid og
          have HB := Lib.hid hb
          clear hq hdiv hT hn' ol og hb HQ
          obtain ⟨ds, hds⟩ : ∃ ds, Lib.decDigits rn = ds := ⟨_, rfl⟩
          have HDs := Lib.hid hds
          have HLd : Hid (ds.length ≤ 9 ∧ 1 ≤ ds.length) := Lib.hid (by rw [← hds]; exact digits_len hrn)
          clear hds
          have HRn := Lib.hid hrn
          clear hrn
          have hrn0 : (0 : Int) ≤ (rn : Int) := by omega
          have hrn9 : (rn : Int) ≤ 9223372036854775807 := by have := HRn.out; omega
          go_wp2_with fail
          with_reducible refine HTr.out.mono ?_
          rintro e w5 ⟨rfl, rfl, ol5⟩
          have HO5 := Lib.hid ol5
          have hI := itoa_any rn HRn.out wr (HT.out.below HB.out)
          obtain ⟨db, hdb⟩ : ∃ db, (⟨ds.toArray⟩ : ByteArray) = db := ⟨_, rfl⟩
          rw [HDs.out, hdb] at hI
          have HDb := Lib.hid hdb
          clear hdb
          have HI := Lib.hid hI
          clear ol5 hI
          go_wp2_with fail
          with_reducible refine HI.out.mono ?_
          rintro e w6 ⟨rfl, b6⟩
          have HB6 := Lib.hid (next HB.out b6)
          have ol6 := own_over2 HO5.out b6
          have og6 := own_over2 HOg.out b6
          have hs6 := Nat.le_trans hsz b6.size
          have HO6 := Lib.hid ol6
          have HOg6 := Lib.hid og6
          have HS6 := Lib.hid hs6
          clear ol6 og6 hs6 b6 hsz
          obtain ⟨dl, hdl⟩ : ∃ dl, ds.length = dl := ⟨_, rfl⟩
          have hdz : db.size = dl := by rw [← hdl, ← HDb.out]; rfl
          have hm : m ≤ 2048 := by
            have h1 := congrArg List.length HG.out.2
            rw [List.length_append, HG.out.1] at h1
            have := HK.out
            omega
          by_cases hn0 : 0 < n'
          · have hn0' : (0 : Int) < (n' : Int) := by omega
            have hdl9 : dl ≤ 9 ∧ 1 ≤ dl := by have := HLd.out; omega
            have hw : wrap64 (9 - (dl : Int)) = ((9 - dl : Nat) : Int) := by unfold wrap64; omega
            have hzz := zeros_any (9 - dl) (by omega) w6
            obtain ⟨zb, hzb⟩ : ∃ zb, (⟨(Lib.repeatL [48] (9 - dl)).toArray⟩ : ByteArray) = zb := ⟨_, rfl⟩
            rw [hzb] at hzz
            have HZ := Lib.hid hzz
            have HW := Lib.hid hw
            have HP : Hid (groupsF gk = padL ds :: groupsF (gk / 1000000000)) := Lib.hid (by
              rw [groups_pos hgk.out, if_neg, ← HNew.out.2, HDs.out]
              intro h
              have := HNew.out.1
              rw [h, limbs_zero] at this
              simp at this
              omega)
            have HPad : Hid (zb ++ db = ⟨(padL ds).toArray⟩) := Lib.hid (by rw [← hzb, ← HDb.out, bytes_app, padL, hdl])
            have hzs : zb.size = 9 - dl := by rw [← hzb]; show (Lib.repeatL [48] (9 - dl)).toArray.size = _; rw [List.size_toArray, repeat_len]; simp
            obtain ⟨pb, hpb2⟩ : ∃ pb, (⟨(padL ds).toArray⟩ : ByteArray) = pb := ⟨_, rfl⟩
            have hadd : ∀ w : World, (Op.stringOp .add zb db).run Tryd.prog w = .ok (.string pb) w := fun w => by
              rw [run_string_add_sum w zb db (by omega), HPad.out, hpb2]
            have HPb := Lib.hid hpb2
            clear hw hdl9 hzz hzb hzs hpb2
            go_wp2_with fail
            rw [HW.out]
            with_reducible refine HZ.out.mono ?_
            rintro e w7 ⟨rfl, b7⟩
            have HB7 := Lib.hid (next HB6.out b7)
            have HO7 := Lib.hid (own_over2 HO6.out b7)
            have HOg7 := Lib.hid (own_over2 HOg6.out b7)
            have HS7 := Lib.hid (Nat.le_trans HS6.out b7.size)
            clear b7
            go_wp2_with (at_builtin; refine wpList_app _ rfl (.tmp 56) (.tmp 58) 50 rfl w2.heap.size 9 i0 (.string ⟨#[]⟩) 16 Tryd.underlying50 hi sz0 sz1 sz2 rfl _ _ _ rfl (HOg7.out.alloc _) _ _ 1 1 _ rfl (Row.one _ _ _) (by simp [Value.oneCell']) (by unfold maxLen; omega) (by omega) (by simp; have := HS7.out; omega) ?_)
            intro v' w8 og8 hgr8 hb8
            rw [← HPb.out] at og8
            obtain ⟨G', cg', rfl⟩ := own_sliceE og8
            have HF := Lib.hid (round_own HO7.out HOg7.out HB2.out HB7.out HS7.out hg1 hgr8 hb8)
            have HOg8 := Lib.hid og8
            clear og8 hgr8 hb8
            go_wp2_with fail
            go_roundg (gk / 1000000000)
            case rel => exact ⟨n', G', m + 1, cg', gs ++ [padL ds], rfl, rfl, Nat.le_trans hle hn, Nat.le_trans hle hnc, Lib.hid HNew.out.1, Lib.hid ⟨by rw [List.length_append, HG.out.1]; rfl, by rw [List.append_assoc, List.singleton_append, ← HP.out, HG.out.2]⟩, HF.out.1, by rw [strs, List.map_append]; exact HOg8.out, HF.out.2.1, HF.out.2.2⟩
            case measure => have := hgk.out; omega
          · have hn0' : ¬ (0 : Int) < (n' : Int) := by omega
            go_wp2_with (at_builtin; refine wpList_app _ rfl (.tmp 56) (.tmp 58) 50 rfl w2.heap.size 9 i0 (.string ⟨#[]⟩) 16 Tryd.underlying50 hi sz0 sz1 sz2 rfl _ _ _ rfl (HOg6.out.alloc _) _ _ 1 1 _ rfl (Row.one _ _ _) (by simp [Value.oneCell']) (by unfold maxLen; omega) (by omega) (by simp; have := HS6.out; omega) ?_)
            intro v' w8 og8 hgr8 hb8
            rw [← HDb.out] at og8
            obtain ⟨G', cg', rfl⟩ := own_sliceE og8
            have HP : Hid (groupsF gk = ds :: groupsF (gk / 1000000000)) := Lib.hid (by
              rw [groups_pos hgk.out, if_pos, ← HNew.out.2, HDs.out]
              have h1 := HNew.out.1
              have h2 := val_lt (lim_limbs (gk / 1000000000))
              rw [val_limbs, h1, show n' = 0 by omega] at h2
              simpa using h2)
            have HF := Lib.hid (round_own HO6.out HOg6.out HB2.out HB6.out HS6.out hg1 hgr8 hb8)
            have HOg8 := Lib.hid og8
            clear og8 hgr8 hb8
            go_wp2_with fail
            go_roundg (gk / 1000000000)
            case rel => exact ⟨n', G', m + 1, cg', gs ++ [ds], rfl, rfl, Nat.le_trans hle hn, Nat.le_trans hle hnc, Lib.hid HNew.out.1, Lib.hid ⟨by rw [List.length_append, HG.out.1]; rfl, by rw [List.append_assoc, List.singleton_append, ← HP.out, HG.out.2]⟩, HF.out.1, by rw [strs, List.map_append]; exact HOg8.out, HF.out.2.1, HF.out.2.2⟩
            case measure => have := hgk.out; omega
        · obtain rfl : z = (j : Int) := by omega
          have hj : j < n := hk
          have hcell0 := (ol.cellAt j (by omega)).trans (take_at HN.out hj)
          have hfz := ol.frozenAt j
          obtain ⟨x, hx⟩ : ∃ x, (limbs gk).getD j 0 = x := ⟨_, rfl⟩
          rw [hx] at hcell0
          have hcell : wr.cell? ⟨g, j, none⟩ = some (.int .u32 x) := hcell0
          have hxl := HV.out.at j
          rw [hx] at hxl
          obtain ⟨Q, hQ⟩ : ∃ Q, (r * 4294967296 + x) / 1000000000 = Q := ⟨_, rfl⟩
          obtain ⟨R, hR⟩ : ∃ R, (r * 4294967296 + x) % 1000000000 = R := ⟨_, rfl⟩
          have HS := Lib.hid (group_step HN.out hj HV.out ⟨hr0, hr1⟩ hx hQ hR HQ.out.2.2)
          have HD := Lib.hid (Div32_any r x Q R wr ⟨hr0, hr1⟩ hxl hQ hR)
          have hj0 : (0 : Int) ≤ (j : Int) := by omega
          have hj1 : (j : Int) < (n : Int) := by omega
          obtain ⟨hx0, hx1⟩ := hxl
          have HO := Lib.hid ol
          have HOg := Lib.hid og
          have HB := Lib.hid hb
          clear hcell0 hQ hR hx ol og hb hz hk
          go_wp2_with fail
          with_reducible refine HD.out.mono ?_
          rintro e w' ⟨rfl, rfl⟩
          go_wp2_with fail
          have hst := HO.out.stored j (.int .u32 Q)
          rw [set_take Q HN.out hj] at hst
          have hQl := HQ.out
          refine ⟨⟨j, (j : Int) - 1, R, Q :: q, by omega, rfl, rfl, rfl, HS.out.2.2.2.1, HS.out.2.2.2.2, Lib.hid ⟨by simp; omega, (Lim.one HS.out.2.1 HS.out.2.2.1).app hQl.2.1, HS.out.1⟩, hst.1, ?_, ?_, ?_⟩, ?_⟩
          · refine own_apart (r := some g) HOg.out ⟨hst.2.os, hst.2.tape, hst.2.output, hst.2.size, hst.2.block⟩ ?_
            intro k hk e
            injection e with e
            have := (HOg.out.lt k hk).1
            omega
          · exact (HB.out.grown hst.2 HB.out.size (fun k hk => by injection hk with hk; omega)).trans ⟨rfl, rfl, rfl, Nat.le_refl _, fun _ _ => rfl⟩
          · exact Nat.le_trans hsz hst.2.size
          · simp [intOf]
    · have hgk : gk = 0 := by
        have h1 := HN.out
        have h2 := val_lt (lim_limbs gk)
        rw [val_limbs, h1, show n = 0 by omega] at h2
        simpa using h2
      subst hgk
      have hgs : gs = groupsF V := by have := HG.out.2; rwa [groups_zero, List.append_nil] at this
      have hm := HG.out.1
      have hmp : 0 < m := by
        rw [← hm, hgs, groups_pos HVp.out]
        simp
      have hm2 : m ≤ 2048 := by rw [← hm, hgs]; exact HK.out
      obtain ⟨bg, rfl, hbg0, hbg1, hcg⟩ : ∃ bg, G = some ⟨bg, 0, none⟩ ∧ w2.heap.size ≤ bg ∧ bg < ws.heap.size ∧ m ≤ cg := by
        rcases og.2 with ⟨hv, hn0⟩ | ⟨b', cap', cur, hv, h1, h2, h3, _⟩
        · omega
        · injection hv with e1 e2 e3
          refine ⟨b', e1, h1, ?_, by omega⟩
          rcases Nat.lt_or_ge b' ws.heap.size with h | h
          · exact h
          · rw [Array.getElem?_eq_none h] at h2; cases h2
      have HRev := Lib.hid (reverse_any bg m cg gs ws og hm hm2)
      have HB := Lib.hid hb
      have HFl : Hid ((Lib.join ((gs.reverse.map fun l => (⟨l.toArray⟩ : ByteArray)).map (·.data.toList)) []) = textOf V) := Lib.hid (by
        have e : ((gs.reverse.map fun l => (⟨l.toArray⟩ : ByteArray)).map (·.data.toList)) = gs.reverse := by
          rw [List.map_map]
          exact List.map_id'' (fun l => by simp) _
        rw [e, join_flat, textOf, if_neg HVp.out, hgs])
      have HLen : Hid ((textOf V).length ≤ 140737488355328) := Lib.hid (by
        rw [textOf, if_neg HVp.out]
        have h1 := flat_len (groupsF V).reverse (fun l hl => groups_each V l (List.mem_reverse.1 hl))
        rw [List.length_reverse] at h1
        have := HK.out
        omega)
      clear hb og ol
      go_wp2_with fail
      with_reducible refine HRev.out.mono ?_
      rintro e w5 ⟨rfl, hgr, hcells⟩
      have HB5 := Lib.hid (HB.out.grown hgr HB.out.size (fun k hk => by injection hk with hk; have := HB2.out.size; omega))
      have hJ := Tryd.strings_Join bg 0 cg (gs.reverse.map fun l => (⟨l.toArray⟩ : ByteArray)) ⟨#[]⟩ w5 (fun j x hx => by
          rw [List.getElem?_map] at hx
          rw [Nat.zero_add]
          rcases hj : gs.reverse[j]? with _ | y
          · rw [hj] at hx; cases hx
          · rw [hj] at hx
            injection hx with hx
            subst hx
            exact hcells j y hj) (Nat.lt_of_lt_of_le hbg1 hgr.size) (by simp; omega) (by simp; omega) (by show (Lib.join _ []).length ≤ _; rw [HFl.out]; exact HLen.out)
      replace hJ : Calls Tryd.prog 61 #[.slice (some ⟨bg, 0, none⟩) m cg, .string ⟨#[]⟩] w5 fun e w' => e = .returned (.string ⟨(textOf V).toArray⟩) ∧ Below w5.heap.size w5 w' := by
        rw [List.length_map, List.length_reverse, hm] at hJ
        rw [← HFl.out]
        exact hJ
      have HJ := Lib.hid hJ
      clear hJ hcells hgr
      go_wp2_with fail
      with_reducible refine HJ.out.mono ?_
      rintro e w6 ⟨rfl, b6⟩
      have HB6 := Lib.hid (next HB5.out b6)
      clear b6
      go_wp2
      go_ret2
      exact ⟨by rw [hV]; rfl, HB6.out⟩

def textL (a : List Int) : List UInt8 := if chk a = 0 then textOf (val a) else []
theorem Text_any (A : Option Addr) (n c : Nat) (a : List Int) (w : World) (hr : Row w w.heap.size A n (ints .u32 a)) (ha : Lim a) (ht : Tab w) :
    Calls Tryd.prog 34 #[.slice A n c] w fun e w' => e = .returned (.tuple #[.string ⟨(textL a).toArray⟩, .int .i64 (chk a)]) ∧ Below w.heap.size w w' := by
  have hl := hr.1
  rw [ints_len] at hl
  by_cases hx : chk a = 0
  · by_cases hp : 0 < n
    · rw [textL, if_pos hx, hx]
      exact Text_some A n c a w hr ha ht hx hp
    · have hT : textL a = [48] := by
        rw [textL, if_pos hx, List.eq_nil_of_length_eq_zero (show a.length = 0 by omega)]
        rfl
      have HC := Check_any A n c _ a w hr
      rw [hx] at HC
      replace HC := Lib.hid HC
      rw [hT, hx]
      have hn0 : ((n : Int) == 0) = true := by simp; omega
      clear hr ha ht hT
      go_enter Tryd.func34, Tryd.ntmps34
      go_wp2_with fail
      with_reducible refine HC.out.mono ?_
      rintro e w' ⟨rfl, rfl⟩
      go_wp2
      go_ret2
      exact ⟨rfl, Below.refl _ _⟩
  · have hT : textL a = [] := by rw [textL, if_neg hx]
    have HC := Lib.hid (Check_any A n c _ a w hr)
    rw [hT]
    have hxx : ¬ chk a = 0 := hx
    obtain ⟨x, hxe⟩ : ∃ x, chk a = x := ⟨_, rfl⟩
    rw [hxe] at HC hxx ⊢
    have hb : (x != 0) = true := by simp [bne, hxx]
    clear hr ha ht hT hxe hx
    go_enter Tryd.func34, Tryd.ntmps34
    go_wp2_with fail
    with_reducible refine HC.out.mono ?_
    rintro e w' ⟨rfl, rfl⟩
    go_wp2
    go_ret2
    exact ⟨rfl, Below.refl _ _⟩
end Go.Proofs.YtlpfcilgndbopaaDoor
