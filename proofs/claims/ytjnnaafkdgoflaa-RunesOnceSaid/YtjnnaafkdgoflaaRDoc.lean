/- The document's Of, Not. -/
import Derived.Test.YtjnnaafkdgoflaaRNext
namespace Go.Proofs.Ytjnnaafkdgoflaa
open Go.RowKit

theorem append_nilR {P : Program} (w : World) (base : Nat) (t ty e : TypeId) (i : TypeInfo) (ht : P.underlying t = some (.slice e)) (hi : P.info? e = some i)
    (v : Value) (n : Nat) (xs : List Value) (hown : w.ownsRow base e 2 v n xs) (c : Nat) : (Builtin.append_ #[t, t] ty #[v, .slice none 0 c]).run P w = .ok v w := by
  obtain ⟨_, h⟩ := hown
  rcases h with ⟨hv, hn⟩ | ⟨g, cap, cur, hv, _, _, hle, _⟩
  · subst hv; subst hn
    simp [Builtin.append_, run_underlying ht, sizeOf, typeInfo, hi, Builtin.lenOf, Builtin.firstCells]
  · subst hv
    simp [Builtin.append_, run_underlying ht, sizeOf, typeInfo, hi, Builtin.lenOf, Builtin.firstCells, hle, storeCells]
/-- 'out = append(out, xs...)', 'out = append(out, x)', ranges. -/
theorem wpList_appR {P : Program} (w : World) {ops : Array Oper} {rest : List Oper} {o : Oper} {a : Act} {Q : Exit → Act → World → Prop} (hgd : o.guard = none) (s x : Operand) (t : TypeId)
    (ho : o.op = .call { callee := .builtin .append, args := #[s, x], argTypes := #[t, t] })
    (base : Nat) (e : TypeId) (i : TypeInfo) (ht : P.underlying t = some (.slice e)) (hi : P.info? e = some i) (hz : i.zero = some (.agg #[.int .i64 0, .int .i64 0]))
    (hsize : i.size = 2) (hby : i.bytes = 16)
    (v : Value) (n : Nat) (xs : List Value) (hs : a.eval s = v) (hown : w.ownsRow base e 2 v n xs)
    (B : Nat) (A : Option Addr) (m c : Nat) (l : List Rg) (hx : a.eval x = .slice A m c) (hr : RowR w B A m l)
    (h63 : n + m ≤ 1000000000) (hbase : base ≤ w.heap.size)
    (h : ∀ v' w', w'.ownsRow base e 2 v' (n + m) (xs ++ cR l) → w.grownBy w' v.ownBlock → Below base w w' → wpList P ops Q rest (a.put o.dst v') w') : wpList P ops Q (o :: rest) a w := by
  have hlt : ∀ k, v.ownBlock = some k → base ≤ k := fun k hk => (hown.lt k hk).1
  rcases A with _ | ⟨b, off, sub⟩
  · have hm : m = 0 := by
      rcases Nat.eq_zero_or_pos m with h0 | h0
      · exact h0
      · obtain ⟨_, _, he, _⟩ := hr.2 h0
        cases he
    subst hm
    have hl : l = [] := List.eq_nil_of_length_eq_zero hr.1
    subst hl
    refine wpList_plain hgd fun K hK => ?_
    have hrun := append_nilR (P := P) w base t o.type e i ht hi v n xs hown c
    unfold Oper.wp
    simp only [execOp, ho, resolve, invoke, builtin, Sem.run_bind, Sem.run_pure, Result.andThen_ok, List.map_toArray, List.map_cons, List.map_nil, hs, hx, hrun]
    exact hK _ _ (h v w (by simpa [cR] using hown) (World.grownBy.refl w _) (Below.refl _ _))
  · refine wpList_append_own_wide w hgd s x t ho base e i (.agg #[.int .i64 0, .int .i64 0]) 2 16 ht hi hz hsize hby rfl (by omega) v n xs hs hown ⟨b, off, sub⟩ m c (cR l) hx (by rw [cR_len, hr.1]) ?_ (cR_one l) (by unfold maxLen; omega) (by omega) hbase ?_
    · intro j u hu
      have hj : j < m * 2 := by have := (List.getElem?_eq_some_iff.1 hu).1; rw [cR_len, hr.1] at this; exact this
      obtain ⟨b', off', he, _, hc⟩ := hr.2 (by omega)
      injection he with he
      have hk := hc (j / 2) (by omega)
      have hg := cR_get l (j / 2) (by rw [hr.1]; omega)
      have hadd : ∀ q, (⟨b', off', none⟩ : Addr).add q = ⟨b', off' + q, none⟩ := fun q => by
        unfold Addr.add
        split <;> simp_all
      rw [he, hadd]
      by_cases h2 : j % 2 = 0
      · rw [show j = j / 2 * 2 by omega] at hu ⊢
        rw [hg.1] at hu
        rw [← hu]; exact hk.1
      · rw [show j = j / 2 * 2 + 1 by omega] at hu ⊢
        rw [hg.2] at hu
        rw [← hu]; exact hk.2
    · intro v' w' h2 h3 _
      exact h v' w' h2 h3 ((Below.refl base w).grown h3 hbase hlt)
theorem RowR.one (w : World) (e : TypeId) (x y : Int) : RowR (w.alloc (.cells #[.int .i64 x, .int .i64 y] e)) (w.heap.size + 1) (some ⟨w.heap.size, 0, none⟩) 1 [(x, y)] := by
  refine ⟨rfl, fun _ => ⟨w.heap.size, 0, rfl, by omega, fun j hj => ?_⟩⟩
  obtain rfl : j = 0 := by omega
  constructor
  · rw [World.cell?_alloc_at _ _ _ _ (by simp)]; rfl
  · rw [World.cell?_alloc_at _ _ _ _ (by simp)]; rfl
theorem own_onR {w w' : World} {base n : Nat} {e : TypeId} {v : Value} {xs : List Value} (h : w.ownsRow base e 2 v n xs) (hb : Below w.heap.size w w') : w'.ownsRow base e 2 v n xs :=
  h.kept (row := none) ⟨hb.os, hb.tape, hb.output, hb.size, fun j hj _ => hb.block j hj⟩ (by rcases h : v.ownBlock with _ | g <;> simp)
theorem ownR_slice {w : World} {base n : Nat} {e : TypeId} {v : Value} {xs : List Value} (h : w.ownsRow base e 2 v n xs) : ∃ A c, v = .slice A n c := by
  rcases h.2 with ⟨hv, hn⟩ | ⟨g, cap, cur, hv, _⟩
  · subst hv; subst hn; exact ⟨none, 0, rfl⟩
  · exact ⟨_, _, hv⟩
theorem rg_info : (Try.prog.info? 45).map (fun i => (i.zero, i.size, i.bytes)) = some (some (.agg #[.int .i64 0, .int .i64 0]), 2, 16) := by kernel_rfl
/-- A new list of ranges that may be a set, of just these runes. -/
def OutR (e0 : TypeId) (w : World) (S : Int → Prop) (e : Ending) (w' : World) : Prop :=
  ∃ A c l, e = .returned (.slice A l.length c) ∧ Of S l ∧ w'.ownsRow w.heap.size e0 2 (.slice A l.length c) l.length (cR l) ∧ Below w.heap.size w w'
/-- So many ranges at most: each has its own rune. -/
theorem Vl.len : ∀ {l : List Rg} {lo : Int}, Vl l → (∀ x ∈ l, lo ≤ x.1) → lo ≤ 1114112 → (l.length : Int) ≤ 1114112 - lo
  | [], lo, _, _, h => by simp; omega
  | x :: t, lo, h, h1, h2 => by
    have hx := h.head
    have := h1 x List.mem_cons_self
    have := Vl.len (lo := x.2 + 1) h.tail (fun y hy => by have := (List.pairwise_cons.1 h.2).1 y hy; omega) (by omega)
    simp only [List.length_cons]
    omega
theorem Vl.short {l : List Rg} (h : Vl l) : l.length ≤ 1114112 := by
  have := Vl.len (lo := 0) h (fun x hx => (h.1 x hx).1) (by omega)
  omega
theorem cR_snoc (l : List Rg) (x y : Int) : cR (l ++ [(x, y)]) = cR l ++ [.int .i64 x, .int .i64 y] := cR_app l [(x, y)]
set_option maxRecDepth 100000 in
set_option maxHeartbeats 4000000 in
theorem rOf_any (A : Option Addr) (n c : Nat) (l : List Rg) (w : World) (hr : RowR w w.heap.size A n l) (hn : n ≤ 1000000000) :
    Calls Try.prog 13 #[.slice A n c] w (OutR 45 w (has l)) := by
  obtain ⟨i0, hi, hz0, hz1, hz2⟩ := info_parts rg_info
  have HR := Lib.hid hr
  have HN := Lib.hid (fun w' (hb : Below w.heap.size w w') r b (h0 : 0 ≤ r) (h1 : r ≤ 1114112) => rNext A n c l w' (hr.on hb) hn r b h0 h1)
  have HC0 := Lib.hid (HN.out w (Below.refl _ _) 0 true (by omega) (by omega))
  clear hr
  go_enter Try.func13, Try.ntmps13
  go_wp2_with fail
  with_reducible refine HC0.out.mono ?_
  rintro e w1 ⟨m0, rfl, hm0, rfl⟩
  have HS := Lib.hid (Gn.start hm0)
  clear hm0 HC0
  go_wp2_with fail
  go_loopw [3, 4] (fun o p wr => ∃ (out : List Rg) (r : Int), p = .int .i64 r ∧ Hid (Gn l true out r) ∧ wr.ownsRow w.heap.size 45 2 o out.length (cR out) ∧ Below w.heap.size w wr) (fun _ p _ => (1114112 - intOf p).toNat)
  case atStart => exact ⟨[], m0, rfl, HS, World.ownsRow_nil _ _ _ _, Below.refl _ _⟩
  case round =>
    obtain ⟨out, r, rfl, HG, hown, hb⟩ := hrel
    have hg := HG.out
    by_cases k1 : r ≤ 1114111
    · have f1 : decide (r ≤ 1114111) = true := decide_eq_true k1
      have r0 := hg.2.2.1
      have hsh := hg.1.short
      have HC1 := Lib.hid (HN.out wr hb r (!true) r0 (by omega))
      have HO := Lib.hid hown
      have HB := Lib.hid hb
      have HK := Lib.hid k1
      simp only [Bool.not_true, Bool.not_false] at HC1
      clear hown hb hg
      go_wp2_with fail
      with_reducible refine HC1.out.mono ?_
      rintro e w1 ⟨t, rfl, ht, rfl⟩
      have ht1 := ht.1
      have ht2 := ht.2.1
      have w1 : IntKind.i64.wrap (t - 1) = t - 1 := wrap_ok (by omega) (by omega)
      have hown := HO.out
      have hb := HB.out
      have HT := Lib.hid ht
      obtain ⟨t1, ht1'⟩ : ∃ y, t - 1 = y := ⟨_, rfl⟩
      rw [ht1'] at w1
      have HT1 := Lib.hid ht1'
      clear HC1 HO HB ht ht1'
      go_wp2_with (at_builtin; refine wpList_appR _ rfl (.tmp 13) (.tmp 18) 22 rfl w.heap.size 45 i0 Try.underlying22 hi hz0 hz1 hz2 _ _ _ rfl (hown.alloc _) _ _ 1 1 _ rfl (RowR.one _ _ _ _) (by omega) (by simp; have := hb.size; omega) ?_)
      intro v' w' hown' _ hb'
      have hb2 : Below w.heap.size w w' := (hb.alloc hb.size _).trans hb'
      have HC2 := Lib.hid (HN.out w' hb2 t true (by omega) ht2)
      have HO2 : Hid (w'.ownsRow w.heap.size 45 2 v' (out ++ [(r, t1)]).length (cR (out ++ [(r, t1)]))) := Lib.hid (by
        rw [HT1.out] at hown'
        rw [cR_snoc, List.length_append]; exact hown')
      have HB2 := Lib.hid hb2
      clear hown hown' hb hb' hb2 hsh ht1 ht2
      go_wp2_with fail
      with_reducible refine HC2.out.mono ?_
      rintro e w3 ⟨m, rfl, hm, rfl⟩
      have HG2 : Hid (Gn l true (out ++ [(r, t1)]) m) := Lib.hid (by rw [← HT1.out]; exact HG.out.step HK.out HT.out hm)
      have hrm : r < m := by
        have h1 := HT.out.1
        have h2 := hm.1
        have h3 := HG2.out.1
        have h4 : (r, t1) ∈ out ++ [(r, t1)] := by simp
        have h5 := (h3.1 _ h4).2.1
        have h6 := HT1.out
        dsimp only at h5
        omega
      have hm9 := hm.2.1
      clear hm HC2
      go_wp2_with fail
      exact ⟨⟨out ++ [(r, t1)], m, rfl, HG2, HO2.out, HB2.out⟩, by simp [intOf]; omega⟩
    · have f1 : decide (r ≤ 1114111) = false := decide_eq_false k1
      have HF : Hid (Of (has l) out) := Lib.hid ((hg.all (by omega)).same (fun n => ⟨fun h => h.2.2 rfl, fun h => ⟨h.1, fun _ => rfl, fun _ => h⟩⟩))
      obtain ⟨A', c', rfl⟩ := ownR_slice hown
      clear k1 hg
      go_wp2_with fail
      go_ret
      exact ⟨A', c', out, rfl, HF.out, hown, hb⟩
set_option maxRecDepth 100000 in
set_option maxHeartbeats 4000000 in
theorem rNot_any (A : Option Addr) (n c : Nat) (l : List Rg) (w : World) (hr : RowR w w.heap.size A n l) (hn : n ≤ 1000000000) :
    Calls Try.prog 15 #[.slice A n c] w (OutR 45 w (fun n => isRn n ∧ ¬ has l n)) := by
  obtain ⟨i0, hi, hz0, hz1, hz2⟩ := info_parts rg_info
  have HR := Lib.hid hr
  have HN := Lib.hid (fun w' (hb : Below w.heap.size w w') r b (h0 : 0 ≤ r) (h1 : r ≤ 1114112) => rNext A n c l w' (hr.on hb) hn r b h0 h1)
  have HC0 := Lib.hid (HN.out w (Below.refl _ _) 0 false (by omega) (by omega))
  clear hr
  go_enter Try.func15, Try.ntmps15
  go_wp2_with fail
  with_reducible refine HC0.out.mono ?_
  rintro e w1 ⟨m0, rfl, hm0, rfl⟩
  have HS := Lib.hid (Gn.start hm0)
  clear hm0 HC0
  go_wp2_with fail
  go_loopw [3, 4] (fun o p wr => ∃ (out : List Rg) (r : Int), p = .int .i64 r ∧ Hid (Gn l false out r) ∧ wr.ownsRow w.heap.size 45 2 o out.length (cR out) ∧ Below w.heap.size w wr) (fun _ p _ => (1114112 - intOf p).toNat)
  case atStart => exact ⟨[], m0, rfl, HS, World.ownsRow_nil _ _ _ _, Below.refl _ _⟩
  case round =>
    obtain ⟨out, r, rfl, HG, hown, hb⟩ := hrel
    have hg := HG.out
    by_cases k1 : r ≤ 1114111
    · have f1 : decide (r ≤ 1114111) = true := decide_eq_true k1
      have r0 := hg.2.2.1
      have hsh := hg.1.short
      have HC1 := Lib.hid (HN.out wr hb r (!false) r0 (by omega))
      have HO := Lib.hid hown
      have HB := Lib.hid hb
      have HK := Lib.hid k1
      simp only [Bool.not_true, Bool.not_false] at HC1
      clear hown hb hg
      go_wp2_with fail
      with_reducible refine HC1.out.mono ?_
      rintro e w1 ⟨t, rfl, ht, rfl⟩
      have ht1 := ht.1
      have ht2 := ht.2.1
      have w1 : IntKind.i64.wrap (t - 1) = t - 1 := wrap_ok (by omega) (by omega)
      have hown := HO.out
      have hb := HB.out
      have HT := Lib.hid ht
      obtain ⟨t1, ht1'⟩ : ∃ y, t - 1 = y := ⟨_, rfl⟩
      rw [ht1'] at w1
      have HT1 := Lib.hid ht1'
      clear HC1 HO HB ht ht1'
      go_wp2_with (at_builtin; refine wpList_appR _ rfl (.tmp 13) (.tmp 18) 22 rfl w.heap.size 45 i0 Try.underlying22 hi hz0 hz1 hz2 _ _ _ rfl (hown.alloc _) _ _ 1 1 _ rfl (RowR.one _ _ _ _) (by omega) (by simp; have := hb.size; omega) ?_)
      intro v' w' hown' _ hb'
      have hb2 : Below w.heap.size w w' := (hb.alloc hb.size _).trans hb'
      have HC2 := Lib.hid (HN.out w' hb2 t false (by omega) ht2)
      have HO2 : Hid (w'.ownsRow w.heap.size 45 2 v' (out ++ [(r, t1)]).length (cR (out ++ [(r, t1)]))) := Lib.hid (by
        rw [HT1.out] at hown'
        rw [cR_snoc, List.length_append]; exact hown')
      have HB2 := Lib.hid hb2
      clear hown hown' hb hb' hb2 hsh ht1 ht2
      go_wp2_with fail
      with_reducible refine HC2.out.mono ?_
      rintro e w3 ⟨m, rfl, hm, rfl⟩
      have HG2 : Hid (Gn l false (out ++ [(r, t1)]) m) := Lib.hid (by rw [← HT1.out]; exact HG.out.step HK.out HT.out hm)
      have hrm : r < m := by
        have h1 := HT.out.1
        have h2 := hm.1
        have h3 := HG2.out.1
        have h4 : (r, t1) ∈ out ++ [(r, t1)] := by simp
        have h5 := (h3.1 _ h4).2.1
        have h6 := HT1.out
        dsimp only at h5
        omega
      have hm9 := hm.2.1
      clear hm HC2
      go_wp2_with fail
      exact ⟨⟨out ++ [(r, t1)], m, rfl, HG2, HO2.out, HB2.out⟩, by simp [intOf]; omega⟩
    · have f1 : decide (r ≤ 1114111) = false := decide_eq_false k1
      have HF : Hid (Of (fun n => isRn n ∧ ¬ has l n) out) := Lib.hid ((hg.all (by omega)).same (fun n => ⟨fun h => ⟨h.1, fun k => by have := h.2.1 k; cases this⟩, fun h => ⟨h.1, fun k => absurd k h.2, fun k => by cases k⟩⟩))
      obtain ⟨A', c', rfl⟩ := ownR_slice hown
      clear k1 hg
      go_wp2_with fail
      go_ret
      exact ⟨A', c', out, rfl, HF.out, hown, hb⟩
end Go.Proofs.Ytjnnaafkdgoflaa
