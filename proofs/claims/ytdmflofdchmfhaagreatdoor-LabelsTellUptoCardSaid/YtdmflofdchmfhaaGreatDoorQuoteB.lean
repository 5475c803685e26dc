/- QBuf QQuoteA QQuoteB QQuote: taken over. -/
import Derived.Test.YtdmflofdchmfhaaGreatDoorQuoteA
import Derived.Test.YtdmflofdchmfhaaGreatDoorShelf
import Derived.Lib.Builder
import Derived.Lib.AppendStr
import Derived.Lib.UnsafeStr
import Derived.Laws.Externs
namespace Go.Proofs.YtdmflofdchmfhaaGreatDoor
open Go.RowKit

open Go.RowKit Go.Shelf

/-- Bytes as cells. -/
def cN (l : List Nat) : List Value := l.map fun x : Nat => .int .u8 (x : Int)
theorem cN_len (l : List Nat) : (cN l).length = l.length := by simp [cN]
theorem cN_app (l m : List Nat) : cN (l ++ m) = cN l ++ cN m := by simp [cN]
theorem cN_str (s : ByteArray) : Lib.strCells s = cN (bl s) := by simp [Lib.strCells, cN, bl, Function.comp_def]
theorem cN_bytes {l : List Nat} (h : Byt l) : cN l = Lib.byteCells (l.map UInt8.ofNat) := by
  simp only [cN, Lib.byteCells, List.map_map]
  refine List.map_congr_left fun x hx => ?_
  have := h x hx
  simp only [Function.comp, UInt8.toNat_ofNat']
  rw [Nat.mod_eq_of_lt (by omega)]
/-- The builder at b holds these bytes. -/
def Bd (B b : Nat) (l : List Nat) (w : World) : Prop := Lib.IsBuilder 55 5 B b (cN l) w
theorem bu_info : (Tryz.prog.info? 55).map (·.size) = some 2 := by kernel_rfl
theorem bu_lies : liesAt Tryz.prog Tryz.prog.depth 55 (2 / Tryz.prog.cellsOf 55) 0 55 1 = true := by kernel_rfl
theorem u8_info : (Tryz.prog.info? 5).map (fun i => (i.zero, i.size, i.bytes)) = some (some (.int .u8 0), 1, 1) := by kernel_rfl

theorem row_cells {w : World} {B n : Nat} {e : TypeId} {v : Value} {xs : List Value} (h : w.ownsRow B e 1 v n xs) : ∀ (j : Nat) (o : Obj), v.ownBlock = some j → w.heap[j]? = some o → o.isCells = true := by
  intro j o hj ho
  rcases h.2 with ⟨rfl, _⟩ | ⟨g, cap, cur, rfl, _, hgb, _⟩
  · simp [Value.ownBlock] at hj
  · obtain rfl : g = j := by simpa [Value.ownBlock] using hj
    rw [hgb] at ho; cases ho; rfl
theorem noEscape_run (x : Value) (w : World) : (callFunc 89 #[x]).run Tryz.prog w = .ok (.value x) w := by
  rw [run_callFunc_extern Tryz.func89 (by kernel_rfl) (by kernel_rfl) (by kernel_rfl) (e := Extern.AbiNoEscape.same) (by kernel_rfl), Lib.run_noEscape]
  rfl
set_option maxHeartbeats 1000000 in
set_option maxRecDepth 100000 in
theorem copyCheck_any (B b : Nat) (bs : List Value) (w : World) (h : Lib.IsBuilder 55 5 B b bs w) :
    Calls Tryz.prog 64 #[.pointer (some ⟨b, 0, none⟩)] w fun e w' => e = .returned (.tuple #[]) ∧ Lib.BuilderAt 55 5 B b (.pointer (some ⟨b, 0, none⟩)) bs w' ∧ Below B w w' ∧ KeepsOthers w w' := by
  obtain ⟨j, hj, hjs⟩ := Option.map_eq_some_iff.1 bu_info
  rcases h with h | h
  · have h0 := h.cell0
    have hsh := h.shape
    have hfz := h.frozen0
    have hTo := Lib.run_to_unsafe (P := Tryz.prog) w ⟨b, 0, none⟩ Tryz.underlying53 Tryz.underlying102 hj (by rw [hjs]; decide) hsh (Nat.zero_lt_succ 1)
    have hFr := Lib.run_from_unsafe (P := Tryz.prog) w ⟨b, 0, none⟩ Tryz.underlying102 Tryz.underlying53 hj hsh bu_lies
    have HF : Hid (Lib.BuilderAt 55 5 B b (.pointer (some ⟨b, 0, none⟩)) bs (w.setCell ⟨b, 0, none⟩ (.pointer (some ⟨b, 0, none⟩))) ∧ Below B w (w.setCell ⟨b, 0, none⟩ (.pointer (some ⟨b, 0, none⟩))) ∧ KeepsOthers w (w.setCell ⟨b, 0, none⟩ (.pointer (some ⟨b, 0, none⟩)))) := Lib.hid ⟨h.used _, (Below.refl B w).setCell (p := ⟨b, 0, none⟩) h.1 _, KeepsOthers.setCell _ _ _⟩
    have hNE := noEscape_run
    clear h
    go_enter Tryz.func64, Tryz.ntmps64
    go_wp2_with fail
    go_end0
    exact ⟨rfl, HF.out⟩
  · have h0 := h.cell0
    have hq := Lib.run_neq_ptr_same (P := Tryz.prog) w ⟨b, 0, none⟩ Tryz.underlying53 hj
    have H := Lib.hid h
    clear h
    go_enter Tryz.func64, Tryz.ntmps64
    go_wp2_with fail
    go_end0
    exact ⟨rfl, H.out, Below.refl _ _, KeepsOthers.refl _⟩

set_option maxHeartbeats 2000000 in
set_option maxRecDepth 100000 in
theorem WriteByte_any (B b : Nat) (l : List Nat) (c : Nat) (w : World) (h : Bd B b l w) (hlen : l.length ≤ 100000000) (hBw : B ≤ w.heap.size) :
    Calls Tryz.prog 60 #[.pointer (some ⟨b, 0, none⟩), .int .u8 (c : Int)] w fun e w' => e = .returned .nilIface ∧ Bd B b (l ++ [c]) w' ∧ Below B w w' ∧ KeepsOthers w w' := by
  obtain ⟨i0, hi, hz0, hz1, hz2⟩ := info_parts u8_info
  have hl := cN_len l
  have HCC := Lib.hid (copyCheck_any B b (cN l) w h)
  go_enter Tryz.func60, Tryz.ntmps60
  go_wp2_with fail
  with_reducible refine HCC.out.mono ?_
  rintro e w1 ⟨rfl, ⟨hB, v, hbk, hown, hne⟩, hb1, hk1⟩
  have hs1 := hb1.size
  have c1 : w1.cell? ⟨b, 1, none⟩ = some v := by rw [Lib.cell_of_heap hbk]; rfl
  have hlt : b < w1.heap.size := (Array.getElem?_eq_some_iff.1 hbk).1
  have HN : Hid (∀ j u, [Value.int .u8 (c : Int)][j]? = some u → (w1.alloc (.cells #[.int .u8 (c : Int)] 5)).cell? ((⟨w1.heap.size, 0, none⟩ : Addr).add j) = some u) := Lib.hid (by
    intro j u hj
    have := (Blk.cell (Blk.made w1 5 [Value.int .u8 (c : Int)]) j).trans hj
    match j, hj with
    | 0, _ => exact this
    | j + 1, hj => simp at hj)
  have H1 := Lib.hid (And.intro hbk (And.intro hown hne))
  have H2 := Lib.hid (And.intro hb1 hB)
  have H3 := Lib.hid hk1
  clear hbk hown hne hb1 hB h HCC hk1
  go_wp2_with (at_builtin; refine wpList_append_own _ rfl _ _ 45 rfl B 5 i0 (.int .u8 0) 1 1 Tryz.underlying45 hi hz0 hz1 hz2 rfl (by decide) _ _ _ rfl (H1.out.2.1.alloc _) ⟨w1.heap.size, 0, none⟩ 1 1 [.int .u8 (c : Int)] rfl rfl HN.out (by simp [Value.oneCell']) (by unfold maxLen; omega) (by omega) (by simp; omega) ?_)
  intro v' w2 hown' hgrow _
  have hb2 : w2.heap[b]? = some (.cells #[.pointer (some ⟨b, 0, none⟩), v] 55 (0, 0)) := by
    rw [hgrow.block b (by simp; omega) (fun e => H1.out.2.2 e.symm)]
    exact (Below.heap_alloc w1 _ b hlt).trans H1.out.1
  have f1 : w2.frozen? ⟨b, 1, none⟩ = false := Lib.frozen_of_heap hb2 1
  have d1 : w2.cell? ⟨b, 1, none⟩ = some v := by rw [Lib.cell_of_heap hb2]; rfl
  obtain ⟨g, cap, rfl⟩ : ∃ g cap, v' = .slice (some ⟨g, 0, none⟩) (l.length + 1) cap := by
    rcases hown'.2 with ⟨_, h0⟩ | ⟨g, cap, cur, hv, _⟩
    · omega
    · exact ⟨g, cap, hv⟩
  have HF : Hid (Bd B b (l ++ [c]) (w2.setCell ⟨b, 1, none⟩ (.slice (some ⟨g, 0, none⟩) (l.length + 1) cap)) ∧ Below B w (w2.setCell ⟨b, 1, none⟩ (.slice (some ⟨g, 0, none⟩) (l.length + 1) cap)) ∧ KeepsOthers w (w2.setCell ⟨b, 1, none⟩ (.slice (some ⟨g, 0, none⟩) (l.length + 1) cap))) := Lib.hid ⟨.inr (Lib.BuilderAt.put (T := 55) (e := 5) H2.out.2 hb2 (bs' := cN (l ++ [c])) (by rw [cN_len, List.length_append, cN_app]; exact hown') (by decide)),
    ((H2.out.1.alloc (by omega) _).grown hgrow (by simp; omega) (fun k hk => (H1.out.2.1.lt k hk).1)).setCell (p := ⟨b, 1, none⟩) H2.out.2 _, ((H3.out.trans (KeepsOthers.alloc _ _)).trans (KeepsOthers.of_grownBy hgrow (row_cells (H1.out.2.1.alloc _)))).trans (KeepsOthers.setCell _ _ _)⟩
  clear hown' hgrow hb2 HN H1 H2 H3
  go_wp2_with fail
  go_ret
  exact ⟨rfl, HF.out⟩

set_option maxHeartbeats 2000000 in
set_option maxRecDepth 100000 in
theorem WriteString_any (B b : Nat) (l : List Nat) (s : ByteArray) (w : World) (h : Bd B b l w) (hlen : l.length ≤ 100000000) (hs : s.size ≤ 100000000) (hBw : B ≤ w.heap.size) :
    Calls Tryz.prog 46 #[.pointer (some ⟨b, 0, none⟩), .string s] w fun e w' => e = .returned (.tuple #[.int .i64 s.size, .nilIface]) ∧ Bd B b (l ++ bl s) w' ∧ Below B w w' ∧ KeepsOthers w w' := by
  obtain ⟨i0, hi, hz0, hz1, hz2⟩ := info_parts u8_info
  have hl := cN_len l
  have HCC := Lib.hid (copyCheck_any B b (cN l) w h)
  go_enter Tryz.func46, Tryz.ntmps46
  go_wp2_with fail
  with_reducible refine HCC.out.mono ?_
  rintro e w1 ⟨rfl, ⟨hB, v, hbk, hown, hne⟩, hb1, hk1⟩
  have hs1 := hb1.size
  have c1 : w1.cell? ⟨b, 1, none⟩ = some v := by rw [Lib.cell_of_heap hbk]; rfl
  have hlt : b < w1.heap.size := (Array.getElem?_eq_some_iff.1 hbk).1
  have H1 := Lib.hid (And.intro hbk (And.intro hown hne))
  have H2 := Lib.hid (And.intro hb1 hB)
  have H3 := Lib.hid hk1
  clear hbk hown hne hb1 hB h HCC hk1
  go_wp2_with (at_builtin; refine Lib.wpList_append_own_string _ rfl _ _ 45 9 rfl B 5 i0 Tryz.underlying45 Tryz.underlying9 hi hz0 hz1 hz2 _ _ _ rfl H1.out.2.1 s rfl (by unfold maxLen; omega) (by omega) (by omega) ?_)
  intro v' w2 hown' hgrow _
  have hb2 : w2.heap[b]? = some (.cells #[.pointer (some ⟨b, 0, none⟩), v] 55 (0, 0)) := by
    rw [hgrow.block b hlt (fun e => H1.out.2.2 e.symm)]
    exact H1.out.1
  have f1 : w2.frozen? ⟨b, 1, none⟩ = false := Lib.frozen_of_heap hb2 1
  have d1 : w2.cell? ⟨b, 1, none⟩ = some v := by rw [Lib.cell_of_heap hb2]; rfl
  obtain ⟨ao, n', cap, rfl⟩ : ∃ ao n' cap, v' = .slice ao n' cap := by
    rcases hown'.2 with ⟨hv, _⟩ | ⟨g, cap, cur, hv, _⟩
    · exact ⟨_, _, _, hv⟩
    · exact ⟨_, _, _, hv⟩
  have HF : Hid (Bd B b (l ++ bl s) (w2.setCell ⟨b, 1, none⟩ (.slice ao n' cap)) ∧ Below B w (w2.setCell ⟨b, 1, none⟩ (.slice ao n' cap)) ∧ KeepsOthers w (w2.setCell ⟨b, 1, none⟩ (.slice ao n' cap))) := Lib.hid ⟨.inr (Lib.BuilderAt.put (T := 55) (e := 5) H2.out.2 hb2 (bs' := cN (l ++ bl s)) (by rw [cN_len, List.length_append, cN_app, bl_len, ← cN_str]; exact hown') (by decide)),
    (H2.out.1.grown hgrow (by omega) (fun k hk => (H1.out.2.1.lt k hk).1)).setCell (p := ⟨b, 1, none⟩) H2.out.2 _, (H3.out.trans (KeepsOthers.of_grownBy hgrow (row_cells H1.out.2.1))).trans (KeepsOthers.setCell _ _ _)⟩
  clear hown' hgrow hb2 H1 H2 H3
  go_wp2_with fail
  go_ret2
  exact ⟨rfl, HF.out⟩
theorem String_any (B b : Nat) (l : List Nat) (hb : Byt l) (w : World) (h : Bd B b l w) (hBw : B ≤ w.heap.size) :
    Calls Tryz.prog 48 #[.pointer (some ⟨b, 0, none⟩)] w fun e w' => e = .returned (.string (ofl l)) ∧ Below B w w' ∧ (∀ (k : Nat) (o : Obj), w.heap[k]? = some o → o.isCells = false → w'.heap[k]? = some o) := by
  unfold Bd at h
  rw [cN_bytes hb] at h
  refine (Tryz.Builder_String_any_k B b _ w (Lib.IsBuilderF.of h) hBw).mono ?_
  rintro e w' ⟨rfl, _, h2, h3⟩
  refine ⟨rfl, h2, fun k o hk ho => h3 k o hk (fun e => ?_) (fun c fz e => ?_)⟩
  · injection e with e
    subst e
    rcases h with ⟨_, v, hb', _⟩ | ⟨_, v, hb', _⟩ <;> (rw [hb'] at hk; cases hk; cases ho)
  · subst e; cases ho
theorem Bd.new (w : World) : Bd w.heap.size w.heap.size [] (w.alloc (.cells #[.pointer none, .slice none 0 0] 55)) := Lib.fresh_isBuilder _ _ w

open Go.RowKit Go.Shelf

attribute [local go_sem] Oper.semAt_some

def hx (d : Nat) : Nat := if d < 10 then 48 + d else 87 + d
/-- What a part of a text becomes. -/
def qB (x : List Nat × Nat) : List Nat :=
  if x.2 = 34 ∨ x.2 = 92 then 92 :: x.1
  else if x.2 = 10 then [92, 110]
  else if x.2 = 13 then [92, 114]
  else if x.2 = 9 then [92, 116]
  else if x.2 < 32 ∨ x.2 = 127 ∨ (x.2 = 65533 ∧ x.1.length = 1) then [92, 120, hx (x.1.getD 0 0 / 16), hx (x.1.getD 0 0 % 16)]
  else x.1
def qFlat (l : List (List Nat × Nat)) : List Nat := l.flatMap qB
def quoteL (L : List Nat) : List Nat := 34 :: (qFlat (parts L) ++ [34])
theorem qB_len {x : List Nat × Nat} (h : x.1.length ≤ 4) : (qB x).length ≤ 5 := by
  unfold qB
  repeat' split
  all_goals first | omega | (simp; done) | (simp; omega)
theorem qFlat_len {l : List (List Nat × Nat)} (h : ∀ x ∈ l, x.1.length ≤ 4) : (qFlat l).length ≤ 5 * l.length := by
  induction l with
  | nil => simp [qFlat]
  | cons x t ih =>
    have h1 := qB_len (h x (by simp))
    have h2 := ih (fun y hy => h y (by simp [hy]))
    simp only [qFlat, List.flatMap_cons, List.length_append, List.length_cons] at h2 ⊢
    omega
theorem qFlat_snoc (l : List (List Nat × Nat)) (x : List Nat × Nat) : qFlat (l ++ [x]) = qFlat l ++ qB x := by simp [qFlat]
theorem qFlat_snoc' (l m : List (List Nat × Nat)) : qFlat (l ++ m) = qFlat l ++ m.flatMap qB := by simp [qFlat]
theorem bd_own {β : Type} (B b N : Nat) (f : β → List Nat) : OwnFrom N (fun s W => Bd B b (f s) W) := by
  intro s W W' row h hg hr
  have key : ∀ p, Lib.BuilderAt 55 5 B b p (cN (f s)) W → Lib.BuilderAt 55 5 B b p (cN (f s)) W' := by
    rintro p ⟨hB, v, hb, hown, hne⟩
    have hrow : ∀ g o, W.heap[g]? = some o → o.isCells = true → some g ≠ row := fun g o h1 h2 e => by
      obtain ⟨_, o', h3, h4⟩ := hr g e.symm
      rw [h1] at h3; cases h3; rw [h2] at h4; cases h4
    refine ⟨hB, v, ?_, ?_, hne⟩
    · exact (hg.block b (Array.getElem?_eq_some_iff.1 hb).1 (hrow b _ hb rfl)).trans hb
    · refine hown.kept hg ?_
      rcases hown.2 with ⟨rfl, _⟩ | ⟨g, cap, cur, rfl, _, hgb, _⟩
      · exact .inl rfl
      · exact .inr (hrow g _ hgb rfl)
  exact h.elim (fun x => .inl (key _ x)) (fun x => .inr (key _ x))
theorem parts_byt (s : ByteArray) : ∀ x ∈ parts (bl s), Byt x.1 := by
  suffices ∀ n (L : List Nat), L.length ≤ n → Byt L → ∀ x ∈ parts L, Byt x.1 from this _ _ (Nat.le_refl _) (bl_byt s)
  intro n
  induction n with
  | zero =>
    intro L h _ x hx
    have : L = [] := List.eq_nil_of_length_eq_zero (by omega)
    subst this
    cases hx
  | succ n ih =>
    intro L h hb x hx
    by_cases hL : L = []
    · subst hL; cases hx
    · have hd := dec_size hL
      rw [parts_cons hL] at hx
      rcases List.mem_cons.1 hx with rfl | h2
      · exact hb.take _
      · exact ih _ (by rw [List.length_drop]; omega) (hb.drop _) x h2
theorem hx_lt {d : Nat} (h : d < 16) : hx d < 256 := by unfold hx; split <;> omega
theorem qB_byt {x : List Nat × Nat} (h : Byt x.1) : Byt (qB x) := by
  have h9 : ∀ q : List Nat, Byt q → q.getD 0 0 < 256 := fun q h => by
    cases q with
    | nil => exact Nat.zero_lt_succ _
    | cons a t => exact h a List.mem_cons_self
  have h0 := h9 _ h
  unfold qB
  repeat' split
  · exact Byt.cons (by omega) h
  · exact Byt.cons (by omega) (Byt.cons (by omega) Byt.nil)
  · exact Byt.cons (by omega) (Byt.cons (by omega) Byt.nil)
  · exact Byt.cons (by omega) (Byt.cons (by omega) Byt.nil)
  · exact Byt.cons (by omega) (Byt.cons (by omega) (Byt.cons (hx_lt (by omega)) (Byt.cons (hx_lt (by omega)) Byt.nil)))
  · exact h
theorem qFlat_byt {l : List (List Nat × Nat)} (h : ∀ x ∈ l, Byt x.1) : Byt (qFlat l) := by
  intro y hy
  obtain ⟨x, hx, hxy⟩ := List.mem_flatMap.1 hy
  exact qB_byt (h x hx) y hxy
theorem quote_byt (s : ByteArray) : Byt (quoteL (bl s)) :=
  Byt.cons (by omega) ((qFlat_byt (parts_byt s)).app (Byt.cons (by omega) Byt.nil))
def hexS : ByteArray := ⟨#[48, 49, 50, 51, 52, 53, 54, 55, 56, 57, 97, 98, 99, 100, 101, 102]⟩
theorem hex_get : ∀ j : Nat, (h : j < 16) → (hexS[j]'h).toNat = hx j := by decide
theorem hex_run (j : Nat) (h : j < 16) (w : World) : Sem.run Tryz.prog (Instr.index 9 (.string ⟨#[48, 49, 50, 51, 52, 53, 54, 55, 56, 57, 97, 98, 99, 100, 101, 102]⟩) (.int .u8 (j : Int))) w = .ok (.int .u8 ((hx j : Nat) : Int)) w := by
  have hz : hexS.size = 16 := rfl
  have hi : (0 : Int) ≤ (j : Int) ∧ (j : Int) < (hexS.size : Int) := by omega
  have := run_index_string (P := Tryz.prog) w 9 hexS .u8 (j : Int) Tryz.underlying9
  rw [dif_pos hi] at this
  exact this.trans (congrArg (fun z : Nat => (Result.ok (Value.int .u8 (z : Int)) w : Result Value)) (hex_get j h))
theorem and15 (c : Nat) (h : c < 256) : bits .and .u8 (c : Int) 15 = ((c % 16 : Nat) : Int) := by
  rw [show (15 : Int) = ((15 : Nat) : Int) from rfl, and_u8 _ _ h (by omega), low4]

open Go.RowKit Go.Shelf

attribute [local go_sem] Oper.semAt_some

def regOf (k : Nat) : Code → Option Code
  | .region id ops d => if id = k then some (.region id ops d) else none
  | .seq a b => (regOf k a).orElse fun _ => regOf k b
  | .cond _ a b => (regOf k a).orElse fun _ => regOf k b
  | .block _ c => regOf k c
  | .loop c => regOf k c
  | .rangeFunc _ _ a b => (regOf k a).orElse fun _ => regOf k b
  | .scope c => regOf k c
  | _ => none

set_option maxRecDepth 100000 in
set_option maxHeartbeats 8000000 in
theorem hex_region (l n b c : Nat) (p : ByteArray) (W : World) (C : Code) (hC : Tryz.f43.body.bind (regOf 16) = some C) (Q : Exit → Act → World → Prop)
    (h1 : 1 ≤ p.size) (hp0 : (p[0]'(by omega)).toNat = c) (R : ByteArray → World → Prop)
    (HWX : Hid (∀ (C : Array Value) (S : ByteArray) (_ : S.size ≤ 100000000), Calls Tryz.prog 46 #[.pointer (some ⟨b, 0, none⟩), .string S] (W.alloc (.cells C 5)).drew fun e W2 => e = .returned (.tuple #[.int .i64 S.size, .nilIface]) ∧ R S W2))
    (HQ : ∀ a S W2, bl S = [92, 120, hx (c / 16), hx (c % 16)] → R S W2 → Q .normal a W2) (z0 z1 z2 z5 z6 z7 z8 z9 z10 z11 z12 z13 z14 z15 z16 z17 z18 z19 z20 z21 z22 z23 z24 z25 z26 z27 z28 z29 z30 z31 z32 z33 z34 z35 z36 z37 z38 z39 z40 z41 z42 z43 z44 z45 z46 z47 z48 z49 z50 z51 z52 z53 z54 z55 z56 z57 z58 z59 z60 z61 z62 z63 z64 : Value) :
    C.wpIn (Fence.wide.inRound l) n Tryz.prog Q { tmps := #[z0, z1, z2, .pointer (some ⟨b, 0, none⟩), .string p, z5, z6, z7, z8, z9, z10, z11, z12, z13, z14, z15, z16, z17, z18, z19, z20, z21, z22, z23, z24, z25, z26, z27, z28, z29, z30, z31, z32, z33, z34, z35, z36, z37, z38, z39, z40, z41, z42, z43, z44, z45, z46, z47, z48, z49, z50, z51, z52, z53, z54, z55, z56, z57, z58, z59, z60, z61, z62, z63, z64], defers := [] } W := by
  have hc8 : c < 256 := by rw [← hp0]; exact (p[0]'(by omega)).toNat_lt
  have hps : (0 : Int) < (p.size : Int) := by omega
  obtain ⟨m, hm⟩ : ∃ m, c / 16 = m := ⟨_, rfl⟩
  obtain ⟨k, hk⟩ : ∃ k, c % 16 = k := ⟨_, rfl⟩
  have q1 : (c : Int) / 16 = (m : Int) := by omega
  have q2 : bits .and .u8 (c : Int) 15 = (k : Int) := by rw [and15 c hc8, hk]
  have hI1 := hex_run m (by omega)
  have hI2 := hex_run k (by omega)
  have hx1 := hx_lt (show m < 16 by omega)
  have hx2' := hx_lt (show k < 16 by omega)
  rw [hm, hk] at HQ
  obtain ⟨u, hu⟩ : ∃ u, hx m = u := ⟨_, rfl⟩
  obtain ⟨v, hv⟩ : ∃ v, hx k = v := ⟨_, rfl⟩
  rw [hu] at hI1 hx1
  rw [hv] at hI2 hx2'
  rw [hu, hv] at HQ
  have hmx : Tryz.prog.follows .mixedOrders = true := by kernel_rfl
  have kc := fun (W : World) => cv_row W #[.int .u8 (u : Int), .int .u8 (v : Int)] [(u : Int), (v : Int)] 2 2 rfl rfl
  have kd := fun (W : World) => cv_drew W #[.int .u8 (u : Int), .int .u8 (v : Int)] [(u : Int), (v : Int)] 2 2 rfl rfl
  have hT : bl (strOfNums [(u : Int), (v : Int)]) = [u, v] := bl_str rfl (Byt.cons hx1 (Byt.cons hx2' Byt.nil))
  obtain ⟨T, hTe⟩ : ∃ T, strOfNums [(u : Int), (v : Int)] = T := ⟨_, rfl⟩
  rw [hTe] at hT
  simp only [hTe] at kc kd
  have hTs : T.size = 2 := by rw [← bl_len, hT]; rfl
  have hadd : ∀ w, Sem.run Tryz.prog (Op.stringOp .add ⟨#[92, 120]⟩ T) w = Result.ok (.string (⟨#[92, 120]⟩ ++ T)) w := fun w => run_string_add_sum w ⟨#[92, 120]⟩ T (by have : (⟨#[92, 120]⟩ : ByteArray).size = 2 := rfl; omega)
  obtain ⟨S, hS⟩ : ∃ S, (⟨#[92, 120]⟩ : ByteArray) ++ T = S := ⟨_, rfl⟩
  rw [hS] at hadd
  have HS : Hid (bl S = [92, 120, u, v] ∧ S.size ≤ 100000000) := Lib.hid (by
    have h := bl_append ⟨#[92, 120]⟩ T
    rw [hS, hT] at h
    have h' := bl_len S
    rw [h] at h'
    exact ⟨h, by have : (bl ⟨#[92, 120]⟩ ++ [u, v]).length = 4 := rfl; omega⟩)
  have HQ' : Hid (∀ a W2, R S W2 → Q .normal a W2) := Lib.hid (fun a W2 h => HQ a S W2 HS.out.1 h)
  clear hm hk hu hv hc8 hTe hT hTs hS hx1 hx2' HQ
  cases hC
  dsimp only
  gi_region_with_o (refine ⟨trivial, fun h => (by cases h), ?_⟩; gi_at_call 46; refine (CallsIn.inRound l (callsIn_wide.2 (HWX.out _ S HS.out.2))).mono ?_; rintro e W2 ⟨rfl, hW2⟩)
  all_goals exact HQ'.out _ W2 hW2

open Go.RowKit Go.Shelf

attribute [local go_sem] Oper.semAt_some

set_option maxRecDepth 100000 in
set_option maxHeartbeats 4000000 in
theorem Quote_in (n : Nat) (hn : 3 ≤ n) (s : ByteArray) (hs : s.size ≤ 2000000) (w : World) :
    CallsIn Fence.wide n Tryz.prog 43 #[.string s] w (StrOut w (quoteL (bl s))) := by
  have h1 : 1 ≤ n := by omega
  have hpl := parts_len (bl s)
  rw [bl_len] at hpl
  refine callsIn_of_wp_marks Tryz.func43 rfl trivial ?_ rfl
  simp only [Tryz.ntmps43, List.size_toArray, List.length_cons, List.length_nil, Nat.reduceAdd, Nat.reduceSub, Array.replicate_succ, Array.replicate_zero, List.push_toArray, List.append_toArray, List.nil_append, List.cons_append]
  gi_wp2_with fail
  refine ⟨trivial, (callsIn_wide.2 (WriteByte_any w.heap.size w.heap.size [] 34 _ (Bd.new w) (by decide) (by simp))).mono ?_⟩
  rintro e w2 ⟨rfl, h2, b2, _⟩
  have hb2 : Below w.heap.size w w2 := ((Below.refl w.heap.size w).alloc (Nat.le_refl _) _).trans b2
  obtain ⟨b, hb⟩ : ∃ b, w.heap.size = b := ⟨_, rfl⟩
  rw [hb] at h2 hb2
  clear b2
  have hle := hb2.size
  gi_wp2_with fail
  refine ⟨trivial, (each_in (n - 1) s w2).mono ?_⟩
  rintro e w3 ⟨rfl, rfl⟩
  have bN := Boxed.new w2 9 (.string s)
  obtain ⟨w3, hw3⟩ : ∃ W, w2.alloc (.cells #[.string s] 9) = W := ⟨_, rfl⟩
  have hB3 : Below b w w3 := by rw [← hw3]; exact hb2.alloc (by omega) _
  have h3 : Bd b b [34] w3 := by
    rw [← hw3]
    exact bd_own (β := Unit) b b 0 (fun _ => [34]) () w2 _ none h2 (World.grownBy_alloc w2 _ none) (fun r e => by cases e)
  have hle3 := hB3.size
  have hlt3 : w2.heap.size < w3.heap.size := by rw [← hw3]; simp
  rw [hw3] at bN ⊢
  clear h2 hb2 hw3
  gi_wp2_with fail
  refine wpIn_rangeFunc_ownG rfl h1 (gf := 85) (lb := #[.pointer (some ⟨w2.heap.size, 0, none⟩)]) rfl trivial (enters_of Tryz.func85 (by kernel_rfl) rfl)
    (each_stops (n - 1) (by omega) w2.heap.size s (by omega) w3 hlt3 bN.cell) (fun _ _ => trivial) (fun _ _ _ _ _ _ _ _ => trivial) (Below.refl _ _) (fun _ => rfl)
    (fun pre W => Bd b b (34 :: qFlat (pre.map ptF)) W ∧ Below b w W)
    (fun _ _ _ => False)
    (OwnFrom.and (bd_own b b _ (fun pre : List Pt => 34 :: qFlat (pre.map ptF))) (ownFrom_below (by omega) (by omega)))
    (fun _ _ _ _ _ hs _ _ => hs)
    ⟨h3, hB3⟩
    (fun x : Pt => { tmps := #[.string s, undef, .string { data := #[] }, .pointer (some ⟨b, 0, none⟩), .string x.1.1, .int .i32 (x.1.2 : Int), .nilIface, .string s, .func (.func 85) #[] #[.pointer (some ⟨w2.heap.size, 0, none⟩)], .string x.1.1, .int .i32 (x.1.2 : Int), undef, undef, undef, undef, undef, undef, undef, undef, undef, undef, undef, undef, undef, undef, undef, undef, undef, undef, undef, undef, undef, undef, undef, undef, undef, undef, undef, undef, undef, undef, undef, undef, undef, undef, undef, undef, undef, undef, undef, undef, undef, undef, undef, undef, undef, undef, undef, undef, undef, undef, undef, undef, undef, undef], defers := [] }) ?assign ?body ?done ?stop
  case assign =>
    intro l x W K hK
    simp only [ptE]
    gi_wp2
    exact hK
  case body =>
    rintro l pre ⟨⟨p, r⟩, hx1, hx4, hx2⟩ W ⟨hW, hB⟩ hlt
    dsimp only at hx1 hx4 hx2 ⊢
    have hl : (34 :: qFlat (pre.map ptF)).length ≤ 100000000 := by
      have := qFlat_len (l := pre.map ptF) (fun y hy => by
        obtain ⟨z, _, rfl⟩ := List.mem_map.1 hy
        rw [ptF, bl_len]; exact z.2.2.1)
      rw [List.length_map] at this
      rw [List.length_cons]; omega
    have hsn : qFlat ((pre ++ [⟨(p, r), hx1, hx4, hx2⟩] : List Pt).map ptF) = qFlat (pre.map ptF) ++ qB (bl p, r) := by
      rw [List.map_append, qFlat_snoc']
      simp [ptF]
    have hWB : b ≤ W.heap.size := by have := hB.size; omega
    have HWS := Lib.hid (fun (S : ByteArray) (hS : S.size ≤ 100000000) => WriteString_any b b _ S W hW hl hS hWB)
    have HE : Hid (∀ (S : ByteArray) (W2 : World), bl S = qB (bl p, r) → Bd b b ((34 :: qFlat (pre.map ptF)) ++ bl S) W2 ∧ Below b W W2 ∧ KeepsOthers W W2 → KeepsFrom w3.heap.size W W2 ∧ True ∧ Bd b b (34 :: qFlat ((pre ++ [⟨(p, r), hx1, hx4, hx2⟩] : List Pt).map ptF)) W2 ∧ Below b w W2) := Lib.hid (fun S W2 hS h => by
      refine ⟨h.2.2.from _, trivial, ?_, hB.trans h.2.1⟩
      rw [hsn, ← hS]
      exact h.1)
    have HWX := Lib.hid (fun (C : Array Value) (S : ByteArray) (hS : S.size ≤ 100000000) => (WriteString_any b b _ S (W.alloc (.cells C 5)).drew (show Bd b b (34 :: qFlat (pre.map ptF)) (W.alloc (.cells C 5)) from bd_own (β := Unit) b b 0 (fun _ => 34 :: qFlat (pre.map ptF)) () W _ none hW (World.grownBy_alloc W _ none) (fun r e => by cases e)) hl hS (Nat.le_trans hWB (Nat.le_of_lt (by show W.heap.size < (W.heap.push _).size; rw [Array.size_push]; omega)))).mono (R' := fun e W2 => e = .returned (.tuple #[.int .i64 S.size, .nilIface]) ∧ Bd b b ((34 :: qFlat (pre.map ptF)) ++ bl S) W2 ∧ Below b W W2 ∧ KeepsOthers W W2) (fun e W2 h => ⟨h.1, h.2.1, (((Below.refl b W).alloc hWB _).drew).trans h.2.2.1, ((KeepsOthers.alloc W _).trans (KeepsOthers.drew _)).trans h.2.2.2⟩))
    clear hW hB hsn hl hlt
    have e34 : ((r : Int) == 34) = decide (r = 34) := by rw [Bool.eq_iff_iff]; simp; omega
    have e92 : ((r : Int) == 92) = decide (r = 92) := by rw [Bool.eq_iff_iff]; simp; omega
    have e10 : ((r : Int) == 10) = decide (r = 10) := by rw [Bool.eq_iff_iff]; simp; omega
    have e13 : ((r : Int) == 13) = decide (r = 13) := by rw [Bool.eq_iff_iff]; simp; omega
    have e9 : ((r : Int) == 9) = decide (r = 9) := by rw [Bool.eq_iff_iff]; simp; omega
    have e127 : ((r : Int) == 127) = decide (r = 127) := by rw [Bool.eq_iff_iff]; simp; omega
    have e32 : decide ((r : Int) < 32) = decide (r < 32) := by apply decide_eq_decide.2; omega
    have ebad : ((r : Int) == 65533) = decide (r = 65533) := by rw [Bool.eq_iff_iff]; simp; omega
    have eone : ((p.size : Int) == 1) = decide (p.size = 1) := by rw [Bool.eq_iff_iff]; simp; omega
    by_cases g2 : r = 10 ∨ r = 13 ∨ r = 9
    · clear e34 e92 e10 e13 e9 e127 e32 ebad eone
      rcases g2 with rfl | rfl | rfl
      all_goals
        gi_wp2_with fail
        refine ⟨trivial, fun h => (by cases h), (CallsIn.inRound l (callsIn_wide.2 (HWS.out _ (by decide)))).mono ?_⟩
        rintro e W2 ⟨rfl, hW2⟩
        gi_wp2
        exact HE.out _ W2 rfl hW2
    · by_cases g1 : r = 34 ∨ r = 92
      · have hadd : ∀ w, Sem.run Tryz.prog (Op.stringOp .add ⟨#[92]⟩ p) w = Result.ok (.string (⟨#[92]⟩ ++ p)) w := fun w => run_string_add_sum w ⟨#[92]⟩ p (by have : (⟨#[92]⟩ : ByteArray).size = 1 := rfl; omega)
        obtain ⟨S, hS⟩ : ∃ S, (⟨#[92]⟩ : ByteArray) ++ p = S := ⟨_, rfl⟩
        rw [hS] at hadd
        have HS : Hid (bl S = 92 :: bl p ∧ S.size ≤ 100000000) := Lib.hid (by
          have h := bl_append ⟨#[92]⟩ p
          rw [hS] at h
          have h' := bl_len S
          rw [h, List.length_append, bl_len, bl_len] at h'
          have : (⟨#[92]⟩ : ByteArray).size = 1 := rfl
          exact ⟨h, by omega⟩)
        clear e34 e92 e10 e13 e9 e127 e32 ebad eone hS
        rcases g1 with rfl | rfl
        all_goals
          gi_wp2_with fail
          refine ⟨trivial, fun h => (by cases h), (CallsIn.inRound l (callsIn_wide.2 (HWS.out S HS.out.2))).mono ?_⟩
          rintro e W2 ⟨rfl, hW2⟩
          gi_wp2
          exact HE.out _ W2 (by rw [HS.out.1]; rfl) hW2
      · have f34 : ((r : Int) == 34) = false := e34.trans (decide_eq_false (by omega))
        have f92 : ((r : Int) == 92) = false := e92.trans (decide_eq_false (by omega))
        have f10 : ((r : Int) == 10) = false := e10.trans (decide_eq_false (by omega))
        have f13 : ((r : Int) == 13) = false := e13.trans (decide_eq_false (by omega))
        have f9 : ((r : Int) == 9) = false := e9.trans (decide_eq_false (by omega))
        by_cases g3 : r < 32 ∨ r = 127 ∨ (r = 65533 ∧ p.size = 1)
        · obtain ⟨c, hc⟩ : ∃ c, (bl p).getD 0 0 = c := ⟨_, rfl⟩
          have hp0 : (p[0]'(by omega)).toNat = c := by rw [bl_get, hc]
          have HQ : Hid (qB (bl p, r) = [92, 120, hx (c / 16), hx (c % 16)]) := Lib.hid (by
            unfold qB
            rw [if_neg (by omega), if_neg (by omega), if_neg (by omega), if_neg (by omega), if_pos (by rw [bl_len]; omega), hc])
          rcases g3 with g3 | g3 | g3
          · have f32 := e32.trans (decide_eq_true g3)
            clear e34 e92 e10 e13 e9 e127 e32 ebad eone g1 g2 hc g3
            gi_wp2_with fail
            all_goals first
              | (rename_i h9 _; cases h9; done)
              | (refine hex_region l (n - 1 - 1) b c p W _ (by kernel_rfl) _ hx1 hp0 (fun S W2 => Bd b b ((34 :: qFlat (pre.map ptF)) ++ bl S) W2 ∧ Below b W W2 ∧ KeepsOthers W W2) (Lib.hid fun C S hS => (HWX.out C S hS)) ?_ _ _ _ _ _ _ _ _ _ _ _ _ _ _ _ _ _ _ _ _ _ _ _ _ _ _ _ _ _ _ _ _ _ _ _ _ _ _ _ _ _ _ _ _ _ _ _ _ _ _ _ _ _ _ _ _ _ _ _ _ _ _ _
                 intro a S W2 hS h
                 gi_wp2
                 exact HE.out S W2 (hS.trans HQ.out.symm) h)
          · have f32 := e32.trans (decide_eq_false (show ¬ r < 32 by omega))
            have f127 := e127.trans (decide_eq_true g3)
            clear e34 e92 e10 e13 e9 e127 e32 ebad eone g1 g2 hc g3
            gi_wp2_with fail
            all_goals first
              | (rename_i h9 _; cases h9; done)
              | (refine hex_region l (n - 1 - 1) b c p W _ (by kernel_rfl) _ hx1 hp0 (fun S W2 => Bd b b ((34 :: qFlat (pre.map ptF)) ++ bl S) W2 ∧ Below b W W2 ∧ KeepsOthers W W2) (Lib.hid fun C S hS => (HWX.out C S hS)) ?_ _ _ _ _ _ _ _ _ _ _ _ _ _ _ _ _ _ _ _ _ _ _ _ _ _ _ _ _ _ _ _ _ _ _ _ _ _ _ _ _ _ _ _ _ _ _ _ _ _ _ _ _ _ _ _ _ _ _ _ _ _ _ _
                 intro a S W2 hS h
                 gi_wp2
                 exact HE.out S W2 (hS.trans HQ.out.symm) h)
          · have f32 := e32.trans (decide_eq_false (show ¬ r < 32 by omega))
            have f127 := e127.trans (decide_eq_false (show ¬ r = 127 by omega))
            have fbad := ebad.trans (decide_eq_true g3.1)
            have fone := eone.trans (decide_eq_true g3.2)
            clear e34 e92 e10 e13 e9 e127 e32 ebad eone g1 g2 hc g3
            gi_wp2_with fail
            all_goals first
              | (rename_i h9 _; cases h9; done)
              | (refine hex_region l (n - 1 - 1) b c p W _ (by kernel_rfl) _ hx1 hp0 (fun S W2 => Bd b b ((34 :: qFlat (pre.map ptF)) ++ bl S) W2 ∧ Below b W W2 ∧ KeepsOthers W W2) (Lib.hid fun C S hS => (HWX.out C S hS)) ?_ _ _ _ _ _ _ _ _ _ _ _ _ _ _ _ _ _ _ _ _ _ _ _ _ _ _ _ _ _ _ _ _ _ _ _ _ _ _ _ _ _ _ _ _ _ _ _ _ _ _ _ _ _ _ _ _ _ _ _ _ _ _ _
                 intro a S W2 hS h
                 gi_wp2
                 exact HE.out S W2 (hS.trans HQ.out.symm) h)
        · have HQ : Hid (qB (bl p, r) = bl p) := Lib.hid (by
            unfold qB
            rw [if_neg (by omega), if_neg (by omega), if_neg (by omega), if_neg (by omega), if_neg (by rw [bl_len]; omega)])
          have f32 := e32.trans (decide_eq_false (show ¬ r < 32 by omega))
          have f127 := e127.trans (decide_eq_false (show ¬ r = 127 by omega))
          clear e34 e92 e10 e13 e9 e127 e32 g1 g2
          by_cases g4 : r = 65533
          · have fone := eone.trans (decide_eq_false (show ¬ p.size = 1 by omega))
            have fbad := ebad.trans (decide_eq_true g4)
            clear ebad eone g4 g3
            gi_wp2_with fail
            refine ⟨trivial, fun h => (by cases h), (CallsIn.inRound l (callsIn_wide.2 (HWS.out p (by omega)))).mono ?_⟩
            rintro e W2 ⟨rfl, hW2⟩
            gi_wp2
            exact HE.out _ W2 HQ.out.symm hW2
          · have fbad := ebad.trans (decide_eq_false g4)
            clear ebad eone g4 g3
            gi_wp2_with fail
            refine ⟨trivial, fun h => (by cases h), (CallsIn.inRound l (callsIn_wide.2 (HWS.out p (by omega)))).mono ?_⟩
            rintro e W2 ⟨rfl, hW2⟩
            gi_wp2
            exact HE.out _ W2 HQ.out.symm hW2
  case done =>
    rintro D ys W hD hys ⟨hW, hB⟩ hK
    have hl : (34 :: qFlat (ys.map ptF)).length ≤ 100000000 := by
      have := qFlat_len (l := ys.map ptF) (fun y hy => by
        obtain ⟨z, _, rfl⟩ := List.mem_map.1 hy
        rw [ptF, bl_len]; exact z.2.2.1)
      rw [hys] at this
      rw [List.length_cons, hys]; omega
    rw [hys] at hW hl
    have hWB : b ≤ W.heap.size := by have := hB.size; omega
    have HY := Lib.hid hys
    clear hys
    gi_wp2_with fail
    refine ⟨trivial, (callsIn_wide.2 (WriteByte_any b b _ 34 _ hW hl hWB)).mono ?_⟩
    rintro e W2 ⟨rfl, hW2, hB2, hk2⟩
    have hK2 := hk2.same D _ hK rfl
    have hWB2 : b ≤ W2.heap.size := by have := hB2.size; omega
    have hBb := hB.trans hB2
    clear hW hB hB2 hk2 hK
    gi_wp2_with fail
    refine ⟨trivial, (callsIn_wide.2 (String_any b b _ (quote_byt s) W2 (by rw [List.cons_append] at hW2; exact hW2) hWB2)).mono ?_⟩
    rintro e W3 ⟨rfl, hB3', hk3⟩
    have hK3 := hk3 D _ hK2 rfl
    have hBc := hBb.trans hB3'
    gi_wp2
    refine ⟨by simp, .inl ⟨_, _, rfl, run_takeDeferred hK3, ?_⟩⟩
    refine ⟨_, results_tmp rfl _ _ _, _, rfl, bl_ofl (quote_byt s), ?_⟩
    rw [hb]
    exact hBc.trans (belowK_b (w := w) (by omega) W3 D _ _ (by omega) hK3 rfl rfl)
  case stop =>
    rintro D c pre W _ _ h _
    exact h.elim
theorem Quote_any (s : ByteArray) (hs : s.size ≤ 2000000) (w : World) :
    Calls Tryz.prog 43 #[.string s] w (StrOut w (quoteL (bl s))) :=
  callsIn_wide.1 (Quote_in 3 (by omega) s hs w)
end Go.Proofs.YtdmflofdchmfhaaGreatDoor
