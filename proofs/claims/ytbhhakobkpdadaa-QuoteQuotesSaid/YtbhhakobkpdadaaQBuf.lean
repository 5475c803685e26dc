/- A builder's writes, in this program's closure. -/
import Derived.Test.YtbhhakobkpdadaaQRunes
import Derived.Test.YtbhhakobkpdadaaShelf
import Derived.Lib.Builder
import Derived.Lib.AppendStr
import Derived.Lib.UnsafeStr
import Derived.Laws.Externs
namespace Go.Proofs.Ytbhhakobkpdadaa
open Go.RowKit Go.Shelf

/-- Bytes as cells. -/
def cN (l : List Nat) : List Value := l.map fun x : Nat => .int .u8 (x : Int)
theorem cN_len (l : List Nat) : (cN l).length = l.length := by simp [cN]
theorem cN_app (l m : List Nat) : cN (l ++ m) = cN l ++ cN m := by simp [cN]
theorem cN_str (s : ByteArray) : Lib.strCells s = cN (bl s) := by simp [Lib.strCells, cN, bl, Function.comp_def]
theorem cN_bytes {l : List Nat} (h : Byt l) : cN l = Lib.byteCells (l.map UInt8.ofNat) := by
  simp only [cN, Lib.byteCells, List.map_map]
  refine List.map_congr_left fun x hx => ?_
  have := h x hx
  simp only [Function.comp, UInt8.toNat_ofNat']
  rw [Nat.mod_eq_of_lt (by omega)]
/-- The builder at b holds these bytes. -/
def Bd (B b : Nat) (l : List Nat) (w : World) : Prop := Lib.IsBuilder 51 5 B b (cN l) w
theorem bu_info : (Try.prog.info? 51).map (·.size) = some 2 := by kernel_rfl
theorem bu_lies : liesAt Try.prog Try.prog.depth 51 (2 / Try.prog.cellsOf 51) 0 51 1 = true := by kernel_rfl
theorem u8_info : (Try.prog.info? 5).map (fun i => (i.zero, i.size, i.bytes)) = some (some (.int .u8 0), 1, 1) := by kernel_rfl

theorem row_cells {w : World} {B n : Nat} {e : TypeId} {v : Value} {xs : List Value} (h : w.ownsRow B e 1 v n xs) : ∀ (j : Nat) (o : Obj), v.ownBlock = some j → w.heap[j]? = some o → o.isCells = true := by
  intro j o hj ho
  rcases h.2 with ⟨rfl, _⟩ | ⟨g, cap, cur, rfl, _, hgb, _⟩
  · simp [Value.ownBlock] at hj
  · obtain rfl : g = j := by simpa [Value.ownBlock] using hj
    rw [hgb] at ho; cases ho; rfl
theorem noEscape_run (x : Value) (w : World) : (callFunc 47 #[x]).run Try.prog w = .ok (.value x) w := by
  rw [run_callFunc_extern Try.func47 (by kernel_rfl) (by kernel_rfl) (by kernel_rfl) (e := Extern.AbiNoEscape.same) (by kernel_rfl), Lib.run_noEscape]
  rfl
set_option maxHeartbeats 1000000 in
set_option maxRecDepth 100000 in
theorem copyCheck_any (B b : Nat) (bs : List Value) (w : World) (h : Lib.IsBuilder 51 5 B b bs w) :
    Calls Try.prog 43 #[.pointer (some ⟨b, 0, none⟩)] w fun e w' => e = .returned (.tuple #[]) ∧ Lib.BuilderAt 51 5 B b (.pointer (some ⟨b, 0, none⟩)) bs w' ∧ Below B w w' ∧ KeepsOthers w w' := by
  obtain ⟨j, hj, hjs⟩ := Option.map_eq_some_iff.1 bu_info
  rcases h with h | h
  · have h0 := h.cell0
    have hsh := h.shape
    have hfz := h.frozen0
    have hTo := Lib.run_to_unsafe (P := Try.prog) w ⟨b, 0, none⟩ Try.underlying49 Try.underlying67 hj (by rw [hjs]; decide) hsh (Nat.zero_lt_succ 1)
    have hFr := Lib.run_from_unsafe (P := Try.prog) w ⟨b, 0, none⟩ Try.underlying67 Try.underlying49 hj hsh bu_lies
    have HF : Hid (Lib.BuilderAt 51 5 B b (.pointer (some ⟨b, 0, none⟩)) bs (w.setCell ⟨b, 0, none⟩ (.pointer (some ⟨b, 0, none⟩))) ∧ Below B w (w.setCell ⟨b, 0, none⟩ (.pointer (some ⟨b, 0, none⟩))) ∧ KeepsOthers w (w.setCell ⟨b, 0, none⟩ (.pointer (some ⟨b, 0, none⟩)))) := Lib.hid ⟨h.used _, (Below.refl B w).setCell (p := ⟨b, 0, none⟩) h.1 _, KeepsOthers.setCell _ _ _⟩
    have hNE := noEscape_run
    clear h
    go_enter Try.func43, Try.ntmps43
    go_wp2_with fail
    go_end0
    exact ⟨rfl, HF.out⟩
  · have h0 := h.cell0
    have hq := Lib.run_neq_ptr_same (P := Try.prog) w ⟨b, 0, none⟩ Try.underlying49 hj
    have H := Lib.hid h
    clear h
    go_enter Try.func43, Try.ntmps43
    go_wp2_with fail
    go_end0
    exact ⟨rfl, H.out, Below.refl _ _, KeepsOthers.refl _⟩

set_option maxHeartbeats 2000000 in
set_option maxRecDepth 100000 in
theorem WriteByte_any (B b : Nat) (l : List Nat) (c : Nat) (w : World) (h : Bd B b l w) (hlen : l.length ≤ 1000000) (hBw : B ≤ w.heap.size) :
    Calls Try.prog 34 #[.pointer (some ⟨b, 0, none⟩), .int .u8 (c : Int)] w fun e w' => e = .returned .nilIface ∧ Bd B b (l ++ [c]) w' ∧ Below B w w' ∧ KeepsOthers w w' := by
  obtain ⟨i0, hi, hz0, hz1, hz2⟩ := info_parts u8_info
  have hl := cN_len l
  have HCC := Lib.hid (copyCheck_any B b (cN l) w h)
  go_enter Try.func34, Try.ntmps34
  go_wp2_with fail
  with_reducible refine HCC.out.mono ?_
  rintro e w1 ⟨rfl, ⟨hB, v, hbk, hown, hne⟩, hb1, hk1⟩
  have hs1 := hb1.size
  have c1 : w1.cell? ⟨b, 1, none⟩ = some v := by rw [Lib.cell_of_heap hbk]; rfl
  have hlt : b < w1.heap.size := (Array.getElem?_eq_some_iff.1 hbk).1
  have HN : Hid (∀ j u, [Value.int .u8 (c : Int)][j]? = some u → (w1.alloc (.cells #[.int .u8 (c : Int)] 5)).cell? ((⟨w1.heap.size, 0, none⟩ : Addr).add j) = some u) := Lib.hid (by
    intro j u hj
    have := (Blk.cell (Blk.made w1 5 [Value.int .u8 (c : Int)]) j).trans hj
    match j, hj with
    | 0, _ => exact this
    | j + 1, hj => simp at hj)
  have H1 := Lib.hid (And.intro hbk (And.intro hown hne))
  have H2 := Lib.hid (And.intro hb1 hB)
  have H3 := Lib.hid hk1
  clear hbk hown hne hb1 hB h HCC hk1
  go_wp2_with (at_builtin; refine wpList_append_own _ rfl _ _ 40 rfl B 5 i0 (.int .u8 0) 1 1 Try.underlying40 hi hz0 hz1 hz2 rfl (by decide) _ _ _ rfl (H1.out.2.1.alloc _) ⟨w1.heap.size, 0, none⟩ 1 1 [.int .u8 (c : Int)] rfl rfl HN.out (by simp [Value.oneCell']) (by unfold maxLen; omega) (by omega) (by simp; omega) ?_)
  intro v' w2 hown' hgrow _
  have hb2 : w2.heap[b]? = some (.cells #[.pointer (some ⟨b, 0, none⟩), v] 51 (0, 0)) := by
    rw [hgrow.block b (by simp; omega) (fun e => H1.out.2.2 e.symm)]
    exact (Below.heap_alloc w1 _ b hlt).trans H1.out.1
  have f1 : w2.frozen? ⟨b, 1, none⟩ = false := Lib.frozen_of_heap hb2 1
  have d1 : w2.cell? ⟨b, 1, none⟩ = some v := by rw [Lib.cell_of_heap hb2]; rfl
  obtain ⟨g, cap, rfl⟩ : ∃ g cap, v' = .slice (some ⟨g, 0, none⟩) (l.length + 1) cap := by
    rcases hown'.2 with ⟨_, h0⟩ | ⟨g, cap, cur, hv, _⟩
    · omega
    · exact ⟨g, cap, hv⟩
  have HF : Hid (Bd B b (l ++ [c]) (w2.setCell ⟨b, 1, none⟩ (.slice (some ⟨g, 0, none⟩) (l.length + 1) cap)) ∧ Below B w (w2.setCell ⟨b, 1, none⟩ (.slice (some ⟨g, 0, none⟩) (l.length + 1) cap)) ∧ KeepsOthers w (w2.setCell ⟨b, 1, none⟩ (.slice (some ⟨g, 0, none⟩) (l.length + 1) cap))) := Lib.hid ⟨.inr (Lib.BuilderAt.put (T := 51) (e := 5) H2.out.2 hb2 (bs' := cN (l ++ [c])) (by rw [cN_len, List.length_append, cN_app]; exact hown') (by decide)),
    ((H2.out.1.alloc (by omega) _).grown hgrow (by simp; omega) (fun k hk => (H1.out.2.1.lt k hk).1)).setCell (p := ⟨b, 1, none⟩) H2.out.2 _, ((H3.out.trans (KeepsOthers.alloc _ _)).trans (KeepsOthers.of_grownBy hgrow (row_cells (H1.out.2.1.alloc _)))).trans (KeepsOthers.setCell _ _ _)⟩
  clear hown' hgrow hb2 HN H1 H2 H3
  go_wp2_with fail
  go_ret
  exact ⟨rfl, HF.out⟩

set_option maxHeartbeats 2000000 in
set_option maxRecDepth 100000 in
theorem WriteString_any (B b : Nat) (l : List Nat) (s : ByteArray) (w : World) (h : Bd B b l w) (hlen : l.length ≤ 1000000) (hs : s.size ≤ 1000000) (hBw : B ≤ w.heap.size) :
    Calls Try.prog 35 #[.pointer (some ⟨b, 0, none⟩), .string s] w fun e w' => e = .returned (.tuple #[.int .i64 s.size, .nilIface]) ∧ Bd B b (l ++ bl s) w' ∧ Below B w w' ∧ KeepsOthers w w' := by
  obtain ⟨i0, hi, hz0, hz1, hz2⟩ := info_parts u8_info
  have hl := cN_len l
  have HCC := Lib.hid (copyCheck_any B b (cN l) w h)
  go_enter Try.func35, Try.ntmps35
  go_wp2_with fail
  with_reducible refine HCC.out.mono ?_
  rintro e w1 ⟨rfl, ⟨hB, v, hbk, hown, hne⟩, hb1, hk1⟩
  have hs1 := hb1.size
  have c1 : w1.cell? ⟨b, 1, none⟩ = some v := by rw [Lib.cell_of_heap hbk]; rfl
  have hlt : b < w1.heap.size := (Array.getElem?_eq_some_iff.1 hbk).1
  have H1 := Lib.hid (And.intro hbk (And.intro hown hne))
  have H2 := Lib.hid (And.intro hb1 hB)
  have H3 := Lib.hid hk1
  clear hbk hown hne hb1 hB h HCC hk1
  go_wp2_with (at_builtin; refine Lib.wpList_append_own_string _ rfl _ _ 40 9 rfl B 5 i0 Try.underlying40 Try.underlying9 hi hz0 hz1 hz2 _ _ _ rfl H1.out.2.1 s rfl (by unfold maxLen; omega) (by omega) (by omega) ?_)
  intro v' w2 hown' hgrow _
  have hb2 : w2.heap[b]? = some (.cells #[.pointer (some ⟨b, 0, none⟩), v] 51 (0, 0)) := by
    rw [hgrow.block b hlt (fun e => H1.out.2.2 e.symm)]
    exact H1.out.1
  have f1 : w2.frozen? ⟨b, 1, none⟩ = false := Lib.frozen_of_heap hb2 1
  have d1 : w2.cell? ⟨b, 1, none⟩ = some v := by rw [Lib.cell_of_heap hb2]; rfl
  obtain ⟨ao, n', cap, rfl⟩ : ∃ ao n' cap, v' = .slice ao n' cap := by
    rcases hown'.2 with ⟨hv, _⟩ | ⟨g, cap, cur, hv, _⟩
    · exact ⟨_, _, _, hv⟩
    · exact ⟨_, _, _, hv⟩
  have HF : Hid (Bd B b (l ++ bl s) (w2.setCell ⟨b, 1, none⟩ (.slice ao n' cap)) ∧ Below B w (w2.setCell ⟨b, 1, none⟩ (.slice ao n' cap)) ∧ KeepsOthers w (w2.setCell ⟨b, 1, none⟩ (.slice ao n' cap))) := Lib.hid ⟨.inr (Lib.BuilderAt.put (T := 51) (e := 5) H2.out.2 hb2 (bs' := cN (l ++ bl s)) (by rw [cN_len, List.length_append, cN_app, bl_len, ← cN_str]; exact hown') (by decide)),
    (H2.out.1.grown hgrow (by omega) (fun k hk => (H1.out.2.1.lt k hk).1)).setCell (p := ⟨b, 1, none⟩) H2.out.2 _, (H3.out.trans (KeepsOthers.of_grownBy hgrow (row_cells H1.out.2.1))).trans (KeepsOthers.setCell _ _ _)⟩
  clear hown' hgrow hb2 H1 H2 H3
  go_wp2_with fail
  go_ret2
  exact ⟨rfl, HF.out⟩
theorem String_any (B b : Nat) (l : List Nat) (hb : Byt l) (w : World) (h : Bd B b l w) (hBw : B ≤ w.heap.size) :
    Calls Try.prog 36 #[.pointer (some ⟨b, 0, none⟩)] w fun e w' => e = .returned (.string (ofl l)) ∧ Below B w w' ∧ (∀ (k : Nat) (o : Obj), w.heap[k]? = some o → o.isCells = false → w'.heap[k]? = some o) := by
  unfold Bd at h
  rw [cN_bytes hb] at h
  refine (Try.Builder_String_any_k B b _ w (Lib.IsBuilderF.of h) hBw).mono ?_
  rintro e w' ⟨rfl, _, h2, h3⟩
  refine ⟨rfl, h2, fun k o hk ho => h3 k o hk (fun e => ?_) (fun c fz e => ?_)⟩
  · injection e with e
    subst e
    rcases h with ⟨_, v, hb', _⟩ | ⟨_, v, hb', _⟩ <;> (rw [hb'] at hk; cases hk; cases ho)
  · subst e; cases ho
theorem Bd.new (w : World) : Bd w.heap.size w.heap.size [] (w.alloc (.cells #[.pointer none, .slice none 0 0] 51)) := Lib.fresh_isBuilder _ _ w
end Go.Proofs.Ytbhhakobkpdadaa
