/- seal.Of and the document's, over lists of bytes; rows. -/
import Derived.Test.YtoodchnjikkkkaaSWalk
namespace Go.Proofs.Ytoodchnjikkkkaa
open Go.RowKit

theorem u8_info : (Try.prog.info? 5).map (fun i => (i.zero, i.size, i.bytes)) = some (some (.int .u8 0), 1, 1) := by kernel_rfl

/-- Lists of bytes, as the cells of a slice of slices. -/
def Lists (w : World) (B : Nat) (vs : List Value) (ls : List (List Int)) : Prop :=
  vs.length = ls.length ∧ ∀ (j : Nat) (l : List Int), ls[j]? = some l → ∃ (A : Option Addr) (c : Nat), vs[j]? = some (Value.slice A l.length c) ∧ Row w B A l.length (ints .u8 l)
theorem Lists.below {w w' : World} {B : Nat} {vs : List Value} {ls : List (List Int)} (h : Lists w B vs ls) (hb : Below B w w') : Lists w' B vs ls :=
  ⟨h.1, fun j l hj => by
    obtain ⟨A, c, h1, h2⟩ := h.2 j l hj
    exact ⟨A, c, h1, h2.below hb⟩⟩
theorem Lists.alloc {w : World} {B : Nat} {vs : List Value} {ls : List (List Int)} (h : Lists w B vs ls) (hB : B ≤ w.heap.size) (o : Obj) : Lists (w.alloc o) B vs ls :=
  ⟨h.1, fun j l hj => by
    obtain ⟨A, c, h1, h2⟩ := h.2 j l hj
    exact ⟨A, c, h1, h2.alloc hB o⟩⟩
theorem Lists.nil (w : World) (B : Nat) : Lists w B [] [] := ⟨rfl, fun j l hj => by simp at hj⟩
theorem Lists.cons {w : World} {B : Nat} {vs : List Value} {ls : List (List Int)} {A : Option Addr} {c n : Nat} {l : List Int} (hr : Row w B A n (ints .u8 l)) (h : Lists w B vs ls) : Lists w B (Value.slice A n c :: vs) (l :: ls) := by
  have hn : l.length = n := by simpa [ints] using hr.1
  subst hn
  refine ⟨by simp [h.1], fun j m hj => ?_⟩
  cases j with
  | zero =>
    simp only [List.getElem?_cons_zero, Option.some.injEq] at hj
    subst hj
    exact ⟨A, c, rfl, hr⟩
  | succ j => exact h.2 j m hj
/-- Values written out in the text, just laid. -/
theorem Row.lits (w : World) (vs : List Value) (e : TypeId) : Row (w.alloc (.cells vs.toArray e)) (w.heap.size + 1) (some ⟨w.heap.size, 0, none⟩) vs.length vs := by
  refine ⟨rfl, fun _ => ⟨w.heap.size, 0, rfl, by omega, fun j hj => ?_⟩⟩
  rw [World.cell?_alloc_at _ _ _ _ (by simp)]
  simp

def sumsOf (ls : List (List Int)) : Nat := sumOf 0 ls.flatten
def U8s (ls : List (List Int)) : Prop := ∀ l ∈ ls, U8 l
theorem U8s.flat {ls : List (List Int)} (h : U8s ls) : U8 ls.flatten := by
  intro x hx
  obtain ⟨l, hl, hxl⟩ := List.mem_flatten.1 hx
  exact h l hl x hxl
theorem U8s.take {ls : List (List Int)} (h : U8s ls) (k : Nat) : U8s (ls.take k) := fun l hl => h l (List.mem_of_mem_take hl)
theorem flat_take {ls : List (List Int)} {k : Nat} {l : List Int} (h : ls[k]? = some l) : (ls.take (k + 1)).flatten = (ls.take k).flatten ++ l := by
  rw [List.take_add_one, h]
  simp
theorem sums_next {ls : List (List Int)} {k : Nat} {l : List Int} (h : ls[k]? = some l) : sumsOf (ls.take (k + 1)) = sumOf (sumsOf (ls.take k)) l := by
  unfold sumsOf
  rw [flat_take h, sumOf_app]

set_option maxRecDepth 100000 in
set_option maxHeartbeats 1000000 in
theorem Of_eq (A : Option Addr) (c B B' : Nat) (vs : List Value) (ls : List (List Int)) (w : World) (hr : Row w B A vs.length vs) (hl : Lists w B' vs ls) (hu : U8s ls)
    (hn : vs.length ≤ 9223372036854775807) (hm : ∀ l ∈ ls, l.length ≤ 9223372036854775807) :
    Calls Try.prog 11 #[.slice A vs.length c] w fun e w' => e = .returned (.int .u32 ((sumsOf ls : Nat) : Int)) ∧ w = w' := by
  have HR := Lib.hid hr
  have HL := Lib.hid hl
  have HU := Lib.hid hu
  have HM := Lib.hid hm
  clear hr hl hu hm
  go_enter Try.func11, Try.ntmps11
  go_wp2
  go_loopw [3, 8] (fun r i wr => ∃ k : Nat, k ≤ vs.length ∧ i = .int .i64 k ∧ r = .int .u32 ((sumsOf (ls.take k) : Nat) : Int) ∧ w = wr) (fun _ i _ => vs.length - (intOf i).toNat)
  case atStart => exact ⟨0, by omega, rfl, by simp [sumsOf, sumOf_nil], rfl⟩
  case round =>
    obtain ⟨k, hk, rfl, rfl, rfl⟩ := hrel
    by_cases hlt : k < vs.length
    · have hkl : k < ls.length := by have := HL.out.1; omega
      obtain ⟨l, hl⟩ : ∃ l, ls[k]? = some l := ⟨_, List.getElem?_eq_getElem hkl⟩
      obtain ⟨A', c', hv, hrow⟩ := HL.out.2 k l hl
      have hml : l ∈ ls := List.mem_of_getElem? hl
      have hll := HM.out l hml
      have HUL := Lib.hid (HU.out l hml)
      have HN := Lib.hid (sums_next hl)
      have HRow := Lib.hid hrow
      obtain ⟨b, off, rfl, hbB, hc⟩ := HR.out.2 (by omega)
      have hcell := (hc k hlt).trans hv
      have hsl : sumsOf (ls.take k) < 4294967296 := sumOf_lt (HU.out.take k).flat (by omega)
      generalize sumsOf (ls.take k) = s at *
      have hlt' : (k : Int) < (vs.length : Int) := by omega
      clear hc hv hrow hl
      go_wp2_with fail
      refine (On_eq s A' c' B' l _ HRow.out HUL.out hsl hll).mono ?_
      rintro e w1 ⟨rfl, rfl⟩
      go_wp2
      exact ⟨⟨k + 1, by omega, by go_num, by rw [HN.out], trivial⟩, by simp [intOf]; omega⟩
    · obtain rfl : k = vs.length := by omega
      have hall : ls.take vs.length = ls := by rw [List.take_of_length_le (by have := HL.out.1; omega)]
      rw [hall]
      clear hall
      go_wp2
      go_ret
      exact ⟨rfl, rfl⟩
set_option maxRecDepth 100000 in
set_option maxHeartbeats 1000000 in
theorem rOf_eq (A : Option Addr) (c B B' : Nat) (vs : List Value) (ls : List (List Int)) (w : World) (hr : Row w B A vs.length vs) (hl : Lists w B' vs ls) (hu : U8s ls)
    (hn : vs.length ≤ 9223372036854775807) (hm : ∀ l ∈ ls, l.length ≤ 9223372036854775807) :
    Calls Try.prog 12 #[.slice A vs.length c] w fun e w' => e = .returned (.int .u32 ((sumsOf ls : Nat) : Int)) ∧ w = w' := by
  have HR := Lib.hid hr
  have HL := Lib.hid hl
  have HU := Lib.hid hu
  have HM := Lib.hid hm
  clear hr hl hu hm
  go_enter Try.func12, Try.ntmps12
  go_wp2
  go_loopw [3, 4] (fun r i wr => ∃ k : Nat, k ≤ vs.length ∧ i = .int .i64 k ∧ r = .int .u32 ((sumsOf (ls.take k) : Nat) : Int) ∧ w = wr) (fun _ i _ => vs.length - (intOf i).toNat)
  case atStart => exact ⟨0, by omega, rfl, by simp [sumsOf, sumOf_nil], rfl⟩
  case round =>
    obtain ⟨k, hk, rfl, rfl, rfl⟩ := hrel
    by_cases hlt : k < vs.length
    · have hkl : k < ls.length := by have := HL.out.1; omega
      obtain ⟨l, hl⟩ : ∃ l, ls[k]? = some l := ⟨_, List.getElem?_eq_getElem hkl⟩
      obtain ⟨A', c', hv, hrow⟩ := HL.out.2 k l hl
      have hml : l ∈ ls := List.mem_of_getElem? hl
      have hll := HM.out l hml
      have HUL := Lib.hid (HU.out l hml)
      have HN := Lib.hid (sums_next hl)
      have HRow := Lib.hid hrow
      obtain ⟨b, off, rfl, hbB, hc⟩ := HR.out.2 (by omega)
      have hcell := (hc k hlt).trans hv
      have hsl : sumsOf (ls.take k) < 4294967296 := sumOf_lt (HU.out.take k).flat (by omega)
      generalize sumsOf (ls.take k) = s at *
      have hlt' : (k : Int) < (vs.length : Int) := by omega
      clear hc hv hrow hl
      go_wp2_with fail
      refine (rOn_eq s A' c' B' l _ HRow.out HUL.out hsl hll).mono ?_
      rintro e w1 ⟨rfl, rfl⟩
      go_wp2
      exact ⟨⟨k + 1, by omega, by go_num, by rw [HN.out], trivial⟩, by simp [intOf]; omega⟩
    · obtain rfl : k = vs.length := by omega
      have hall : ls.take vs.length = ls := by rw [List.take_of_length_le (by have := HL.out.1; omega)]
      rw [hall]
      clear hall
      go_wp2
      go_ret
      exact ⟨rfl, rfl⟩

theorem Of_any (A : Option Addr) (c B B' : Nat) (vs : List Value) (ls : List (List Int)) (w : World) (hr : Row w B A vs.length vs) (hl : Lists w B' vs ls) (hu : U8s ls) (_hB : B ≤ w.heap.size) (_hB' : B' ≤ w.heap.size)
    (hn : vs.length ≤ 9223372036854775807) (hm : ∀ l ∈ ls, l.length ≤ 9223372036854775807) :
    Calls Try.prog 11 #[.slice A vs.length c] w fun e w' => e = .returned (.int .u32 ((sumsOf ls : Nat) : Int)) ∧ Below w.heap.size w w' := by
  refine (Of_eq A c B B' vs ls w hr hl hu hn hm).mono ?_
  rintro e w' ⟨rfl, rfl⟩
  exact ⟨rfl, Below.refl _ _⟩
theorem rOf_any (A : Option Addr) (c B B' : Nat) (vs : List Value) (ls : List (List Int)) (w : World) (hr : Row w B A vs.length vs) (hl : Lists w B' vs ls) (hu : U8s ls) (_hB : B ≤ w.heap.size) (_hB' : B' ≤ w.heap.size)
    (hn : vs.length ≤ 9223372036854775807) (hm : ∀ l ∈ ls, l.length ≤ 9223372036854775807) :
    Calls Try.prog 12 #[.slice A vs.length c] w fun e w' => e = .returned (.int .u32 ((sumsOf ls : Nat) : Int)) ∧ Below w.heap.size w w' := by
  refine (rOf_eq A c B B' vs ls w hr hl hu hn hm).mono ?_
  rintro e w' ⟨rfl, rfl⟩
  exact ⟨rfl, Below.refl _ _⟩
def Fresh (w : World) (l : List Int) (e : Ending) (w' : World) : Prop :=
  ∃ A c, e = .returned (.slice A l.length c) ∧ w'.ownsRow w.heap.size 5 1 (.slice A l.length c) l.length (ints .u8 l) ∧ Below w.heap.size w w'
theorem own_slice {w : World} {base n : Nat} {e : TypeId} {v : Value} {xs : List Value} (h : w.ownsRow base e 1 v n xs) : ∃ A c, v = .slice A n c := by
  rcases h.2 with ⟨hv, hn⟩ | ⟨g, cap, cur, hv, _⟩
  · exact ⟨none, 0, by rw [hv, hn]⟩
  · exact ⟨_, _, hv⟩
theorem made8 (N : Nat) : (madeCells #[.int .u8 0] N).toList = ints .u8 ([] ++ List.replicate N 0) := by
  rw [toList_madeCells_one]; simp [ints]

theorem row_int (s : Nat) : rowI s = [(s : Int) % 256, (s : Int) / 256 % 256, (s : Int) / 65536 % 256, (s : Int) / 16777216 % 256] := by
  simp [rowI, row4, castI]
set_option maxRecDepth 100000 in
set_option maxHeartbeats 1000000 in
theorem Row_any (s : Nat) (w : World) (hs : s < 4294967296) :
    Calls Try.prog 16 #[.int .u32 s] w (Fresh w (rowI s)) := by
  obtain ⟨i0, hi, hz0, hz1, hz2⟩ := info_parts u8_info
  have HI := Lib.hid (row_int s)
  have hs0 : (0:Int) ≤ s := by omega
  go_enter Try.func16, Try.ntmps16
  go_wp2_with (refine wpList_make_full _ rfl (.const (.int .i64 4)) (.const (.int .i64 4)) 24 rfl w.heap.size 5 i0 (.int .u8 0) 1 Try.underlying24 hi hz0 hz1 .i64 .i64 _ _ 4 rfl rfl rfl rfl (by rw [hz2]; omega) (by unfold maxLen; omega) (Nat.le_refl _) ?_)
  intro w6 hown hg6
  rw [made8] at hown
  have hb6 : Below w.heap.size w w6 := (Below.refl _ _).grown hg6 (Nat.le_refl _) (by simp)
  obtain ⟨g, hg⟩ : ∃ g, g = w.heap.size := ⟨_, rfl⟩
  have HG := Lib.hid hg
  rw [← hg] at hown hb6 ⊢
  clear hg hg6
  go_wp2
  go_loopw [8] (fun i wr => ∃ (k : Nat), k ≤ 4 ∧ i = .int .i64 k ∧
      wr.ownsRow g 5 1 (.slice (some ⟨g, 0, none⟩) 4 4) 4 (ints .u8 ((rowI s).take k ++ List.replicate (4 - k) 0)) ∧ Below g w wr) (fun i _ => 4 - (intOf i).toNat)
  case atStart => exact ⟨0, by omega, rfl, hown, hb6⟩
  case round =>
    obtain ⟨k, hk, rfl, hown, hb⟩ := hrel
    rename World => ws
    rw [HI.out] at hown ⊢
    rcases (show k = 0 ∨ k = 1 ∨ k = 2 ∨ k = 3 ∨ k = 4 by omega) with rfl | rfl | rfl | rfl | rfl
    · have hc0 : ws.cell? ⟨g, 0, none⟩ = some (.int .u8 0) := hown.cellAt 0 (by omega)
      have hfz := hown.frozenAt 0
      have HOwn := Lib.hid hown
      clear hown
      go_wp2
      refine ⟨⟨1, by omega, by go_num, ?_, hb.grown (row := some g) (HOwn.out.stored 0 (.int .u8 ((s : Int) % 256))).2 (by have h1 := HG.out; have h2 := hb.size; omega) (by simp)⟩, by simp [intOf]⟩
      have := (HOwn.out.stored 0 (.int .u8 ((s : Int) % 256))).1
      simpa [ints, List.replicate] using this
    · have hc0 : ws.cell? ⟨g, 1, none⟩ = some (.int .u8 0) := hown.cellAt 1 (by omega)
      have hfz := hown.frozenAt 1
      have HOwn := Lib.hid hown
      clear hown
      go_wp2
      refine ⟨⟨2, by omega, by go_num, ?_, hb.grown (row := some g) (HOwn.out.stored 1 (.int .u8 ((s : Int) / 256 % 256))).2 (by have h1 := HG.out; have h2 := hb.size; omega) (by simp)⟩, by simp [intOf]⟩
      have := (HOwn.out.stored 1 (.int .u8 ((s : Int) / 256 % 256))).1
      simpa [ints, List.replicate] using this
    · have hc0 : ws.cell? ⟨g, 2, none⟩ = some (.int .u8 0) := hown.cellAt 2 (by omega)
      have hfz := hown.frozenAt 2
      have HOwn := Lib.hid hown
      clear hown
      go_wp2
      refine ⟨⟨3, by omega, by go_num, ?_, hb.grown (row := some g) (HOwn.out.stored 2 (.int .u8 ((s : Int) / 65536 % 256))).2 (by have h1 := HG.out; have h2 := hb.size; omega) (by simp)⟩, by simp [intOf]⟩
      have := (HOwn.out.stored 2 (.int .u8 ((s : Int) / 65536 % 256))).1
      simpa [ints, List.replicate] using this
    · have hc0 : ws.cell? ⟨g, 3, none⟩ = some (.int .u8 0) := hown.cellAt 3 (by omega)
      have hfz := hown.frozenAt 3
      have HOwn := Lib.hid hown
      clear hown
      go_wp2
      refine ⟨⟨4, by omega, by go_num, ?_, hb.grown (row := some g) (HOwn.out.stored 3 (.int .u8 ((s : Int) / 16777216))).2 (by have h1 := HG.out; have h2 := hb.size; omega) (by simp)⟩, by simp [intOf]⟩
      have := (HOwn.out.stored 3 (.int .u8 ((s : Int) / 16777216))).1
      rw [show (s : Int) / 16777216 % 256 = (s : Int) / 16777216 by omega]; simpa [ints, List.replicate] using this
    · go_wp2
      go_ret
      have hg := HG.out
      subst hg
      refine ⟨some ⟨w.heap.size, 0, none⟩, 4, rfl, ?_, hb⟩
      rw [HI.out]
      exact hown
theorem rRow_any (s : Nat) (w : World) (hs : s < 4294967296) :
    Calls Try.prog 17 #[.int .u32 s] w (Fresh w (rowI s)) := by
  have hs0 : (0:Int) ≤ s := by omega
  have HI := Lib.hid (row_int s)
  go_enter Try.func17, Try.ntmps17
  go_wp2
  go_ret
  refine ⟨_, 4, rfl, ?_, (Below.refl _ _).alloc (Nat.le_refl _) _⟩
  have h := World.ownsRow_lit (size := 1) (e := 5) w #[Value.int .u8 (s % 256), Value.int .u8 (s / 256 % 256), Value.int .u8 (s / 65536 % 256), Value.int .u8 (s / 16777216)] 4 (Nat.le_refl _) (by decide) rfl
  rw [HI.out, show (s : Int) / 16777216 % 256 = (s : Int) / 16777216 by omega]
  exact h
end Go.Proofs.Ytoodchnjikkkkaa
