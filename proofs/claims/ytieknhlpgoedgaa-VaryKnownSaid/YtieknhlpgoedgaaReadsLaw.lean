/- The law VaryReads, walked. -/
import Derived.Test.YtieknhlpgoedgaaStates
import Derived.Deep.RegionWith
import Derived.StillTailTactics
import Derived.Deep.RegionHeld3
namespace Go.Proofs.Ytieknhlpgoedgaa
open Go.RowKit

/-- From block L on the world b is as a was. -/
def Stays (L : Nat) (a b : World) : Prop := a.heap.size ≤ b.heap.size ∧ ∀ k, L ≤ k → k < a.heap.size → b.heap[k]? = a.heap[k]?
theorem Stays.of_below_only {L g : Nat} {a b : World} (h : Only g a b) (hg : g < L) : Stays L a b :=
  ⟨h.size, fun k hk hk2 => h.block k hk2 (fun e => by injection e; omega)⟩

theorem Row.stays {L B n : Nat} {A : Option Addr} {xs : List Value} {a b : World} (h : Row a B A n xs) (hA : ∀ x, A = some x → L ≤ x.block) (hB : B ≤ a.heap.size) (hs : Stays L a b) : Row b B A n xs :=
  ⟨h.1, fun hn => by
    obtain ⟨b', off, e, hb, hc⟩ := h.2 hn
    have := hA _ e
    exact ⟨b', off, e, hb, fun j hj => (World.cell?_of_block (hs.2 b' this (by omega))).trans (hc j hj)⟩⟩

theorem New_high (A : Option Addr) (c B : Nat) (l : List Int) (w : World) (hr : Row w B A l.length (ints .u8 l)) (hB : B ≤ w.heap.size) (hl : l.length ≤ 150000000000000) (hu : ∀ x ∈ l, 0 ≤ x ∧ x ≤ 255) :
    Calls Try.prog 22 #[.slice A l.length c] w fun e w' => ∃ g, e = .returned (.pointer (some ⟨g, 0, none⟩)) ∧ w.heap.size ≤ g ∧ g < w'.heap.size ∧ Below w.heap.size w w' ∧ ∀ w2, Stays w.heap.size w' w2 → Rd w2 g w'.heap.size l 0 := by
  go_enter Try.func22, Try.ntmps22
  go_wp2_with fail
  refine (Clone_any A c B l w hr hB hl).mono ?_
  rintro e w1 ⟨A1, c1, rfl, hown, hb⟩
  have hc1 := own_cap hown
  go_wp2
  go_ret
  have hlow : ∀ x, A1 = some x → w.heap.size ≤ x.block ∧ x.block < w1.heap.size := fun x e => hown.lt x.block (by rw [e]; rfl)
  have hrow := ((Row.own hown).alloc (Nat.le_refl _) (.cells #[.bool true, .slice A1 l.length c1, .int .i64 0] 51)).wide (B' := w1.heap.size + 1) (by omega)
  refine ⟨w1.heap.size, rfl, hb.size, by simp, hb.alloc hb.size _, fun w2 hs => ?_⟩
  have hsz := hb.size
  have hblk : Blk (w1.alloc (.cells #[.bool true, .slice A1 l.length c1, .int .i64 0] 51)) w1.heap.size 51 [.bool true, .slice A1 l.length c1, .int .i64 0] := Blk.made _ _ [_, _, _]
  refine ⟨A1, c1, (hs.2 _ hsz (by simp)).trans hblk, ?_, fun a e => by have := hlow a e; omega, hl, hc1, hs.1, hu⟩
  have := hrow.stays (fun x e => (hlow x e).1) (by simp) hs
  simpa using this

theorem MNew_high (A : Option Addr) (c B : Nat) (l : List Int) (w : World) (hr : Row w B A l.length (ints .u8 l)) (hB : B ≤ w.heap.size) (hl : l.length ≤ 150000000000000) (hu : ∀ x ∈ l, 0 ≤ x ∧ x ≤ 255) :
    Calls Try.prog 23 #[.slice A l.length c] w fun e w' => ∃ g, e = .returned (.pointer (some ⟨g, 0, none⟩)) ∧ w.heap.size ≤ g ∧ g < w'.heap.size ∧ Below w.heap.size w w' ∧ ∀ w2, Stays w.heap.size w' w2 → Rm w2 g w.heap.size w'.heap.size l 0 := by
  obtain ⟨i0, hi, hz0, hz1, hz2⟩ := info_parts u8_info
  go_enter Try.func23, Try.ntmps23
  go_wp2_with (at_builtin; refine wpList_app _ rfl (.tmp 4) (.tmp 5) 23 rfl w.heap.size 5 i0 (.int .u8 0) 1 Try.underlying23 hi hz0 hz1 hz2 rfl _ 0 [] rfl (World.ownsRow_nil _ _ _ _) _ _ _ _ _ rfl hr (ints_one _ _) (by unfold maxLen; omega) (by omega) (Nat.le_refl _) ?_)
  intro v' w1 hown0 _ hb
  obtain ⟨A1, c1, rfl⟩ := own_slice hown0
  have hc1 := own_cap hown0
  go_wp2
  go_ret
  have hlow : ∀ x, A1 = some x → w.heap.size ≤ x.block ∧ x.block < w1.heap.size := fun x e => hown0.lt x.block (by rw [e]; rfl)
  have hrow := ((Row.own hown0).alloc (Nat.le_refl _) (.cells #[.slice A1 l.length c1, .int .i64 0] 45)).wide (B' := w1.heap.size + 1) (by omega)
  refine ⟨w1.heap.size, rfl, hb.size, by simp, hb.alloc hb.size _, fun w2 hs => ?_⟩
  have hsz := hb.size
  have hblk : Blk (w1.alloc (.cells #[.slice A1 l.length c1, .int .i64 0] 45)) w1.heap.size 45 [.slice A1 l.length c1, .int .i64 0] := Blk.made _ _ [_, _]
  refine ⟨A1, c1, (hs.2 _ hsz (by simp)).trans hblk, ?_, fun a e => by have := hlow a e; exact ⟨by omega, this.1⟩, hl, hc1, hs.1, hu⟩
  have := hrow.stays (fun x e => (hlow x e).1) (by simp) hs
  simpa using this

theorem tmod3 {i : Int} (h : i < 0) : i.tmod 3 = -((-i) % 3) := by
  obtain ⟨m, rfl⟩ : ∃ m : Int, i = -m := ⟨-i, by omega⟩
  rw [Int.neg_tmod, Int.tmod_eq_emod_of_nonneg (by omega)]
  simp

theorem Bring_three (i : Int) (w : World) (h1 : -9223372036854775808 ≤ i) (h2 : i ≤ 9223372036854775807) :
    Calls Try.prog 24 #[.int .i64 i, .int .i64 3] w fun e w' => e = .returned (.int .i64 (i % 3)) ∧ w = w' := by
  by_cases h0 : 0 ≤ i
  · clear h1 h2
    go_enter Try.func24, Try.ntmps24
    go_wp2
    go_ret
    exact ⟨rfl, rfl⟩
  · have ht := tmod3 (i := i) (by omega)
    by_cases hz : (-i) % 3 = 0
    · have e : Hid (i % 3 = 0) := by unfold Hid; omega
      rw [hz] at ht
      have ht' : i.tmod 3 = 0 := by simpa using ht
      clear ht hz h1 h2 h0
      rw [e.out]
      go_enter Try.func24, Try.ntmps24
      go_wp2
      go_ret
      exact ⟨rfl, rfl⟩
    · have e : Hid (i % 3 = 3 - (-i) % 3) := by unfold Hid; omega
      have hq1 : 0 < (-i) % 3 := by omega
      have hq2 : (-i) % 3 < 3 := by omega
      clear h1 h2 h0 hz
      rw [e.out]
      generalize (-i) % 3 = q at *
      go_enter Try.func24, Try.ntmps24
      go_wp2
      go_ret
      exact ⟨by
        have e2 : -q + 3 = 3 - q := by omega
        first | rfl | (rw [← e2]; rfl), rfl⟩

/-- The law's copy of the bytes, while it is being spoilt: each cell holds some byte; of what was there only its block may have turned. -/
def Spoil (w : World) (gi n : Nat) (wr : World) : Prop := Only gi w wr ∧ ∀ j, j < n → (∃ y, 0 ≤ y ∧ y ≤ 255 ∧ wr.cell? ⟨gi, j, none⟩ = some (.int .u8 y)) ∧ wr.frozen? ⟨gi, j, none⟩ = false

theorem Spoil.step {w wr : World} {gi n k : Nat} {y : Int} (h : Spoil w gi n wr) (hk : k < n) (h0 : 0 ≤ y) (h1 : y ≤ 255) : Spoil w gi n (wr.setCell ⟨gi, k, none⟩ (.int .u8 y)) := by
  refine ⟨h.1.put k _, fun j hj => ⟨?_, (World.frozen?_setCell _ _ _ _).trans (h.2 j hj).2⟩⟩
  by_cases hjk : j = k
  · subst hjk
    obtain ⟨⟨z, _, _, hz⟩, _⟩ := h.2 j hj
    exact ⟨y, h0, h1, World.cell?_setCell_same _ _ _ hz⟩
  · obtain ⟨⟨z, z0, z1, hz⟩, _⟩ := h.2 j hj
    exact ⟨z, z0, z1, (World.cell?_setCell_other _ _ _ _ (by simp; try omega)).trans hz⟩

def Mid (w w1 w3 : World) (A1 : Option Addr) (n : Nat) (wr : World) : Prop :=
  Stays w1.heap.size w3 wr ∧ Below w.heap.size w wr ∧ (0 < n → ∃ gi, A1 = some ⟨gi, 0, none⟩ ∧ w.heap.size ≤ gi ∧ gi < w1.heap.size ∧ Spoil w3 gi n wr)

theorem Rd.other {w w' : World} {g B m : Nat} {l : List Int} {x : Int} (h : Rd w g B l x) (ho : Only m w w') (hg : g ≠ m) (hB : B ≤ m) : Rd w' g B l x := by
  obtain ⟨A, c, hblk, hrow, hne, h1, h2, h3, h4⟩ := h
  refine ⟨A, c, (ho.block g hblk.lt (fun e => hg (by injection e))).trans hblk, ?_, hne, h1, h2, Nat.le_trans h3 ho.size, h4⟩
  exact ⟨hrow.1, fun hn => by
    obtain ⟨b, off, e, hb, hc⟩ := hrow.2 hn
    exact ⟨b, off, e, hb, fun j hj => (World.cell?_of_block (ho.block b (by omega) (fun e' => by injection e'; omega))).trans (hc j hj)⟩⟩
theorem Rm.other {w w' : World} {m L B g : Nat} {l : List Int} {x : Int} (h : Rm w m L B l x) (ho : Only g w w') (hg : m ≠ g) (hL : g < L) : Rm w' m L B l x := by
  obtain ⟨A, c, hblk, hrow, hne, h1, h2, h3, h4⟩ := h
  refine ⟨A, c, (ho.block m hblk.lt (fun e => hg (by injection e))).trans hblk, ?_, hne, h1, h2, Nat.le_trans h3 ho.size, h4⟩
  exact ⟨hrow.1, fun hn => by
    obtain ⟨b, off, e, hb, hc⟩ := hrow.2 hn
    have hlb : L ≤ b := (hne _ e).2
    exact ⟨b, off, e, hb, fun j hj => (World.cell?_of_block (ho.block b (by omega) (fun e' => by injection e'; omega))).trans (hc j hj)⟩⟩

theorem own_open {w : World} {base n c : Nat} {e : TypeId} {A : Option Addr} {xs : List Value} (h : w.ownsRow base e 1 (.slice A n c) n xs) (hn : 0 < n) :
    ∃ (gi : Nat) (cur : List Value), A = some ⟨gi, 0, none⟩ ∧ base ≤ gi ∧ Blk w gi e cur ∧ cur.take n = xs ∧ n ≤ cur.length := by
  rcases h.2 with ⟨_, h0⟩ | ⟨g, cap, cur, hv, hb, hg, h1, _, h3, h4⟩
  · omega
  · injection hv with hA _ hc
    exact ⟨g, cur.toList, hA, hb, hg, by simpa using h4, by simp; omega⟩

theorem Mid.start {w w1 w3 : World} {A1 : Option Addr} {c1 : Nat} {l : List Int} (o1 : w1.ownsRow w.heap.size 5 1 (.slice A1 l.length c1) l.length (ints .u8 l)) (hu : ∀ x ∈ l, 0 ≤ x ∧ x ≤ 255)
    (b3 : Below w.heap.size w w3) (k3 : Below w1.heap.size w1 w3) : Mid w w1 w3 A1 l.length w3 := by
  refine ⟨⟨Nat.le_refl _, fun _ _ _ => rfl⟩, b3, fun hn => ?_⟩
  obtain ⟨gi, cur, hA, hb, hblk, ht, hl⟩ := own_open o1 hn
  have hb3 := hblk.on k3
  refine ⟨gi, hA, hb, hblk.lt, Only.refl _ _, fun j hj => ⟨?_, hb3.frozen j⟩⟩
  obtain ⟨z, hz, _, _, hzm⟩ := ints_at .u8 l j hj
  have := hu z hzm
  refine ⟨z, this.1, this.2, ?_⟩
  rw [hb3.cell j, ← hz, ← ht, List.getElem?_take, if_pos hj]

theorem Mid.step {w w1 w3 wr : World} {n k gi : Nat} {y : Int} (h : Mid w w1 w3 (some ⟨gi, 0, none⟩) n wr) (hk : k < n) (h0 : 0 ≤ y) (h1 : y ≤ 255) : Mid w w1 w3 (some ⟨gi, 0, none⟩) n (wr.setCell ⟨gi, k, none⟩ (.int .u8 y)) := by
  obtain ⟨_, hb, hs⟩ := h
  obtain ⟨g', e, hgl, hgh, hsp⟩ := hs (by omega)
  injection e with e
  injection e with e _
  subst e
  have hs' := hsp.step hk h0 h1
  exact ⟨Stays.of_below_only hs'.1 hgh, hb.setCell hgl _, fun _ => ⟨gi, rfl, hgl, hgh, hs'⟩⟩

theorem Stays.wide {L L' : Nat} {a b : World} (h : Stays L a b) (hL : L ≤ L') : Stays L' a b := ⟨h.1, fun k hk hk2 => h.2 k (by omega) hk2⟩
theorem Stays.trans' {L : Nat} {a b c : World} (h : Stays L a b) (k : Stays L b c) : Stays L a c :=
  ⟨Nat.le_trans h.1 k.1, fun i hi h2 => (k.2 i hi (Nat.lt_of_lt_of_le h2 h.1)).trans (h.2 i hi h2)⟩

/-- Both readers stand alike. -/
def Two (w : World) (g m B1 B2 : Nat) (wr : World) : Prop :=
  ∃ (l : List Int) (x : Int) (l2 : List Int), Rd wr g B1 l x ∧ Rm wr m B1 B2 l2 x ∧ (x = 0 → l2 = l) ∧ (x ≠ 0 → l = []) ∧ Below w.heap.size w wr

theorem quiet_of_left {P : Program} {f : FuncId} {args : Array Value} {w : World} {n : Nat} {v : Value}
    (h : Calls P f args (w.drewN n) fun e w' => e = .returned v ∧ w.drewN n = w') : Calls P f args (w.drewN n) fun e w'' => e = .returned v ∧ ∃ m, w'' = w.drewN m :=
  h.mono fun _ _ ⟨he, hm⟩ => ⟨he, n, hm.symm⟩

theorem still_of_left {P : Program} {f : FuncId} {args : Array Value} {w : World} {v : Value}
    (h : Calls P f args w fun e w' => e = .returned v ∧ w = w') : Calls P f args w fun e w'' => e = .returned v ∧ w'' = w :=
  h.mono fun _ _ ⟨he, hm⟩ => ⟨he, hm.symm⟩

theorem Err_state (g B : Nat) (l : List Int) (x : Int) (w : World) (h : Rd w g B l x) :
    Calls Try.prog 31 #[.pointer (some ⟨g, 0, none⟩)] w fun e w' => e = .returned (.int .i64 x) ∧ w = w' := by
  obtain ⟨A, c, hblk, _⟩ := h
  exact Err_made g _ x w hblk
theorem Left_state (g B : Nat) (l : List Int) (x : Int) (w : World) (h : Rd w g B l x) (hx : x ≠ 0 → l = []) :
    Calls Try.prog 32 #[.pointer (some ⟨g, 0, none⟩)] w fun e w' => e = .returned (.int .i64 (l.length : Int)) ∧ w = w' := by
  obtain ⟨A, c, hblk, _⟩ := h
  refine Left_made g A _ c x w hblk ?_
  by_cases h0 : x = 0
  · exact .inl h0
  · exact .inr (by rw [hx h0]; rfl)
theorem MLeft_state (g L B : Nat) (l l2 : List Int) (x : Int) (w : World) (h : Rm w g L B l2 x) (h0 : x = 0 → l2 = l) (hx : x ≠ 0 → l = []) :
    Calls Try.prog 33 #[.pointer (some ⟨g, 0, none⟩)] w fun e w' => e = .returned (.int .i64 (l.length : Int)) ∧ w = w' := by
  have := MLeft g L B l2 x w h
  by_cases hx0 : x = 0
  · rw [if_pos hx0, h0 hx0] at this
    exact this
  · rw [if_neg hx0] at this
    rw [hx hx0]
    exact this
theorem Rm.errCell {w : World} {g L B : Nat} {l : List Int} {x : Int} (h : Rm w g L B l x) : w.cell? ⟨g, 1, none⟩ = some (.int .i64 x) := by
  obtain ⟨A, c, hblk, _⟩ := h
  exact hblk.cell 1

set_option maxRecDepth 100000 in
set_option maxHeartbeats 1000000 in
theorem Reads_try (A : Option Addr) (l : List Int) (c : Nat) (A' : Option Addr) (q : List Int) (c' : Nat) (w : World)
    (hr : Row w w.heap.size A l.length (ints .u8 l)) (hl : l.length ≤ 140737488351232) (hu : ∀ x ∈ l, 0 ≤ x ∧ x ≤ 255)
    (hr' : Row w w.heap.size A' q.length (ints .i64 q)) (hl' : q.length * 8 ≤ 140737488351232) (hu' : ∀ x ∈ q, -9223372036854775808 ≤ x ∧ x ≤ 9223372036854775807) :
    Calls Try.prog 4 #[.slice A l.length c, .slice A' q.length c'] w fun e w' => e = .returned (.bool true) ∧ Below w.heap.size w w' := by
  have HU := Lib.hid hu
  have HU' := Lib.hid hu'
  clear hu hu'
  go_enter Try.func4, Try.ntmps4
  go_wp2_with fail
  refine (CopyBytes_any A c _ l w hr (Nat.le_refl _) hl).mono ?_
  rintro e w1 ⟨A1, c1, rfl, o1, b1⟩
  have r1 := Row.own o1
  go_wp2_with fail
  refine (New_high _ _ _ l w1 r1 (Nat.le_refl _) (by omega) HU.out).mono ?_
  rintro e w2 ⟨g, rfl, hg1, hg2, k2, hR⟩
  have rr2 := (hr.on b1).on k2
  go_wp2_with fail
  refine (MNew_high _ _ _ l w2 rr2 (Nat.le_refl _) (by omega) HU.out).mono ?_
  rintro e w3 ⟨m, rfl, hm1, hm2, k3, hM⟩
  have hm0 : Mid w w1 w3 A1 l.length w3 := Mid.start o1 HU.out (next (next b1 k2) k3) (k2.trans (k3.mono k2.size))
  have s12 : Stays w1.heap.size w2 w3 := ⟨k3.size, fun k _ hk => k3.block k hk⟩
  have b03 := next (next b1 k2) k3
  have hz1 := k2.size
  have hr3 := ((hr'.on b1).on k2).on k3
  have HM0 := Lib.hid hm0
  have HRR := Lib.hid hR
  have HMM := Lib.hid hM
  clear hm0 hR hM rr2 o1 r1
  go_wp2
  go_loopw [8] (fun i wr => ∃ k : Nat, k ≤ l.length ∧ i = .int .i64 k ∧ Hid (Mid w w1 w3 A1 l.length wr)) (fun i _ => l.length - (intOf i).toNat)
  case atStart => exact ⟨0, Nat.zero_le _, rfl, HM0⟩
  case round =>
    obtain ⟨k, hk, rfl, HM⟩ := hrel
    by_cases hlt : k < l.length
    · obtain ⟨gi, rfl, hgl, hgh, hsp⟩ := HM.out.2.2 (by omega)
      obtain ⟨⟨y, hy0, hy1, hcell⟩, hfz⟩ := hsp.2 k hlt
      clear hsp
      go_wp2
      go_roundw
      case rel => exact ⟨k + 1, by omega, by go_num, Lib.hid (HM.out.step hlt (by omega) (by omega))⟩
      case measure => simp [intOf]; omega
    · have hst := HM.out.1
      have h2w : Two w g m w2.heap.size w3.heap.size wr :=
        ⟨l, 0, l, HRR.out wr (s12.trans' hst), HMM.out wr (hst.wide hz1), fun _ => rfl, fun h => absurd rfl h, HM.out.2.1⟩
      have hgm : g ≠ m := by omega
      have hgw : w.heap.size ≤ g := by have := b1.size; omega
      have hmw : w.heap.size ≤ m := by have := b1.size; omega
      have H2 := Lib.hid h2w
      have HQR := Lib.hid hr'
      clear HM HRR HMM hst h2w s12 hr3 HM0 b03 hr hr' HU hl k2 k3 b1
      go_wp2
      go_loopw [9] (fun i ws => ∃ k : Nat, k ≤ q.length ∧ k ≤ 50 ∧ i = .int .i64 k ∧ Hid (Two w g m w2.heap.size w3.heap.size ws)) (fun i _ => q.length - (intOf i).toNat)
      case atStart => exact ⟨0, Nat.zero_le _, by omega, rfl, H2⟩
      case round =>
        obtain ⟨j, hj, hj50, rfl, HT⟩ := hrel
        rename World => ws
        obtain ⟨l1, x, l2, hrd, hrm, hx0, hxe, hbw⟩ := HT.out
        have HX0 := Lib.hid hx0
        have HXE := Lib.hid hxe
        clear hx0 hxe HT
        by_cases hgo : j < q.length ∧ j < 50
        · obtain ⟨hjq, hj5⟩ := hgo
          obtain ⟨bq, oq, rfl, hbq, hcq⟩ := (HQR.out.below hbw).2 (by omega)
          obtain ⟨z, hzc, _, _, hzm⟩ := ints_at .i64 q j hjq
          have hcell := (hcq j hjq).trans hzc
          have hzb := HU'.out z hzm
          clear hcq hzc
          go_wp2_with fail
          refine (Bring_three z _ hzb.1 hzb.2).mono ?_
          rintro e w' ⟨rfl, rfl⟩
          by_cases h0 : z % 3 = 0
          · have d0 : (z % 3 == 0) = true := by simpa using h0
            clear h0
            go_wp2_with fail
            refine (RU_st g _ l1 x _ hrd).mono ?_
            rintro e w4 ⟨rfl, hrd4, ho4⟩
            have hrm4 := hrm.other ho4 (Ne.symm hgm) hg2
            have hb4 := ho4.below hbw hgw hbw.size
            go_wp2_with fail
            refine (MU_st m _ _ l1 l2 x _ hrm4 HX0.out).mono ?_
            rintro e w5 ⟨l3, rfl, hrm5, h03, ho5⟩
            have hrd5 := hrd4.other ho5 hgm hm1
            have hb5 := ho5.below hb4 hmw hb4.size
            have herr := hrm5.errCell
            have H03 := Lib.hid h03
            have HE := Lib.hid (uL_err HXE.out)
            clear h03 hrm4 hrd4 hb4 ho4 ho5
            go_wp2_with fail
            go_quiet ((first | (go_at_call 31; exact quiet_of_left (Err_state g _ _ _ _ (by exact hrd5))) | (go_at_call 32; exact quiet_of_left (Left_state g _ _ _ _ (by exact hrd5) HE.out)) | (go_at_call 33; exact quiet_of_left (MLeft_state m _ _ _ _ _ _ (by exact hrm5) H03.out HE.out))))
            go_wp2
            go_roundw
            case rel => exact ⟨j + 1, by omega, by omega, by go_num, Lib.hid ⟨_, _, _, hrd5, hrm5, H03.out, HE.out, ⟨hb5.os, hb5.tape, hb5.output, hb5.size, hb5.block⟩⟩⟩
            case measure => simp [intOf]; omega
          · by_cases h1 : z % 3 = 1
            · have d0 : (z % 3 == 0) = false := by simpa using h0
              have d1 : (z % 3 == 1) = true := by simpa using h1
              clear h0 h1
              go_wp2_with fail
              refine (RS_st g _ l1 x _ hrd).mono ?_
              rintro e w4 ⟨rfl, hrd4, ho4⟩
              have hrm4 := hrm.other ho4 (Ne.symm hgm) hg2
              have hb4 := ho4.below hbw hgw hbw.size
              go_wp2_with fail
              refine (MS_st m _ _ l1 l2 x _ hrm4 HX0.out).mono ?_
              rintro e w5 ⟨l3, rfl, hrm5, h03, ho5⟩
              have hrd5 := hrd4.other ho5 hgm hm1
              have hb5 := ho5.below hb4 hmw hb4.size
              have herr := hrm5.errCell
              have H03 := Lib.hid h03
              have HE := Lib.hid (uL_err HXE.out)
              clear h03 hrm4 hrd4 hb4 ho4 ho5
              go_wp2_with fail
              go_quiet ((first | (go_at_call 31; exact quiet_of_left (Err_state g _ _ _ _ (by exact hrd5))) | (go_at_call 32; exact quiet_of_left (Left_state g _ _ _ _ (by exact hrd5) HE.out)) | (go_at_call 33; exact quiet_of_left (MLeft_state m _ _ _ _ _ _ (by exact hrm5) H03.out HE.out))))
              go_wp2
              go_roundw
              case rel => exact ⟨j + 1, by omega, by omega, by go_num, Lib.hid ⟨_, _, _, hrd5, hrm5, H03.out, HE.out, ⟨hb5.os, hb5.tape, hb5.output, hb5.size, hb5.block⟩⟩⟩
              case measure => simp [intOf]; omega
            · have d0 : (z % 3 == 0) = false := by simpa using h0
              have d1 : (z % 3 == 1) = false := by simpa using h1
              clear h0 h1
              have hbqg : bq ≠ g := by omega
              have hbqm : bq ≠ m := by omega
              have hbqw : bq < w.heap.size := hbq
              have hbqs : bq < ws.heap.size := by have := hbw.size; omega
              have hj0 : (0 : Int) ≤ (j : Int) := by omega
              have hj1 : (j : Int) < (q.length : Int) := by omega
              go_wp2_with fail
              go_region_held3 (fun w' => w'.cell? ⟨bq, oq + j, none⟩ = some (.int .i64 z))
                (first | exact hcell | exact hcell4 | exact hcell5 | go_keep)
                ((first
                  | (go_at_call 29
                     refine (RT_st g _ _ l1 x _ (by exact hrd)).mono ?_
                     rintro e w4 ⟨rfl, hrd4, ho4⟩
                     have hrm4 := Rm.other (by exact hrm) ho4 (Ne.symm hgm) hg2
                     have hb4 : Below w.heap.size w w4 := Only.below ho4 (by exact ⟨hbw.os, hbw.tape, hbw.output, hbw.size, hbw.block⟩) hgw (by exact hbw.size)
                     have hcell4 : w4.cell? ⟨bq, oq + j, none⟩ = some (.int .i64 z) := (World.cell?_of_block (ho4.block bq hbqs (fun e' => hbqg (by injection e')))).trans hcell)
                  | (go_at_call 30
                     refine (MT_st m _ _ _ l1 l2 x _ (by exact hrm4) HX0.out).mono ?_
                     rintro e w5 ⟨l3, rfl, hrm5, h03, ho5⟩
                     have hrd5 := Rd.other (by exact hrd4) ho5 hgm hm1
                     have hb5 : Below w.heap.size w w5 := Only.below ho5 (by exact ⟨hb4.os, hb4.tape, hb4.output, hb4.size, hb4.block⟩) hmw (by exact hb4.size)
                     have hcell5 : w5.cell? ⟨bq, oq + j, none⟩ = some (.int .i64 z) := (World.cell?_of_block (ho5.block bq (by have := hb4.size; exact Nat.lt_of_lt_of_le hbqw this) (fun e' => hbqm (by injection e')))).trans hcell4)))
              have herr := hrm5.errCell
              have H03 := Lib.hid h03
              have HE := Lib.hid (tL_err (most := IntKind.i64.wrap (z.tdiv 3)) HXE.out)
              clear h03 hrm4 hrd4 hb4 ho4 ho5
              go_wp2_with fail
              go_quiet ((first | (go_at_call 31; exact quiet_of_left (Err_state g _ _ _ _ (by exact hrd5))) | (go_at_call 32; exact quiet_of_left (Left_state g _ _ _ _ (by exact hrd5) HE.out)) | (go_at_call 33; exact quiet_of_left (MLeft_state m _ _ _ _ _ _ (by exact hrm5) H03.out HE.out))))
              go_wp2
              go_roundw
              case rel => exact ⟨j + 1, by omega, by omega, by go_num, Lib.hid ⟨_, _, _, hrd5, hrm5, H03.out, HE.out, ⟨hb5.os, hb5.tape, hb5.output, hb5.size, hb5.block⟩⟩⟩
              case measure => simp [intOf]; omega
        · have herr := hrm.errCell
          have cases2 : (j < q.length ∧ decide ((j : Int) < 50) = false) ∨ decide (j < q.length) = false := by
            by_cases hjq : j < q.length
            · exact .inl ⟨hjq, by simp; omega⟩
            · exact .inr (by simp; omega)
          clear hgo
          rcases cases2 with ⟨hjq, hd⟩ | hd
          all_goals
            go_wp2_with fail
            go_outline
            refine wp_region_still_tail 15 (by kernel_rfl) (by kernel_rfl) ?_
            simp only [List.take_succ_cons, List.take_zero, List.drop_succ_cons, List.drop_zero]
            still_step
            refine wpStill_step (fun K hK => ?_)
            go_simp
            refine ⟨_, still_of_left (Err_state g _ _ _ _ (by exact hrd)), hK _ ?_⟩
            clear hK K
            iterate 7 still_step
            refine wpStill_step (fun K hK => ?_)
            go_simp
            refine ⟨_, still_of_left (Left_state g _ _ _ _ (by exact hrd) HXE.out), hK _ ?_⟩
            clear hK K
            still_step
            refine wpStill_step (fun K hK => ?_)
            go_simp
            refine ⟨_, still_of_left (MLeft_state m _ _ _ _ _ _ (by exact hrm) HX0.out HXE.out), hK _ ?_⟩
            clear hK K
            iterate 3 still_step
            refine wpStill_nil ?_
            change wpList _ _ _ _ _ ws.drew
            have hbd : Below w.heap.size w ws.drew := hbw.drew
            clear hrd hrm HX0 HXE H2 herr hbw
            generalize ws.drew = wt at *
            go_wp2_with fail
            refine (awake_any _).mono ?_
            rintro e w9 ⟨rfl, h9⟩
            go_wp2
            go_ret
            exact ⟨rfl, next hbd h9⟩

theorem Reads_walk (A : Option Addr) (l : List Int) (c : Nat) (A' : Option Addr) (q : List Int) (c' : Nat) (w : World)
    (hr : Row w w.heap.size A l.length (ints .u8 l)) (hc : l.length ≤ c) (hs : c * 1 ≤ 140737488351232) (hu : ∀ x ∈ l, (Lit.int .u8 x).wf = true)
    (hr' : Row w w.heap.size A' q.length (ints .i64 q)) (hc' : q.length ≤ c') (hs' : c' * 8 ≤ 140737488351232) (hu' : ∀ x ∈ q, (Lit.int .i64 x).wf = true) :
    Calls Try.prog 4 #[.slice A l.length c, .slice A' q.length c'] w fun e w' => e = .returned (.bool true) ∧ Below w.heap.size w w' := by
  refine Reads_try A l c A' q c' w hr (by omega) (fun x hx => ?_) hr' (by omega) (fun x hx => ?_)
  · simpa [Lit.wf, IntKind.min, IntKind.max, IntKind.signed, IntKind.bits] using hu x hx
  · have := hu' x hx
    simp only [Lit.wf, IntKind.min, IntKind.max, IntKind.signed, IntKind.bits, Bool.and_eq_true, decide_eq_true_eq, if_true] at this
    omega
end Go.Proofs.Ytieknhlpgoedgaa
