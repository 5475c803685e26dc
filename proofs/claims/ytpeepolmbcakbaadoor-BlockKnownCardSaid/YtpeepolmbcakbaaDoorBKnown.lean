/- BlockKnown, walked. -/
import Derived.Test.YtpeepolmbcakbaaDoorBUnpacksLaw
import Derived.Test.YtpeepolmbcakbaaDoorBTurnedLaw
import Derived.Test.YtpeepolmbcakbaaDoorBBackLaw
namespace Go.Proofs.YtpeepolmbcakbaaDoor
open Go.RowKit

def endL : List Int := [-9007199254740992, -9007199254740991, -1, 0, 1, 9007199254740991, 9007199254740992, -9223372036854775808, 9223372036854775807]
def ES (x y : Int) : List (Int × ByteArray) := [(x, ⟨#[120]⟩), (y, ⟨#[121, 121]⟩)]
theorem es_cells (x y : Int) : (ecE (ES x y)).toArray = #[.int .i64 x, .string ⟨#[120]⟩, .int .i64 y, .string ⟨#[121, 121]⟩] := by
  simp [ecE, ES, ec, List.range_succ]
theorem wf64k {k : Nat} (h : k ≤ 9) : (Lit.int .i64 (k : Int)).wf = true := by
  simp [Lit.wf, IntKind.min, IntKind.max, IntKind.bits, IntKind.signed]
  omega
theorem wf32k {k : Nat} (h : k ≤ 9) : (Lit.int .u32 (k : Int)).wf = true := by
  simp [Lit.wf, IntKind.min, IntKind.max, IntKind.bits, IntKind.signed]
  omega
theorem RowE.takeK {w : World} {B n : Nat} {A : Option Addr} {es : List (Int × ByteArray)} (h : RowE w B A n es) {k : Nat} (hk : k ≤ n) : RowE w B A k (es.take k) := by
  refine ⟨by rw [List.length_take, h.1]; omega, fun h0 => ?_⟩
  obtain ⟨b, off, e, hb, hc⟩ := h.2 (by omega)
  refine ⟨b, off, e, hb, fun j hj => ?_⟩
  rw [show (es.take k).getD j (0, ByteArray.empty) = es.getD j (0, ByteArray.empty) by simp [List.getD_eq_getElem?_getD, List.getElem?_take, hj]]
  exact hc j (by omega)
theorem Packs_n (A : Option Addr) (n c : Nat) (es : List (Int × ByteArray)) (w : World) (hr : RowE w w.heap.size A n es) (hc : n ≤ c) (hn : n ≤ 40) :
    Calls Tryd.prog 3 #[.slice A n c] w fun e w' => e = .returned (.bool true) ∧ Below w.heap.size w w' := by
  obtain rfl := hr.1
  exact BlockPacks_walk A es c w hr hc (by omega)
theorem Back_n (A : Option Addr) (n c : Nat) (es : List (Int × ByteArray)) (w : World) (hr : RowE w w.heap.size A n es) (hc : n ≤ c) (hn : n ≤ 40) :
    Calls Tryd.prog 6 #[.slice A n c] w fun e w' => e = .returned (.bool true) ∧ Below w.heap.size w w' := by
  obtain rfl := hr.1
  exact BlockBack_walk A es c w hr hc (by omega)
theorem Turned_n (A : Option Addr) (n c k m : Nat) (es : List (Int × ByteArray)) (w : World) (hr : RowE w w.heap.size A n es) (hc : n ≤ c) (hn : n ≤ 40) (hk : k ≤ 9) (hm : m ≤ 9) :
    Calls Tryd.prog 5 #[.slice A n c, .int .i64 (k : Int), .int .u32 (m : Int)] w fun e w' => e = .returned (.bool true) ∧ Below w.heap.size w w' := by
  obtain rfl := hr.1
  exact BlockTurned_walk A es c k m w hr hc (by omega) (wf64k hk) (wf32k hm)
theorem Unp_n (A : Option Addr) (n c : Nat) (l : List Int) (w : World) (hr : Row w w.heap.size A n (ints .u8 l)) (hu : U8 l) (hc : n ≤ c) (hc2 : c ≤ 9223372036854775807) (hn : n ≤ 200004) :
    Calls Tryd.prog 4 #[.slice A n c] w fun e w' => e = .returned (.bool true) ∧ Below w.heap.size w w' := by
  obtain rfl := hr.len
  exact BlockUnpacks_wide A l c w hr hc hc2 (by omega) hu
/-- Sealing a few bytes. -/
def SeOut (w : World) (n : Nat) (l : List Int) (e : Ending) (w' : World) : Prop :=
  ∃ A c, e = .returned (.slice A n c) ∧ Row w' w'.heap.size A n (ints .u8 l) ∧ U8 l ∧ n ≤ c ∧ c ≤ 9223372036854775807 ∧ Below w.heap.size w w'
theorem Seal_n (A : Option Addr) (n c m : Nat) (l : List Int) (w : World) (hr : Row w w.heap.size A n (ints .u8 l)) (hu : U8 l) (hn : n ≤ 40) (hm : n + 4 = m) :
    Calls Tryd.prog 23 #[.slice A n c] w (SeOut w m (l ++ rowI (sumOf 0 l))) := by
  subst hm
  refine (Put_at A c _ n l w hr (Nat.le_refl _) hu (by omega)).mono ?_
  rintro e w' ⟨A', c', rfl, o, b⟩
  obtain ⟨_, h1, h2⟩ := own_some o (by omega)
  exact ⟨A', c', rfl, Row.own o, hu.app (rowI_u8 _), h1, h2, b⟩
theorem Packs_one (S : ByteArray) (w : World) : Calls Tryd.prog 3 #[.slice (some ⟨w.heap.size, 0, none⟩) 1 1] (w.alloc (.cells #[.int .i64 0, .string S] 43)) fun e w' => e = .returned (.bool true) ∧ Below w.heap.size w w' := by
  have h := RowE.made w [(0, S)] 1 rfl
  rw [show (ecE [((0 : Int), S)]).toArray = #[.int .i64 0, .string S] by simp [ecE, ec, List.range_succ]] at h
  have h2 : RowE (w.alloc (.cells #[.int .i64 0, .string S] 43)) (w.alloc (.cells #[.int .i64 0, .string S] 43)).heap.size (some ⟨w.heap.size, 0, none⟩) 1 [(0, S)] := by rwa [World.size_alloc]
  refine (Packs_n _ 1 1 _ _ h2 (by omega) (by omega)).mono ?_
  rintro e w' ⟨rfl, b⟩
  exact ⟨rfl, nextA (Below.refl _ _) b⟩
theorem Seal_lit (w : World) (n m : Nat) (l : List Int) (hn : l.length = n) (hm : n + 4 = m) (h40 : n ≤ 40) (hu : U8 l) : Calls Tryd.prog 23 #[.slice (some ⟨w.heap.size, 0, none⟩) n n] (w.alloc (.cells (ints .u8 l).toArray 5)) (SeOut w m (l ++ rowI (sumOf 0 l))) := by
  subst hn
  have h := Row.lit w .u8 l 5
  have h2 : Row (w.alloc (.cells (ints .u8 l).toArray 5)) (w.alloc (.cells (ints .u8 l).toArray 5)).heap.size (some ⟨w.heap.size, 0, none⟩) l.length (ints .u8 l) := by rwa [World.size_alloc]
  refine (Seal_n _ _ l.length m l _ h2 hu h40 hm).mono ?_
  rintro e w' ⟨A, c, rfl, r, u, h3, h4, b⟩
  exact ⟨A, c, rfl, r, u, h3, h4, nextA (Below.refl _ _) b⟩
theorem Seal_lit1 (w : World) : Calls Tryd.prog 23 #[.slice (some ⟨w.heap.size, 0, none⟩) 1 1] (w.alloc (.cells #[.int .u8 0] 5)) (SeOut w 5 ([0] ++ rowI (sumOf 0 [0]))) :=
  Seal_lit w 1 5 [0] rfl rfl (by omega) (by intro x hx; simp at hx; omega)
theorem Seal_lit3 (w : World) : Calls Tryd.prog 23 #[.slice (some ⟨w.heap.size, 0, none⟩) 3 3] (w.alloc (.cells #[.int .u8 1, .int .u8 0, .int .u8 0] 5)) (SeOut w 7 ([1, 0, 0] ++ rowI (sumOf 0 [1, 0, 0]))) :=
  Seal_lit w 3 7 [1, 0, 0] rfl rfl (by omega) (by intro x hx; simp at hx; omega)
theorem Seal_lit1b (w : World) : Calls Tryd.prog 23 #[.slice (some ⟨w.heap.size, 0, none⟩) 1 1] (w.alloc (.cells #[.int .u8 33] 5)) (SeOut w 5 ([33] ++ rowI (sumOf 0 [33]))) :=
  Seal_lit w 1 5 [33] rfl rfl (by omega) (by intro x hx; simp at hx; omega)
theorem Seal_nil (w : World) : Calls Tryd.prog 23 #[.slice none 0 0] w (SeOut w 4 ([] ++ rowI (sumOf 0 []))) :=
  Seal_n none 0 0 4 [] w (Row.zero _ _ _) (by intro x hx; cases hx) (by omega) rfl
/-- Packing. -/
def PaOut (w : World) (e : Ending) (w' : World) : Prop :=
  ∃ A n c x l, e = .returned (.tuple #[.slice A n c, .int .i64 x]) ∧ Row w' w'.heap.size A n (ints .u8 l) ∧ U8 l ∧ n ≤ c ∧ c ≤ 9223372036854775807 ∧ n ≤ 200004 ∧ Below w.heap.size w w'
theorem Pack_n (A : Option Addr) (n c : Nat) (es : List (Int × ByteArray)) (w : World) (hr : RowE w w.heap.size A n es) (hn : n ≤ 40) :
    Calls Tryd.prog 11 #[.slice A n c] w (PaOut w) := by
  refine (Pack_any A n c es w hr (by omega)).mono ?_
  rintro e w' ⟨A', c', rfl, o, b⟩
  refine ⟨A', _, c', _, packL es, rfl, Row.own o, packL_u8 es, ?_, ?_, packL_len es, b⟩
  · exact own_cap o
  · rcases o.2 with ⟨hv, _⟩ | ⟨g, cap, cur, hv, _, _, h1, h2, _⟩
    · injection hv with _ _ h3; omega
    · injection hv with _ _ h3; unfold maxLen at h2; omega
/-- The times and the lines of the long list. -/
def tM (j : Nat) : Int := ((j / 2 : Nat) : Int)
def sM (S : ByteArray) (j : Nat) : ByteArray := S.extract 0 j

set_option maxRecDepth 100000 in
set_option maxHeartbeats 4000000 in
theorem BlockKnown_walk (w : World) : Calls Tryd.prog 9 #[] w fun e w' => e = .returned (.bool true) ∧ Below w.heap.size w w' := by
  obtain ⟨i0, hi, hz0, hz1, hz2⟩ := info_parts ent_info
  obtain ⟨i1, ji, jz0, jz1, jz2⟩ := info_parts u8_info
  go_enter Tryd.func9, Tryd.ntmps9
  go_wp2_with fail
  obtain ⟨w1, hw1⟩ : ∃ W, w.alloc (.cells (ints .i64 endL).toArray 3) = W := ⟨_, rfl⟩
  have b1 : Below w.heap.size w w1 := by rw [← hw1]; exact (Below.refl _ _).alloc (Nat.le_refl _) _
  have r1 : Row w1 w1.heap.size (some ⟨w.heap.size, 0, none⟩) 9 (ints .i64 endL) := by
    have := Row.lit w .i64 endL 3
    rw [hw1] at this
    rwa [show w.heap.size + 1 = w1.heap.size by rw [← hw1]; simp] at this
  have hw1' : w.alloc (.cells #[.int .i64 (-9007199254740992), .int .i64 (-9007199254740991), .int .i64 (-1), .int .i64 0, .int .i64 1, .int .i64 9007199254740991, .int .i64 9007199254740992, .int .i64 (-9223372036854775808), .int .i64 9223372036854775807] 3) = w1 := hw1
  rw [hw1']
  obtain ⟨g, hg⟩ : ∃ g, w.heap.size = g := ⟨_, rfl⟩
  rw [hg] at r1 ⊢
  clear hw1 hw1'
  have HG := Lib.hid hg
  clear hg
  go_loopw [2] (fun i wr => ∃ k : Nat, k ≤ 9 ∧ i = .int .i64 k ∧ Row wr wr.heap.size (some ⟨g, 0, none⟩) 9 (ints .i64 endL) ∧ Below w.heap.size w wr) (fun i _ => 9 - (intOf i).toNat)
  case atStart => exact ⟨0, by omega, rfl, r1, b1⟩
  case round =>
    obtain ⟨k, hk, rfl, hr, hb⟩ := hrel
    rename World => ws
    by_cases hlt : k < 9
    · have hk0 : (0 : Int) ≤ (k : Int) := by omega
      have hk1 : (k : Int) < 9 := by omega
      go_wp2_with fail
      go_loopw [3] (fun j wr => ∃ m : Nat, m ≤ 9 ∧ j = .int .i64 m ∧ Row wr wr.heap.size (some ⟨g, 0, none⟩) 9 (ints .i64 endL) ∧ Below w.heap.size w wr) (fun j _ => 9 - (intOf j).toNat)
      case atStart => exact ⟨0, by omega, rfl, hr, hb⟩
      case round =>
        clear hr hb
        obtain ⟨m, hm, rfl, hr, hb⟩ := hrel
        rename World => wt
        by_cases hlt2 : m < 9
        · have hm0 : (0 : Int) ≤ (m : Int) := by omega
          have hm1 : (m : Int) < 9 := by omega
          obtain ⟨x, hx⟩ : ∃ x, endL.getD k 0 = x := ⟨_, rfl⟩
          obtain ⟨y, hy⟩ : ∃ y, endL.getD m 0 = y := ⟨_, rfl⟩
          have hck : wt.cell? ⟨g, k, none⟩ = some (.int .i64 x) := by
            have := hr.cell hlt
            rw [Nat.zero_add, ints_get .i64 endL k hlt, hx] at this
            exact this
          have hcm : wt.cell? ⟨g, m, none⟩ = some (.int .i64 y) := by
            have := hr.cell hlt2
            rw [Nat.zero_add, ints_get .i64 endL m hlt2, hy] at this
            exact this
          have HB := Lib.hid hb
          have HR := Lib.hid hr
          have HS0 : Hid (wt.drew.cell? ⟨g, k, none⟩ = some (.int .i64 x) ∧ wt.drew.cell? ⟨g, m, none⟩ = some (.int .i64 y)) := Lib.hid ⟨hck, hcm⟩
          have hgw : g < wt.heap.size := by
            obtain ⟨b', o', e', hb', _⟩ := hr.2 (by omega)
            injection e' with e'
            injection e' with e1 e2 e3
            rw [e1]; exact hb'
          have HSA : Hid (∀ o, (wt.drew.alloc o).cell? ⟨g, k, none⟩ = some (.int .i64 x) ∧ (wt.drew.alloc o).cell? ⟨g, m, none⟩ = some (.int .i64 y)) := Lib.hid (fun o => ⟨(World.cell?_alloc_lt wt.drew o _ hgw).trans hck, (World.cell?_alloc_lt wt.drew o _ hgw).trans hcm⟩)
          clear hr hb hx hy hgw hck hcm
          go_wp2_with fail
          go_region_held3 (fun w' => w'.cell? ⟨g, k, none⟩ = some (.int .i64 x) ∧ w'.cell? ⟨g, m, none⟩ = some (.int .i64 y)) (first | exact HS0.out | exact HSA.out _) (fail)
          clear HSA HS0
          go_wp2_with fail
          obtain ⟨w2, hw2⟩ : ∃ W, (wt.alloc (.cells #[.int .i64 x, .string ⟨#[120]⟩, .int .i64 y, .string ⟨#[121, 121]⟩] 43)).drew = W := ⟨_, rfl⟩
          have HB2 : Hid (Below w.heap.size w w2) := Lib.hid (by rw [← hw2]; exact (HB.out.alloc HB.out.size _).drew)
          have HE2 : Hid (RowE w2 w2.heap.size (some ⟨wt.heap.size, 0, none⟩) 2 (ES x y)) := Lib.hid (by
            have h := RowE.made wt (ES x y) 2 rfl
            rw [es_cells] at h
            have h2 : RowE w2 (wt.heap.size + 1) (some ⟨wt.heap.size, 0, none⟩) 2 (ES x y) := by rw [← hw2]; exact h
            rwa [show wt.heap.size + 1 = w2.heap.size by rw [← hw2]; exact (World.size_alloc wt _).symm] at h2)
          have HR2 : Hid (Row w2 w2.heap.size (some ⟨g, 0, none⟩) 9 (ints .i64 endL)) := Lib.hid (by
            have h := (HR.out.alloc (Nat.le_refl _) (.cells #[.int .i64 x, .string ⟨#[120]⟩, .int .i64 y, .string ⟨#[121, 121]⟩] 43)).wide (B' := w2.heap.size) (by rw [← hw2]; exact Nat.le_trans (Nat.le_succ _) (Nat.le_of_eq (World.size_alloc wt _).symm))
            rw [← hw2] at h ⊢
            exact h)
          rw [hw2]
          clear hw2 HB HR
          with_reducible refine (Packs_n _ 2 2 _ w2 HE2.out (by omega) (by omega)).mono ?_
          rintro e w3 ⟨rfl, b3⟩
          have HB3 := Lib.hid (next HB2.out b3)
          have HE3 := Lib.hid (HE2.out.on b3)
          have HR3 := Lib.hid (HR2.out.on b3)
          clear b3 HB2 HE2 HR2
          go_wp2_with fail
          with_reducible refine (Back_n _ 2 2 _ w3 HE3.out (by omega) (by omega)).mono ?_
          rintro e w4 ⟨rfl, b4⟩
          have HB4 := Lib.hid (next HB3.out b4)
          have HE4 := Lib.hid (HE3.out.on b4)
          have HR4 := Lib.hid (HR3.out.on b4)
          clear b4 HB3 HE3 HR3
          have HT4 := Lib.hid (Turned_n _ 2 2 k m _ w4 HE4.out (by omega) (by omega) hk hm)
          have hwm : IntKind.u32.wrap (m : Int) = (m : Int) := by rw [IntKind.wrap_u32]; omega
          go_wp2_with fail
          clear hwm
          with_reducible refine HT4.out.mono ?_
          rintro e w5 ⟨rfl, b5⟩
          have HB5 := Lib.hid (next HB4.out b5)
          have HR5 := Lib.hid (HR4.out.on b5)
          clear b5 HB4 HE4 HR4 HT4
          go_wp2_with fail
          exact ⟨⟨m + 1, by omega, by go_num, HR5.out, HB5.out⟩, by simp [intOf]; omega⟩
        · have HB := Lib.hid hb
          have HR := Lib.hid hr
          clear hr hb
          go_wp2_with fail
          exact ⟨⟨k + 1, by omega, by go_num, HR.out, HB.out⟩, by simp [intOf]; omega⟩
    · obtain ⟨N, hN⟩ : ∃ N : Nat, N = 4097 := ⟨_, rfl⟩
      have HNz : Hid ((4097 : Int) = (N : Int)) := Lib.hid (by omega)
      have HN := Lib.hid hN
      have HBw := Lib.hid hb
      clear hN hb hr
      go_wp2_with (refine wpList_make_full _ rfl (.const (.int .i64 4097)) (.const (.int .i64 4097)) 24 rfl w.heap.size 5 i1 (.int .u8 0) 1 Tryd.underlying24 ji jz0 jz1 .i64 .i64 4097 4097 N rfl rfl HNz.out HNz.out (by rw [jz2, HN.out]; decide) (by rw [HN.out]; decide) HBw.out.size ?_)
      intro w6 hown hg6
      clear hlt hk
      rw [made8, List.nil_append] at hown
      have hrow := Row.own hown
      have HB6 : Hid (Below w.heap.size w w6) := Lib.hid (HBw.out.grown hg6 HBw.out.size (by simp))
      clear hown hg6 HBw
      have hcv := conv_row (P := Tryd.prog) hrow 24 9 5 Tryd.underlying24 Tryd.underlying5 Tryd.underlying9 N
      have hsz : (strOfNums (List.replicate N 0)).size = N := by rw [strOfNums_size, List.length_replicate]
      generalize strOfNums (List.replicate N 0) = S at *
      have HS : Hid (S.size = 4097) := Lib.hid (hsz.trans HN.out)
      clear hrow hsz
      go_wp2_with fail
      go_loopw [6, 7] (fun s6 s7 wr => ∃ (q : Nat) (A : Option Addr) (c : Nat), q ≤ 33 ∧ s7 = .int .i64 q ∧ s6 = .slice A q c ∧ wr.ownsRow w.heap.size 43 2 (.slice A q c) q (ec q tM (sM S)) ∧ Below w.heap.size w wr) (fun _ i _ => 33 - (intOf i).toNat)
      case atStart => exact ⟨0, none, 0, by omega, rfl, rfl, World.ownsRow_nil _ _ _ _, HB6.out⟩
      case round =>
        obtain ⟨q, A, c, hq, rfl, rfl, own, hb⟩ := hrel
        rename World => wr
        by_cases hlt : q < 33
        · have hq0 : (0 : Int) ≤ (q : Int) := by omega
          have hq1 : (q : Int) < 33 := by omega
          obtain ⟨d, hd⟩ : ∃ d : Nat, d = q / 2 := ⟨_, rfl⟩
          have hd0 : (d : Int) ≤ 33 := by omega
          have hsz : (q : Int) ≤ (S.size : Int) := by have := HS.out; omega
          have HD : Hid (tM q = (d : Int)) := Lib.hid (by rw [tM, ← hd])
          have t1 : (q : Int).tdiv 2 = (d : Int) := by rw [Int.tdiv_eq_ediv_of_nonneg (by omega)]; omega
          have hwd : IntKind.i64.wrap (d : Int) = (d : Int) := by rw [IntKind.wrap_i64]; omega
          have HO := Lib.hid own
          have HB := Lib.hid hb
          have HN6 : Hid (∀ j u, [Value.int .i64 (d : Int), .string (S.extract 0 q)][j]? = some u → (wr.alloc (.cells #[.int .i64 (d : Int), .string (S.extract 0 q)] 43)).cell? ((⟨wr.heap.size, 0, none⟩ : Addr).add j) = some u) := Lib.hid (fun j u hu => by rw [addr_add, Nat.zero_add]; exact (Blk.cell (Blk.made wr 43 [.int .i64 (d : Int), .string (S.extract 0 q)]) j).trans hu)
          have HONE : Hid (∀ u ∈ [Value.int .i64 (d : Int), .string (S.extract 0 q)], u.oneCell' = true) := Lib.hid (by simp [Value.oneCell'])
          have HK7 : Hid (q + 1 ≤ maxLen ∧ ((q + 1) + (q + 1) / 4 + 192) * 24 ≤ 281474976710656) := Lib.hid (by unfold maxLen; omega)
          have HBA : Hid (Below w.heap.size w (wr.alloc (.cells #[.int .i64 (d : Int), .string (S.extract 0 q)] 43))) := Lib.hid (HB.out.alloc HB.out.size _)
          clear own hb hd hcv
          go_wp2_with (at_builtin; refine wpList_append_own_wide _ rfl (.tmp 56) (.tmp 63) 22 rfl w.heap.size 43 i0 (.agg #[.int .i64 0, .string ByteArray.empty]) 2 24 Tryd.underlying22 hi hz0 hz1 hz2 rfl Nat.two_pos _ q (ec q tM (sM S)) rfl (HO.out.alloc _) ⟨wr.heap.size, 0, none⟩ 1 1 [.int .i64 (d : Int), .string (S.extract 0 q)] rfl rfl HN6.out HONE.out HK7.out.1 HK7.out.2 HBA.out.size ?_)
          intro v7 w7 o7 gr7 _
          have e7 : ec q tM (sM S) ++ [.int .i64 (d : Int), .string (S.extract 0 q)] = ec (q + 1) tM (sM S) := by rw [← HD.out]; exact ec_snoc q tM (sM S)
          rw [e7] at o7
          obtain ⟨A7, c7, rfl⟩ := ownE_slice o7
          have HO7 := Lib.hid o7
          have HB7 : Hid (Below w.heap.size w w7) := Lib.hid (HBA.out.grown gr7 HBA.out.size (fun k hk => (HO.out.lt k hk).1))
          clear o7 gr7 e7
          go_wp2_with fail
          exact ⟨⟨q + 1, A7, c7, by omega, by go_num, rfl, HO7.out, HB7.out⟩, by simp [intOf]; omega⟩
        · have hq3 : q = 33 := by omega
          subst hq3
          have hc33 : 33 ≤ c := by
            rcases own.2 with ⟨_, hn⟩ | ⟨g', cap, cur, hv, _, _, h1, _⟩
            · omega
            · injection hv with _ _ h3; omega
          have hc32 : (32 : Int) ≤ (c : Int) := by omega
          have hcn : 32 ≤ c := by omega
          obtain ⟨es, hes⟩ : ∃ es, (List.range 33).map (fun j => (tM j, sM S j)) = es := ⟨_, rfl⟩
          have HE0 : Hid (RowE wr wr.heap.size A 33 es) := Lib.hid (by rw [← hes]; exact RowE.own own)
          have hsz1 : (1 : Int) ≤ (S.size : Int) := by have := HS.out; omega
          have HB0 := Lib.hid hb
          clear own hb hcv hes HNz HN HS hq hlt b1 r1 HG
          go_wp2_with fail
          with_reducible refine (Pack_n A 32 c _ wr (HE0.out.takeK (by omega)) (by omega)).mono ?_
          rintro e w1 ⟨Ab, nb, cb, xb, lb, rfl, rb, ub, hb1, hb2, hb3, b1⟩
          have HE1 := Lib.hid (HE0.out.on b1)
          have HB1 := Lib.hid (next HB0.out b1)
          have HU1 := Lib.hid rb
          have HUU := Lib.hid (And.intro ub (And.intro hb1 (And.intro hb2 hb3)))
          clear b1 HE0 HB0 rb ub hb1 hb2 hb3
          go_wp2_with fail
          with_reducible refine (awake_true w1).mono ?_
          rintro e w2 ⟨rfl, b2⟩
          have HE2 := Lib.hid (HE1.out.on b2)
          have HB2 := Lib.hid (next HB1.out b2)
          have HU2 := Lib.hid (HU1.out.on b2)
          clear b2 HE1 HB1 HU1
          go_wp2_with fail
          with_reducible refine (Packs_n A 33 c _ w2 HE2.out (by omega) (by omega)).mono ?_
          rintro e w3 ⟨rfl, b3⟩
          have HE3 := Lib.hid (HE2.out.on b3)
          have HB3 := Lib.hid (next HB2.out b3)
          have HU3 := Lib.hid (HU2.out.on b3)
          clear b3 HE2 HB2 HU2
          go_wp2_with fail
          with_reducible refine (Packs_n A 32 c _ w3 (HE3.out.takeK (by omega)) (by omega) (by omega)).mono ?_
          rintro e w4 ⟨rfl, b4⟩
          have HE4 := Lib.hid (HE3.out.on b4)
          have HB4 := Lib.hid (next HB3.out b4)
          have HU4 := Lib.hid (HU3.out.on b4)
          clear b4 HE3 HB3 HU3
          go_wp2_with fail
          with_reducible refine (Unp_n Ab nb cb lb w4 HU4.out HUU.out.1 HUU.out.2.1 HUU.out.2.2.1 HUU.out.2.2.2).mono ?_
          rintro e w5 ⟨rfl, b5⟩
          have HE5 := Lib.hid (HE4.out.on b5)
          have HB5 := Lib.hid (next HB4.out b5)
          clear b5 HE4 HB4 HU4 HUU
          go_wp2_with fail
          with_reducible refine (Back_n A 32 c _ w5 (HE5.out.takeK (by omega)) (by omega) (by omega)).mono ?_
          rintro e w6 ⟨rfl, b6⟩
          have HB6 := Lib.hid (next HB5.out b6)
          clear b6 HE5 HB5
          go_wp2_with fail
          with_reducible refine (Packs_one S w6).mono ?_
          rintro e w7 ⟨rfl, b7⟩
          have HB7 := Lib.hid (next HB6.out b7)
          clear b7 HB6
          go_wp2_with fail
          with_reducible refine (Packs_one _ w7).mono ?_
          rintro e w8 ⟨rfl, b8⟩
          have HB8 := Lib.hid (next HB7.out b8)
          clear b8 HB7
          go_wp2_with fail
          with_reducible refine (Seal_lit1 w8).mono ?_
          rintro e w9 ⟨As8, cs8, rfl, rs8, us8, hs8, hz8, b9⟩
          have HB9 := Lib.hid (next HB8.out b9)
          have HR9 := Lib.hid (Unp_n As8 5 cs8 _ w9 rs8 us8 hs8 hz8 (by omega))
          clear b9 HB8 rs8 us8 hs8 hz8
          go_wp2_with fail
          with_reducible refine HR9.out.mono ?_
          rintro e w10 ⟨rfl, b10⟩
          have HB10 := Lib.hid (next HB9.out b10)
          clear b10 HB9 HR9
          go_wp2_with fail
          with_reducible refine (Seal_lit3 w10).mono ?_
          rintro e w11 ⟨As10, cs10, rfl, rs10, us10, hs10, hz10, b11⟩
          have HB11 := Lib.hid (next HB10.out b11)
          have HR11 := Lib.hid (Unp_n As10 7 cs10 _ w11 rs10 us10 hs10 hz10 (by omega))
          clear b11 HB10 rs10 us10 hs10 hz10
          go_wp2_with fail
          with_reducible refine HR11.out.mono ?_
          rintro e w12 ⟨rfl, b12⟩
          have HB12 := Lib.hid (next HB11.out b12)
          clear b12 HB11 HR11
          go_wp2_with fail
          with_reducible refine (Seal_lit1b w12).mono ?_
          rintro e w13 ⟨As12, cs12, rfl, rs12, us12, hs12, hz12, b13⟩
          have HB13 := Lib.hid (next HB12.out b13)
          have HR13 := Lib.hid (Unp_n As12 5 cs12 _ w13 rs12 us12 hs12 hz12 (by omega))
          clear b13 HB12 rs12 us12 hs12 hz12
          go_wp2_with fail
          with_reducible refine HR13.out.mono ?_
          rintro e w14 ⟨rfl, b14⟩
          have HB14 := Lib.hid (next HB13.out b14)
          clear b14 HB13 HR13
          go_wp2_with fail
          with_reducible refine (Seal_nil w14).mono ?_
          rintro e w15 ⟨Az, cz, rfl, rz, uz, hz1, hz2, bz⟩
          have HB15 := Lib.hid (next HB14.out bz)
          have HRz := Lib.hid (Unp_n Az 4 cz _ w15 rz uz hz1 hz2 (by omega))
          clear bz HB14 rz uz hz1 hz2
          go_wp2_with fail
          with_reducible refine HRz.out.mono ?_
          rintro e wz ⟨rfl, bz⟩
          have hbz := next HB15.out bz
          clear HRz bz
          go_wp2_with fail
          go_ret
          exact ⟨rfl, hbz⟩
end Go.Proofs.YtpeepolmbcakbaaDoor
