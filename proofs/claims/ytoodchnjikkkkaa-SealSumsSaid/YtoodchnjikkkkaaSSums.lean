/- SealSums, walked. -/
import Derived.Test.YtoodchnjikkkkaaSTurned
namespace Go.Proofs.Ytoodchnjikkkkaa
open Go.RowKit

theorem bs_info : (Try.prog.info? 24).map (fun i => (i.zero, i.size, i.bytes)) = some (some (.slice none 0 0), 1, 24) := by kernel_rfl

/-- Lists of bytes, each in memory of the call's own. -/
def Owned (w : World) (base : Nat) (vs : List Value) (ls : List (List Int)) : Prop :=
  vs.length = ls.length ∧ ∀ (j : Nat) (l : List Int), ls[j]? = some l → ∃ (A : Option Addr) (c : Nat), vs[j]? = some (Value.slice A l.length c) ∧ w.ownsRow base 5 1 (.slice A l.length c) l.length (ints .u8 l)
theorem Owned.lists {w : World} {base : Nat} {vs : List Value} {ls : List (List Int)} (h : Owned w base vs ls) : Lists w w.heap.size vs ls :=
  ⟨h.1, fun j l hj => by
    obtain ⟨A, c, h1, h2⟩ := h.2 j l hj
    exact ⟨A, c, h1, Row.own h2⟩⟩
theorem Owned.mono {w w' : World} {base : Nat} {vs : List Value} {ls : List (List Int)} (h : Owned w base vs ls) (hk : ∀ v n xs, w.ownsRow base 5 1 v n xs → w'.ownsRow base 5 1 v n xs) : Owned w' base vs ls :=
  ⟨h.1, fun j l hj => by
    obtain ⟨A, c, h1, h2⟩ := h.2 j l hj
    exact ⟨A, c, h1, hk _ _ _ h2⟩⟩
theorem own_below {w w' : World} {base n : Nat} {e : TypeId} {v : Value} {xs : List Value} (h : w.ownsRow base e 1 v n xs) (hb : Below w.heap.size w w') : w'.ownsRow base e 1 v n xs :=
  h.kept (row := none) ⟨hb.os, hb.tape, hb.output, hb.size, fun j hj _ => hb.block j hj⟩ (by rcases h : v.ownBlock with _ | g <;> simp)
theorem own_apart {w w' : World} {base base' n k c2 : Nat} {v : Value} {A2 : Option Addr} {xs us : List Value} (h : w.ownsRow base 5 1 v n xs) (hin : w.ownsRow base' 24 1 (.slice A2 k c2) k us) (hg : w.grownBy w' (Value.slice A2 k c2).ownBlock) : w'.ownsRow base 5 1 v n xs := by
  refine h.kept hg ?_
  rcases h.2 with ⟨rfl, _⟩ | ⟨g, cap, cur, rfl, _, hh, _⟩
  · exact .inl rfl
  · right
    intro e
    rcases hin.2 with ⟨e2, _⟩ | ⟨g2, cap2, cur2, e2, _, hh2, _⟩
    · rw [e2] at e
      simp [Value.ownBlock] at e
    · rw [e2] at e
      simp only [Value.ownBlock, Option.some.injEq] at e
      subst e
      rw [hh] at hh2
      simp at hh2
theorem Owned.snoc {w : World} {base k n c : Nat} {us : List Value} {ls : List (List Int)} {l : List Int} {A : Option Addr} (h : Owned w base us (ls.take k)) (hl : ls[k]? = some l) (hn : l.length = n) (ho : w.ownsRow base 5 1 (.slice A n c) n (ints .u8 l)) : Owned w base (us ++ [.slice A n c]) (ls.take (k + 1)) := by
  subst hn
  have hk : k < ls.length := (List.getElem?_eq_some_iff.1 hl).1
  have hlen : us.length = k := by rw [h.1, List.length_take]; omega
  refine ⟨by rw [List.length_append, h.1, List.length_take, List.length_take]; simp; omega, fun j m hj => ?_⟩
  rw [List.getElem?_take] at hj
  split at hj
  · by_cases hjk : j < k
    · obtain ⟨A', c', h1, h2⟩ := h.2 j m (by rw [List.getElem?_take, if_pos hjk]; exact hj)
      exact ⟨A', c', by rw [List.getElem?_append_left (by omega)]; exact h1, h2⟩
    · obtain rfl : j = k := by omega
      rw [hl] at hj
      injection hj with hj
      subst hj
      exact ⟨A, c, by rw [List.getElem?_append_right (by omega), hlen]; simp, ho⟩
  · cases hj
theorem Of_at (A : Option Addr) (c B B' n s : Nat) (vs : List Value) (ls : List (List Int)) (w : World) (hr : Row w B A n vs) (hl : Lists w B' vs ls) (hu : U8s ls) (hn : n ≤ 9223372036854775807) (hm : ∀ l ∈ ls, l.length ≤ 9223372036854775807) (hs : Hid (sumsOf ls = s)) :
    Calls Try.prog 11 #[.slice A n c] w fun e w' => e = .returned (.int .u32 (s : Int)) ∧ w = w' := by
  have hv := hr.1
  subst hv
  have := Of_eq A c B B' vs ls w hr hl hu hn hm
  rwa [hs.out] at this
theorem rOf_at (A : Option Addr) (c B B' n s : Nat) (vs : List Value) (ls : List (List Int)) (w : World) (hr : Row w B A n vs) (hl : Lists w B' vs ls) (hu : U8s ls) (hn : n ≤ 9223372036854775807) (hm : ∀ l ∈ ls, l.length ≤ 9223372036854775807) (hs : Hid (sumsOf ls = s)) :
    Calls Try.prog 12 #[.slice A n c] w fun e w' => e = .returned (.int .u32 (s : Int)) ∧ w = w' := by
  have hv := hr.1
  subst hv
  have := rOf_eq A c B B' vs ls w hr hl hu hn hm
  rwa [hs.out] at this
theorem On_is (s r : Nat) (A : Option Addr) (c n B : Nat) (l : List Int) (w : World) (hr : Row w B A n (ints .u8 l)) (hu : U8 l) (hs : s < 4294967296) (hl : n ≤ 9223372036854775807) (he : Hid (sumOf s l = r)) :
    Calls Try.prog 13 #[.int .u32 (s : Int), .slice A n c] w fun e w' => e = .returned (.int .u32 (r : Int)) ∧ w = w' := by
  have hn := hr.len
  subst hn
  have := On_eq s A c B l w hr hu hs hl
  rwa [he.out] at this
theorem rOn_is (s r : Nat) (A : Option Addr) (c n B : Nat) (l : List Int) (w : World) (hr : Row w B A n (ints .u8 l)) (hu : U8 l) (hs : s < 4294967296) (hl : n ≤ 9223372036854775807) (he : Hid (sumOf s l = r)) :
    Calls Try.prog 14 #[.int .u32 (s : Int), .slice A n c] w fun e w' => e = .returned (.int .u32 (r : Int)) ∧ w = w' := by
  have hn := hr.len
  subst hn
  have := rOn_eq s A c B l w hr hu hs hl
  rwa [he.out] at this

set_option maxRecDepth 100000 in
set_option maxHeartbeats 2000000 in
theorem Sums_walk (A0 : Option Addr) (vs : List Value) (ls : List (List Int)) (N c0 : Nat) (s' : Int) (A : Option Addr) (n : Nat) (l : List Int) (c : Nat) (w : World)
    (hr0 : Row w w.heap.size A0 N vs) (hl0 : Lists w w.heap.size vs ls) (hu0 : U8s ls) (hn0 : N * 24 ≤ 140737488351232) (hm0 : ∀ l ∈ ls, l.length ≤ 140737488351232)
    (hs' : (Lit.int .u32 s').wf = true) (hr : Row w w.heap.size A n (ints .u8 l)) (hn1 : n ≤ 140737488351232) (hu : U8 l) :
    Calls Try.prog 3 #[.slice A0 N c0, .int .u32 s', .slice A n c] w fun e w' => e = .returned (.bool true) ∧ Below w.heap.size w w' := by
  obtain ⟨i1, hi, hz0, hz1, hz2⟩ := info_parts bs_info
  obtain ⟨s, rfl, hs2⟩ : ∃ p : Nat, s' = (p : Int) ∧ p < 4294967296 := by
    simp [Lit.wf, IntKind.min, IntKind.max, IntKind.bits, IntKind.signed] at hs'
    exact ⟨s'.toNat, by omega, by omega⟩
  have hlenN : ls.length = N := by rw [← hl0.1, hr0.1]
  have HR0 := Lib.hid hr0
  have HL0 := Lib.hid hl0
  have HU0 := Lib.hid hu0
  have HM0 := Lib.hid hm0
  have HR := Lib.hid hr
  have HU := Lib.hid hu
  have HLN := Lib.hid hlenN
  clear hr0 hl0 hu0 hm0 hr hu hs' hlenN
  go_enter Try.func3, Try.ntmps3
  go_wp2_with fail
  go_loopw [7, 8] (fun o i wr => ∃ (k : Nat) (A2 : Option Addr) (c2 : Nat) (us : List Value), k ≤ N ∧ i = .int .i64 k ∧ o = .slice A2 k c2 ∧ wr.ownsRow w.heap.size 24 1 (.slice A2 k c2) k us ∧ Hid (Owned wr w.heap.size us (ls.take k)) ∧ Below w.heap.size w wr) (fun _ i _ => N - (intOf i).toNat)
  case atStart => exact ⟨0, none, 0, [], by omega, rfl, rfl, World.ownsRow_nil _ _ _ _, Lib.hid ⟨rfl, fun j l hj => by simp at hj⟩, Below.refl _ _⟩
  case round =>
    obtain ⟨k, A2, c2, us, hk, rfl, rfl, hown, HO, hb⟩ := hrel
    rename World => ws
    by_cases hlt : k < N
    · obtain ⟨m, hm⟩ : ∃ m, ls[k]? = some m := ⟨_, List.getElem?_eq_getElem (by have := HLN.out; omega)⟩
      obtain ⟨A3, c3, hv, hrow⟩ := HL0.out.2 k m hm
      have hml := HM0.out m (List.mem_of_getElem? hm)
      have HRow := Lib.hid ((hrow.below hb).wide hb.size)
      obtain ⟨b, off, rfl, hbB, hc⟩ := (HR0.out.below hb).2 (by omega)
      have hcell := (hc k hlt).trans hv
      obtain ⟨q, hq⟩ : ∃ q, m.length = q := ⟨_, rfl⟩
      rw [hq] at hcell HRow hml
      have HQ := Lib.hid hq
      have HM := Lib.hid hm
      have hlt' : (k : Int) < (N : Int) := by omega
      have HB := Lib.hid hb
      have HOwn := Lib.hid hown
      clear hc hv hrow hm hq hb hown
      go_wp2_with fail
      with_reducible refine (CopyBytes_at A3 c3 _ q m ws HRow.out (Nat.le_refl _) (by omega)).mono ?_
      rintro e w1 ⟨A4, c4, rfl, o4, h4⟩
      have o4' := own_low o4 HB.out.size
      have b4 := next HB.out h4
      have hown1 := own_below HOwn.out h4
      have HO1 := Lib.hid (HO.out.mono (fun v n xs h => own_below h h4))
      have O4 := Lib.hid o4'
      have hb1 := b4.size
      clear o4 h4 o4'
      go_wp2_with (at_builtin; refine wpList_app _ rfl (.tmp 16) (.tmp 22) 22 rfl w.heap.size 24 i1 (.slice none 0 0) 24 Try.underlying22 hi hz0 hz1 hz2 rfl _ _ _ rfl (hown1.alloc _) _ _ 1 1 _ rfl (Row.one _ _ _) (by simp [Value.oneCell']) (by unfold maxLen; omega) (by omega) (by simp; omega) ?_)
      intro v' w2 hown2 hg2 hb2
      obtain ⟨A5, c5, rfl⟩ := own_slice hown2
      have hO2 : Hid (Owned w2 w.heap.size (us ++ [.slice A4 q c4]) (ls.take (k + 1))) := Lib.hid (Owned.snoc (HO1.out.mono (fun v n xs h => own_apart (h.alloc _) (hown1.alloc _) hg2)) HM.out HQ.out (own_apart (O4.out.alloc _) (hown1.alloc _) hg2))
      have hB2 := (b4.alloc hb1 (.cells #[.slice A4 q c4] 24)).trans hb2
      clear hown1 HO1 O4 b4 hb2 hg2
      go_wp2
      go_roundw
      case rel => exact ⟨k + 1, A5, c5, us ++ [.slice A4 q c4], by omega, by go_num, rfl, hown2, hO2, hB2⟩
      case measure => simp [intOf]; omega
    · obtain rfl : k = N := by omega
      have hall : ls.take k = ls := List.take_of_length_le (by rw [HLN.out]; omega)
      rw [hall] at HO
      obtain ⟨S, hS⟩ : ∃ S, sumsOf ls = S := ⟨_, rfl⟩
      obtain ⟨r, hr⟩ : ∃ r, sumOf s l = r := ⟨_, rfl⟩
      have HS := Lib.hid hS
      have Hr := Lib.hid hr
      have HRI := Lib.hid (Row.own hown)
      have HLI := Lib.hid HO.out.lists
      have HB := Lib.hid hb
      have hk9 : k ≤ 9223372036854775807 := by omega
      have hm9 : Hid (∀ l ∈ ls, l.length ≤ 9223372036854775807) := Lib.hid (fun l hl => by have := HM0.out l hl; omega)
      clear hall hS hr hown hb
      go_wp2_with fail
      with_reducible refine (Of_at A2 c2 _ _ k S us ls ws HRI.out HLI.out HU0.out hk9 hm9.out HS).mono ?_
      rintro e w1 ⟨rfl, rfl⟩
      go_wp2_with fail
      with_reducible refine (rOf_at A0 c0 _ _ k S vs ls ws (HR0.out.below HB.out) (HL0.out.below HB.out) HU0.out hk9 hm9.out HS).mono ?_
      rintro e w1 ⟨rfl, rfl⟩
      go_wp2_with fail
      with_reducible refine (On_is s r A c n _ l ws (HR.out.below HB.out) HU.out hs2 (by omega) Hr).mono ?_
      rintro e w1 ⟨rfl, rfl⟩
      go_wp2_with fail
      with_reducible refine (rOn_is s r A c n _ l ws (HR.out.below HB.out) HU.out hs2 (by omega) Hr).mono ?_
      rintro e w1 ⟨rfl, rfl⟩
      go_wp2_with fail
      with_reducible refine (Row4_any s ws hs2).mono ?_
      rintro e w1 ⟨A6, c6, rfl, o6, h6⟩
      have r6 := Row.own o6
      go_wp2_with fail
      with_reducible refine (rRow4_any s w1 hs2).mono ?_
      rintro e w2 ⟨A7, c7, rfl, o7, h7⟩
      have r7 := Row.own o7
      have r6' := r6.on h7
      have b7 := next h6 h7
      clear r6 h6 h7 o6 o7
      go_wp2_with fail
      with_reducible refine (eq_yes A6 A7 4 4 c6 c7 _ _ (rowI s) w2 r6' r7 (by omega)).mono ?_
      rintro e w3 ⟨rfl, h8⟩
      have b8 := next HB.out (next b7 h8)
      have HLI3 := Lib.hid ((HLI.out.below (next b7 h8)))
      have hbs := (next b7 h8).size
      have HRI3 := Lib.hid (HRI.out.on (next b7 h8))
      clear r6' r7 b7 h8
      have HB8 := Lib.hid b8
      clear b8
      go_wp2_with fail
      go_loopw [9] (fun i wr => ∃ j : Nat, j ≤ k ∧ i = .int .i64 j ∧ Below w3.heap.size w3 wr) (fun i _ => k - (intOf i).toNat)
      case atStart => exact ⟨0, by omega, rfl, Below.refl _ _⟩
      case round =>
        obtain ⟨j, hj, rfl, hb⟩ := hrel
        rename World => ws2
        by_cases hlt2 : j < k
        · obtain ⟨m, hm⟩ : ∃ m, ls[j]? = some m := ⟨_, List.getElem?_eq_getElem (by have := HLN.out; omega)⟩
          obtain ⟨A8, c8, hv8, hrow8⟩ := HLI3.out.2 j m hm
          obtain ⟨A9, c9, hv9, hrow9⟩ := HL0.out.2 j m hm
          have hml := HM0.out m (List.mem_of_getElem? hm)
          have HRow8 := Lib.hid ((hrow8.wide hbs).on hb)
          have HRow9 := Lib.hid ((hrow9.below HB8.out).wide HB8.out.size |>.on hb)
          obtain ⟨q, hq⟩ : ∃ q, m.length = q := ⟨_, rfl⟩
          obtain ⟨b1, off1, e1, _, hc1⟩ := (HRI3.out.on hb).2 (by omega)
          subst e1
          obtain ⟨b2, off2, e2, _, hc2⟩ := (((HR0.out.below HB8.out).wide HB8.out.size).on hb).2 (by omega)
          subst e2
          have hcell1 := (hc1 j hlt2).trans hv8
          have hcell2 := (hc2 j hlt2).trans hv9
          rw [hq] at hcell1 hcell2 HRow8 HRow9 hml
          have hj0 : (0 : Int) ≤ (j : Int) := by omega
          have hj1 : (j : Int) < (k : Int) := by omega
          have hbs2 := hb.size
          have HB2 := Lib.hid hb
          clear hc1 hc2 hv8 hv9 hrow8 hrow9 hm hq hb
          go_wp2_with fail
          go_still_tail 8, (by kernel_rfl)
          change wpList _ _ _ _ _ ws2.drew
          have R8 := Lib.hid (show Row ws2.drew ws2.drew.heap.size A8 q (ints .u8 m) from HRow8.out)
          have R9 := Lib.hid (show Row ws2.drew ws2.drew.heap.size A9 q (ints .u8 m) from HRow9.out)
          have hbd : Below w3.heap.size w3 ws2.drew := HB2.out.drew
          clear HRow8 HRow9 hcell1 hcell2 HB2
          generalize ws2.drew = ws3 at *
          go_wp2_with fail
          with_reducible refine (eq_yes A8 A9 q q c8 c9 _ _ m ws3 R8.out R9.out (by omega)).mono ?_
          rintro e w4 ⟨rfl, h4⟩
          have hbe := next hbd h4
          go_wp2
          go_roundw
          case rel => exact ⟨j + 1, by omega, by go_num, hbe⟩
          case measure => simp [intOf]; omega
        · obtain rfl : j = k := by omega
          have HBe := Lib.hid (next HB8.out hb)
          clear hb
          go_wp2_with fail
          with_reducible refine (awake_any ws2).mono ?_
          rintro e w4 ⟨rfl, h4⟩
          go_wp2
          go_ret
          exact ⟨rfl, next HBe.out h4⟩
end Go.Proofs.Ytoodchnjikkkkaa
