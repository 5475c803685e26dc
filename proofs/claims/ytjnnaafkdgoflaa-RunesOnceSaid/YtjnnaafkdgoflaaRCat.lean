/- slices.Concat of Sets; Join, Both. -/
import Derived.Test.YtjnnaafkdgoflaaRGrow
import Derived.Test.YtjnnaafkdgoflaaROf2
import Derived.Test.YtjnnaafkdgoflaaRNotW
namespace Go.Proofs.Ytjnnaafkdgoflaa
open Go.RowKit

/-- A slice of Sets, each a row of its own. -/
def SetsR (w : World) (B : Nat) (A : Option Addr) (n : Nat) (ls : List (List Rg)) : Prop :=
  ls.length = n ∧ (0 < n → ∃ b off, A = some ⟨b, off, none⟩ ∧ b < B ∧ ∀ j, j < n → ∃ A' n' c', w.cell? ⟨b, off + j, none⟩ = some (.slice A' n' c') ∧ RowR w B A' n' (ls.getD j []))
theorem SetsR.on {w w' : World} {A : Option Addr} {n : Nat} {ls : List (List Rg)} (h : SetsR w w.heap.size A n ls) (hb : Below w.heap.size w w') : SetsR w' w'.heap.size A n ls :=
  ⟨h.1, fun h0 => by
    obtain ⟨b, off, e, hb', hc⟩ := h.2 h0
    refine ⟨b, off, e, Nat.lt_of_lt_of_le hb' hb.size, fun j hj => ?_⟩
    obtain ⟨A', n', c', h1, h2⟩ := hc j hj
    exact ⟨A', n', c', (hb.cell (p := ⟨b, off + j, none⟩) hb').trans h1, h2.on hb⟩⟩
/-- How many ranges the first Sets have. -/
theorem take_flat {ls : List (List Rg)} {i : Nat} (h : i < ls.length) : (ls.take (i + 1)).flatten = (ls.take i).flatten ++ ls.getD i [] := by
  rw [List.take_succ_eq_append_getElem h, List.flatten_append, List.getD_eq_getElem?_getD, List.getElem?_eq_getElem h]
  simp
theorem flat_le (ls : List (List Rg)) (i : Nat) : (ls.take i).flatten.length ≤ ls.flatten.length := by
  conv => rhs; rw [← List.take_append_drop i ls, List.flatten_append, List.length_append]
  omega
set_option maxRecDepth 100000 in
set_option maxHeartbeats 4000000 in
theorem Concat_any (A : Option Addr) (n c : Nat) (ls : List (List Rg)) (w : World) (hr : SetsR w w.heap.size A n ls) (hn : n ≤ 1000) (hs : ls.flatten.length ≤ 100000000) :
    Calls Try.prog 36 #[.slice A n c] w fun e w' => ∃ v, e = .returned v ∧ w'.ownsRow w.heap.size 47 2 v ls.flatten.length (cR ls.flatten) ∧ Below w.heap.size w w' := by
  obtain ⟨i0, hi0, hz0, hz1, hz2⟩ := info_parts pg_info
  have HR := Lib.hid hr
  have HL := Lib.hid hr.1
  clear hr
  go_enter Try.func36, Try.ntmps36
  go_wp2_with fail
  go_loopw [3, 11] (fun q p wr => ∃ (i : Nat) (z : Nat), i ≤ n ∧ p = .int .i64 (i : Int) ∧ q = .int .i64 (z : Int) ∧ Hid ((ls.take i).flatten.length = z) ∧ Below w.heap.size w wr) (fun _ p _ => n - (intOf p).toNat)
  case atStart => exact ⟨0, 0, by omega, rfl, rfl, Lib.hid rfl, Below.refl _ _⟩
  case round =>
    obtain ⟨i, z, hi, rfl, rfl, HZ, hb⟩ := hrel
    by_cases hlt : i < n
    · obtain ⟨b, off, rfl, hbB, hc⟩ := HR.out.2 (by omega)
      obtain ⟨A', n', c', c1, hrow⟩ := hc i hlt
      replace c1 := (hb.cell (p := ⟨b, off + i, none⟩) hbB).trans c1
      have hz2' : (ls.take (i + 1)).flatten.length = z + n' := by
        rw [take_flat (by rw [HL.out]; exact hlt), List.length_append, HZ.out, hrow.1]
      have hzb := flat_le ls (i + 1)
      rw [hz2'] at hzb
      have HZ2 := Lib.hid hz2'
      have g0 : (0 : Int) ≤ (i : Int) := by omega
      have g1 : (i : Int) < (n : Int) := by omega
      have f1 : decide ((i : Int) < (n : Int)) = true := decide_eq_true g1
      obtain ⟨s, hs'⟩ : ∃ s : Int, (z : Int) + (n' : Int) = s := ⟨_, rfl⟩
      have w1 : IntKind.i64.wrap ((z : Int) + (n' : Int)) = s := by rw [← hs']; exact wrap_ok (by omega) (by omega)
      have f2 : decide (s < 0) = false := decide_eq_false (by omega)
      have HS2 : Hid (((z + n' : Nat) : Int) = s) := Lib.hid (by rw [← hs']; push_cast; rfl)
      have HBr := Lib.hid hb
      clear hc hrow hz2' hzb hs' hb
      go_wp2_with fail
      exact ⟨⟨i + 1, z + n', by omega, by go_num, by rw [HS2.out], HZ2, HBr.out⟩, by simp [intOf]; omega⟩
    · rename World => wa
      have hin : i = n := by omega
      have f1 : decide ((i : Int) < (n : Int)) = false := decide_eq_false (by omega)
      have hzf : ls.flatten.length = z := by
        have := HZ.out
        rwa [List.take_of_length_le (by rw [HL.out]; omega)] at this
      have HG := Lib.hid (Grow_any z (by omega) wa)
      have HB := Lib.hid hb
      clear hin hzf hb HZ hi
      go_wp2_with fail
      with_reducible refine HG.out.mono ?_
      rintro e w2 ⟨v2, rfl, o2, b2⟩
      have ho2 : w2.ownsRow wa.heap.size 47 2 v2 ([] : List Rg).length (cR []) := o2
      have HO2 := Lib.hid ho2
      have HB2 := Lib.hid b2
      clear HG o2 ho2 b2
      go_wp2_with fail
      go_loopw [6, 27] (fun o p w3 => ∃ (i : Nat), i ≤ n ∧ p = .int .i64 (i : Int) ∧ w3.ownsRow wa.heap.size 47 2 o (ls.take i).flatten.length (cR (ls.take i).flatten) ∧ Below wa.heap.size wa w3) (fun _ p _ => n - (intOf p).toNat)
      case atStart => exact ⟨0, by omega, rfl, HO2.out, HB2.out⟩
      case round =>
        obtain ⟨i, hi, rfl, hown, hb⟩ := hrel
        by_cases hlt : i < n
        · obtain ⟨b, off, rfl, hbB, hc⟩ := HR.out.2 (by omega)
          obtain ⟨A', n', c', c1, hrow⟩ := hc i hlt
          have hbw := next HB.out hb
          replace c1 := (hbw.cell (p := ⟨b, off + i, none⟩) hbB).trans c1
          have hrow3 := hrow.on hbw
          have HF : Hid ((ls.take (i + 1)).flatten = (ls.take i).flatten ++ ls.getD i []) := Lib.hid (take_flat (by rw [HL.out]; exact hlt))
          have hzb : (ls.take i).flatten.length + n' ≤ 100000000 := by
            have h1 := flat_le ls (i + 1)
            rw [HF.out, List.length_append, hrow.1] at h1
            omega
          have g0 : (0 : Int) ≤ (i : Int) := by omega
          have g1 : (i : Int) < (n : Int) := by omega
          have f1 : decide ((i : Int) < (n : Int)) = true := decide_eq_true g1
          have HN : Hid ((ls.getD i []).length = n') := Lib.hid hrow.1
          have hbs := hb.size
          have HBr := Lib.hid hb
          generalize (ls.take i).flatten = P at *
          generalize ls.getD i [] = q at *
          obtain ⟨k, hk⟩ : ∃ k, P.length = k := ⟨_, rfl⟩
          rw [hk] at hown hzb
          have HK := Lib.hid hk
          clear hc hrow hbw hb hk
          go_wp2_with (at_builtin; refine wpList_appR _ rfl (.tmp 31) (.tmp 32) 24 rfl wa.heap.size 47 i0 Try.underlying24 hi0 hz0 hz1 hz2 _ _ _ rfl hown _ _ _ _ _ rfl hrow3 (by omega) hbs ?_)
          intro v' w' hown' _ hb'
          have hb2 := Lib.hid (HBr.out.trans hb')
          have ho2 : Hid (w'.ownsRow wa.heap.size 47 2 v' (ls.take (i + 1)).flatten.length (cR (ls.take (i + 1)).flatten)) := Lib.hid (by
            rw [HF.out, cR_app, List.length_append, HN.out, HK.out]; exact hown')
          clear hown hown' hrow3 hb' HBr hbs
          go_wp2_with fail
          exact ⟨⟨i + 1, by omega, by go_num, ho2.out, hb2.out⟩, by simp [intOf]; omega⟩
        · have f1 : decide ((i : Int) < (n : Int)) = false := decide_eq_false (by omega)
          rw [List.take_of_length_le (by rw [HL.out]; omega)] at hown
          have HO3 := Lib.hid (own_lowR HB.out.size hown)
          have HB3 := Lib.hid (next HB.out hb)
          obtain ⟨A4, c4, rfl⟩ := ownR_slice hown
          clear hown hb
          go_wp2_with fail
          go_ret
          exact ⟨_, rfl, HO3.out, HB3.out⟩
theorem has_flat_nil (r : Int) : ¬ has ([] : List (List Rg)).flatten r := fun h => inR_nil r h.2
theorem has_app (a b : List Rg) (r : Int) : has (a ++ b) r ↔ has a r ∨ has b r := by
  unfold has
  rw [inR_append]
  exact ⟨fun ⟨h, k⟩ => k.imp (fun k => ⟨h, k⟩) (fun k => ⟨h, k⟩), fun h => h.elim (fun k => ⟨k.1, .inl k.2⟩) (fun k => ⟨k.1, .inr k.2⟩)⟩
set_option maxRecDepth 100000 in
set_option maxHeartbeats 1000000 in
theorem Join_any (A : Option Addr) (n c : Nat) (ls : List (List Rg)) (w : World) (hr : SetsR w w.heap.size A n ls) (hn : n ≤ 1000) (hs : ls.flatten.length ≤ 100000000) :
    Calls Try.prog 23 #[.slice A n c] w (OutR 47 w (has ls.flatten)) := by
  have HC := Lib.hid (Concat_any A n c ls w hr hn hs)
  clear hr
  generalize ls.flatten = l at *
  go_enter Try.func23, Try.ntmps23
  go_wp2_with fail
  with_reducible refine HC.out.mono ?_
  rintro e w2 ⟨v2, rfl, o2, b2⟩
  obtain ⟨A2, c2, rfl⟩ := ownR_slice o2
  have HC2 := Lib.hid (Of_any A2 l.length c2 l w2 (RowR.own o2) hs)
  have HB2 := Lib.hid b2
  clear HC o2 b2
  go_wp2_with fail
  with_reducible refine HC2.out.mono ?_
  rintro e w3 ⟨A3, c3, l3, rfl, h3, o3, b3⟩
  have HO3 := Lib.hid (own_lowR HB2.out.size o3)
  have HB3 := Lib.hid (next HB2.out b3)
  have HF := Lib.hid h3
  clear HC2 HB2 h3 o3 b3
  go_wp2_with fail
  go_ret
  exact ⟨A3, c3, l3, rfl, HF.out, HO3.out, HB3.out⟩
/-- Two Sets, just laid side by side. -/
theorem SetsR.two {w : World} {A A' : Option Addr} {n m : Nat} {a b : List Rg} (hr : RowR w w.heap.size A n a) (hs : RowR w w.heap.size A' m b) (c c' : Nat) (e : TypeId) :
    SetsR (w.alloc (.cells #[.slice A n c, .slice A' m c'] e)) (w.alloc (.cells #[.slice A n c, .slice A' m c'] e)).heap.size (some ⟨w.heap.size, 0, none⟩) 2 [a, b] := by
  refine ⟨rfl, fun _ => ⟨w.heap.size, 0, rfl, by simp, fun j hj => ?_⟩⟩
  have hb : Below w.heap.size w (w.alloc (.cells #[.slice A n c, .slice A' m c'] e)) := (Below.refl _ w).alloc (Nat.le_refl _) _
  match j, hj with
  | 0, _ => exact ⟨A, n, c, by rw [World.cell?_alloc_at _ _ _ _ (by simp)]; rfl, hr.on hb⟩
  | 1, _ => exact ⟨A', m, c', by rw [World.cell?_alloc_at _ _ _ _ (by simp)]; rfl, hs.on hb⟩
set_option maxRecDepth 100000 in
set_option maxHeartbeats 1000000 in
theorem Not_any (A : Option Addr) (n c : Nat) (l : List Rg) (w : World) (hr : RowR w w.heap.size A n l) (hn : n ≤ 100000000) :
    Calls Try.prog 14 #[.slice A n c] w (OutR 47 w (fun r => isRn r ∧ ¬ has l r)) := Not_sort sort_any A n c l w hr hn
set_option maxRecDepth 100000 in
set_option maxHeartbeats 4000000 in
theorem Both_any (A A' : Option Addr) (n m c c' : Nat) (a b : List Rg) (w : World) (hr : RowR w w.heap.size A n a) (hs : RowR w w.heap.size A' m b) (hn : n ≤ 10000000) (hm : m ≤ 10000000) :
    Calls Try.prog 24 #[.slice A n c, .slice A' m c'] w (OutR 47 w (fun r => has a r ∧ has b r)) := by
  have HC1 := Lib.hid (Not_any A n c a w hr (by omega))
  have HC2 := Lib.hid (fun w' (hb : Below w.heap.size w w') => Not_any A' m c' b w' (hs.on hb) (by omega))
  clear hr hs
  go_enter Try.func24, Try.ntmps24
  go_wp2_with fail
  with_reducible refine HC1.out.mono ?_
  rintro e w1 ⟨A1, c1, l1, rfl, h1, o1, b1⟩
  have HO1 := Lib.hid h1
  have HR1 := Lib.hid (RowR.own o1)
  have HC3 := Lib.hid (HC2.out w1 b1)
  have HB1 := Lib.hid b1
  clear HC1 HC2 h1 o1 b1
  go_wp2_with fail
  with_reducible refine HC3.out.mono ?_
  rintro e w2 ⟨A2, c2, l2, rfl, h2, o2, b2⟩
  have HO2 := Lib.hid h2
  have hr1 := HR1.out.on b2
  have hr2 := RowR.own o2
  have hb2 := next HB1.out b2
  have HS := Lib.hid (SetsR.two hr1 hr2 c1 c2 24)
  have HBA : Hid (Below w.heap.size w (w2.alloc (.cells #[.slice A1 l1.length c1, .slice A2 l2.length c2] 24))) := Lib.hid (hb2.alloc hb2.size _)
  have HC4 := Lib.hid (Join_any (some ⟨w2.heap.size, 0, none⟩) 2 2 [l1, l2] _ HS.out (by omega) (by simp; have := h2.1.short; have := HO1.out.1.short; omega))
  clear HC3 h2 o2 b2 hr1 hr2 hb2 HR1 HB1 HS
  go_wp2_with fail
  with_reducible refine HC4.out.mono ?_
  rintro e w3 ⟨A3, c3, l3, rfl, h3, o3, b3⟩
  have HB3 := Lib.hid (next HBA.out b3)
  have HC5 := Lib.hid (Not_any A3 l3.length c3 l3 w3 (RowR.own o3) (by have := h3.1.short; omega))
  have HF : Hid (∀ r, (isRn r ∧ ¬ has l3 r) ↔ (has a r ∧ has b r)) := Lib.hid (fun r => by
    rw [h3.has r]
    simp only [List.flatten_cons, List.flatten_nil, List.append_nil]
    rw [has_app, HO1.out.has r, HO2.out.has r]
    constructor
    · rintro ⟨k0, k1⟩
      exact ⟨Classical.byContradiction fun k => k1 (.inl ⟨k0, k⟩), Classical.byContradiction fun k => k1 (.inr ⟨k0, k⟩)⟩
    · rintro ⟨k1, k2⟩
      exact ⟨k1.1, fun q => q.elim (fun q => q.2 k1) (fun q => q.2 k2)⟩)
  clear HC4 HBA h3 o3 b3 HO1 HO2
  go_wp2_with fail
  with_reducible refine HC5.out.mono ?_
  rintro e w5 ⟨A5, c5, l5, rfl, h5, o5, b5⟩
  have HF5 := Lib.hid (h5.same HF.out)
  have HB5 := Lib.hid (next HB3.out b5)
  have HO5 := Lib.hid (own_lowR HB3.out.size o5)
  clear h5 HC5 o5 b5 HF HB3
  go_wp2_with fail
  go_ret
  exact ⟨A5, c5, l5, rfl, HF5.out, HO5.out, HB5.out⟩
end Go.Proofs.Ytjnnaafkdgoflaa
