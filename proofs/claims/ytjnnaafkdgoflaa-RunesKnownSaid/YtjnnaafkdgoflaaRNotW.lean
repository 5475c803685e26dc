/- Not, walked. -/
import Derived.Test.YtjnnaafkdgoflaaRNot
namespace Go.Proofs.Ytjnnaafkdgoflaa
open Go.RowKit

set_option maxRecDepth 100000 in
set_option maxHeartbeats 8000000 in
theorem Not_sort (HSo : SortSays) (A : Option Addr) (n c : Nat) (l : List Rg) (w : World) (hr : RowR w w.heap.size A n l) (hn : n ≤ 100000000) :
    Calls Try.prog 14 #[.slice A n c] w (OutR 47 w (fun r => isRn r ∧ ¬ has l r)) := by
  obtain ⟨i0, hi0, hz0, hz1, hz2⟩ := info_parts pg_info
  have HC := Lib.hid (Of_sort HSo A n c l w hr hn)
  clear hr
  go_enter Try.func14, Try.ntmps14
  go_wp2_with fail
  with_reducible refine HC.out.mono ?_
  rintro e w2 ⟨A1, c1, P, rfl, hP, o1, b1⟩
  have HR2 := Lib.hid (RowR.own o1)
  have HB2 := Lib.hid b1
  have hsh := hP.1.short
  have HP := Lib.hid hP
  obtain ⟨m, hm⟩ : ∃ m, P.length = m := ⟨_, rfl⟩
  rw [hm] at HR2 hsh ⊢
  have HM := Lib.hid hm
  clear HC hP o1 b1 hm
  go_wp2_with fail
  go_loopw [3, 4, 10] (fun o q p wr => ∃ (i : Nat) (nx : Int) (out : List Rg), i ≤ m ∧ p = .int .i64 (i : Int) ∧ q = .int .i64 nx ∧ Hid (NSt (P.take i) out nx) ∧ Hid (∀ j, i ≤ j → j < m → nx ≤ (P.getD j (0, 0)).1) ∧ wr.ownsRow w2.heap.size 47 2 o out.length (cR out) ∧ Below w2.heap.size w2 wr) (fun _ _ p _ => m - (intOf p).toNat)
  case atStart => exact ⟨0, 0, [], by omega, rfl, rfl, Lib.hid NSt.start, Lib.hid (fun j _ hj => (HP.out.1.1 _ (getD_mem (by rw [HM.out]; exact hj))).1), World.ownsRow_nil _ _ _ _, Below.refl _ _⟩
  case round =>
    obtain ⟨i, nx, out, hi, rfl, rfl, HN, HL, hown, hb⟩ := hrel
    have hns := HN.out
    have hn0 := hns.2.2.1
    have hn1 := hns.2.2.2.1
    have hos := hns.1.short
    by_cases hlt : i < m
    · have hxv := HP.out.1.1 _ (getD_mem (l := P) (j := i) (by rw [HM.out]; exact hlt))
      have hxn := HL.out i (Nat.le_refl _) hlt
      obtain ⟨b, off, rfl, hbB, hc⟩ := HR2.out.2 (by omega)
      obtain ⟨c1', c2'⟩ := hc i hlt
      replace c1' := (hb.cell (p := ⟨b, off + i * 2, none⟩) hbB).trans c1'
      replace c2' := (hb.cell (p := ⟨b, off + i * 2 + 1, none⟩) hbB).trans c2'
      obtain ⟨⟨x1, x2⟩, hx⟩ : ∃ x, P.getD i (0, 0) = x := ⟨_, rfl⟩
      have HT : Hid (P.take (i + 1) = P.take i ++ [(x1, x2)]) := Lib.hid (by rw [take_snocR (by rw [HM.out]; exact hlt), hx])
      have HL2 : Hid (∀ j, i + 1 ≤ j → j < m → x2 + 1 ≤ (P.getD j (0, 0)).1) := Lib.hid (fun j h1 h2 => by
        have hpw := HP.out.1.2
        have h3 : i < P.length := by rw [HM.out]; exact hlt
        have h4 : j < P.length := by rw [HM.out]; exact h2
        have := List.pairwise_iff_getElem.1 hpw i j h3 h4 (by omega)
        rw [List.getD_eq_getElem?_getD, List.getElem?_eq_getElem h3] at hx
        rw [List.getD_eq_getElem?_getD, List.getElem?_eq_getElem h4]
        simp only [Option.getD_some] at hx ⊢
        rw [hx] at this
        dsimp only at this
        omega)
      rw [hx] at c1' c2' hxv hxn
      dsimp only at c1' c2' hxv hxn
      have HV := Lib.hid hxv
      have g0 : (0 : Int) ≤ (i : Int) := by omega
      have g1 : (i : Int) < (m : Int) := by omega
      have f2 : decide ((i : Int) < (m : Int)) = true := decide_eq_true g1
      have w1 : IntKind.i64.wrap (x2 + 1) = x2 + 1 := wrap_ok (by omega) (by omega)
      have HO := Lib.hid hown
      have HBr := Lib.hid hb
      clear hc hx hown hb hns
      by_cases k1 : nx < x1
      · have f3 : decide (nx < x1) = true := decide_eq_true k1
        have w3 : IntKind.i64.wrap (x1 - 1) = x1 - 1 := wrap_ok (by omega) (by omega)
        have HN2 : Hid (NSt (P.take (i + 1)) (out ++ [(nx, x1 - 1)]) (x2 + 1)) := Lib.hid (by rw [HT.out]; exact HN.out.gap HV.out k1)
        have hown := HO.out
        have hb := HBr.out
        clear k1 hxv hxn hn0 hn1
        go_wp2_with (at_builtin; refine wpList_appR _ rfl (.tmp 18) (.tmp 24) 24 rfl w2.heap.size 47 i0 Try.underlying24 hi0 hz0 hz1 hz2 _ _ _ rfl ((hown.alloc _).alloc _) _ _ 1 1 _ rfl (RowR.one2 _ _ _ _ _) (by omega) (by simp; have := hb.size; omega) ?_)
        intro v' w' hown' hgr hb'
        have e9 : w'.cell? ⟨wr.heap.size, 1, none⟩ = some (.int .i64 x2) := by
          have hblk := hgr.block wr.heap.size (by simp; omega) (fun e => by have := (HO.out.lt _ (by first | exact e | exact e.symm)).2; omega)
          rw [World.cell?_of_block (a := ⟨wr.heap.size, 1, none⟩) hblk, World.cell?_alloc_lt _ _ _ (by simp), World.cell?_alloc_at _ _ _ _ (by simp)]
          rfl
        have hb2 : Below w2.heap.size w2 w' := ((hb.alloc hb.size _).alloc (by have := hb.size; simp; omega) _).trans hb'
        rw [← cR_app, show out.length + 1 = (out ++ [(nx, x1 - 1)]).length by rw [List.length_append]; rfl] at hown'
        clear hb hb' hown hgr HO HBr
        go_wp2_with fail
        exact ⟨⟨i + 1, x2 + 1, _, by omega, by go_num, rfl, HN2, HL2, hown', hb2⟩, by simp [intOf]; omega⟩
      · have f3 : decide (nx < x1) = false := decide_eq_false k1
        have HN2 : Hid (NSt (P.take (i + 1)) out (x2 + 1)) := Lib.hid (by rw [HT.out]; exact HN.out.skip HV.out (by dsimp only; omega))
        clear k1 hxv hxn hn0 hn1
        go_wp2_with fail
        exact ⟨⟨i + 1, x2 + 1, out, by omega, by go_num, rfl, HN2, HL2, HO.out.alloc _, HBr.out.alloc HBr.out.size _⟩, by simp [intOf]; omega⟩
    · have f2 : decide ((i : Int) < (m : Int)) = false := decide_eq_false (by omega)
      have hS : ∀ r, (isRn r ∧ ¬ inR (P.take i) r) ↔ (isRn r ∧ ¬ has l r) := fun r => by
        rw [List.take_of_length_le (by rw [HM.out]; omega), HP.out.2 r]
      have HS := Lib.hid hS
      by_cases k1 : nx ≤ 1114111
      · have f3 : decide (nx ≤ 1114111) = true := decide_eq_true k1
        have HF : Hid (Of (fun r => isRn r ∧ ¬ has l r) (out ++ [(nx, 1114111)])) := Lib.hid ((hns.rest k1).same hS)
        clear k1 hns hS hn0 hn1
        go_wp2_with (at_builtin; refine wpList_appR _ rfl (.tmp 32) (.tmp 35) 24 rfl w2.heap.size 47 i0 Try.underlying24 hi0 hz0 hz1 hz2 _ _ _ rfl (hown.alloc _) _ _ 1 1 _ rfl (RowR.one _ _ _ _) (by omega) (by simp; have := hb.size; omega) ?_)
        intro v' w' hown' _ hb'
        have hb2 : Below w2.heap.size w2 w' := (hb.alloc hb.size _).trans hb'
        rw [← cR_app, show out.length + 1 = (out ++ [(nx, (1114111 : Int))]).length by rw [List.length_append]; rfl] at hown'
        obtain ⟨A3, c3, rfl⟩ := ownR_slice hown'
        have o4 := own_lowR HB2.out.size hown'
        have hb4 := next HB2.out hb2
        clear hown hown' hb hb' hb2
        go_wp2_with fail
        go_ret
        exact ⟨A3, c3, _, rfl, HF.out, o4, hb4⟩
      · have f3 : decide (nx ≤ 1114111) = false := decide_eq_false k1
        have HF : Hid (Of (fun r => isRn r ∧ ¬ has l r) out) := Lib.hid ((hns.none (by omega)).same hS)
        obtain ⟨A3, c3, rfl⟩ := ownR_slice hown
        have o4 := own_lowR HB2.out.size hown
        have hb4 := next HB2.out hb
        clear k1 hns hS hn0 hn1 hown hb
        go_wp2_with fail
        go_ret
        exact ⟨A3, c3, out, rfl, HF.out, o4, hb4⟩
end Go.Proofs.Ytjnnaafkdgoflaa
