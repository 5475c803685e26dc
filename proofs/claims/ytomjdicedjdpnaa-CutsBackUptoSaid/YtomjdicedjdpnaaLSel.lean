/- LSel: taken over. -/
import Derived.Test.YtomjdicedjdpnaaLSetQ
import Derived.Maps.Own
import Derived.Maps.OwnOps
import Derived.Maps.OwnSet
import Derived.Maps.Views
namespace Go.Proofs.Ytomjdicedjdpnaa
open Go.RowKit

open Go.RowKit Go.Maps Go.WideMaps

/-- What a choice by a closure over one variable says: in each later world. -/
def PSays (g : Nat) (B : Nat) (w : World) (p : ByteArray → Bool) (x : ByteArray) : Prop :=
  ∀ W, Below w.heap.size w W → Calls Try.prog g #[.string x, .pointer (some ⟨B, 0, none⟩)] W fun e w' => e = .returned (.bool (p x)) ∧ Below W.heap.size W w'
set_option maxRecDepth 100000 in
set_option maxHeartbeats 4000000 in
theorem selected_by (A : Option Addr) (n c : Nat) (l : List Lb) (p : ByteArray → Bool) (B : Nat) (w : World) (hr : RowL w w.heap.size A n l) (hn : n ≤ 10000000) (hP : ∀ x ∈ l, PSays 44 B w p x.1) :
    Calls Try.prog 43 #[.slice A n c, .func (.func 44) #[] #[.pointer (some ⟨B, 0, none⟩)]] w (LOut w (pickL l p)) := by
  obtain ⟨i0, hi0, hz0, hz1, hz2⟩ := info_partsL lb_info
  have HC := Lib.hid (isOrdered_any A n c l w hr (by omega))
  have HL := Lib.hid hr.1
  have HR := Lib.hid hr
  have HPs := Lib.hid hP
  clear hr hP
  by_cases hO : Ord l
  · have C := HC.out
    rw [decide_eq_true hO] at C
    replace C := Lib.hid C
    have HP : Hid (pickL l p = l.filter (fun x => p x.1)) := Lib.hid (by rw [pickL, if_pos hO])
    clear hO HC
    go_enter Try.func43, Try.ntmps43
    go_wp2_with fail
    with_reducible refine C.out.mono ?_
    rintro e w1 ⟨rfl, b1⟩
    have HB1 := Lib.hid b1
    clear C b1
    go_wp2_with fail
    go_loopw [5, 13] (fun o q wr => ∃ i : Nat, i ≤ n ∧ q = .int .i64 (i : Int) ∧ wr.ownsRow w.heap.size 77 2 o ((l.take i).filter (fun x => p x.1)).length (cL ((l.take i).filter (fun x => p x.1))) ∧ Below w.heap.size w wr) (fun _ q _ => n - (intOf q).toNat)
    case atStart => exact ⟨0, by omega, rfl, World.ownsRow_nil _ _ _ _, HB1.out⟩
    case round =>
      obtain ⟨i, hi, rfl, hown, hb⟩ := hrel
      by_cases hlt : i < n
      · obtain ⟨b, off, rfl, hbB, hc⟩ := HR.out.2 (by omega)
        obtain ⟨c1, c2⟩ := hc i hlt
        replace c1 := (hb.cell (p := ⟨b, off + i * 2, none⟩) hbB).trans c1
        replace c2 := (hb.cell (p := ⟨b, off + i * 2 + 1, none⟩) hbB).trans c2
        have hmem := getD_memL (l := l) (j := i) (by rw [HL.out]; exact hlt)
        obtain ⟨x, hx⟩ : ∃ x, l.getD i noL = x := ⟨_, rfl⟩
        rw [hx] at c1 c2 hmem
        have HX := Lib.hid hx
        obtain ⟨x1, x2⟩ := x
        dsimp only at c1 c2
        have HC2 := Lib.hid (HPs.out _ hmem)
        dsimp only at HC2
        have g0 : (0 : Int) ≤ (i : Int) := by omega
        have g1 : (i : Int) < (n : Int) := by omega
        have f1 : decide ((i : Int) < (n : Int)) = true := decide_eq_true g1
        have hbx : Below w.heap.size w (wr.alloc (.cells #[.string x1, .string x2] 77)) := hb.alloc hb.size _
        have C2 := HC2.out _ hbx
        obtain ⟨t, ht⟩ : ∃ t, p x1 = t := ⟨_, rfl⟩
        rw [ht] at C2
        replace C2 := Lib.hid C2
        have HN : Hid (((l.take (i + 1)).filter (fun x => p x.1)) = ((l.take i).filter (fun x => p x.1)) ++ (if t = true then [(x1, x2)] else [])) := Lib.hid (by
          rw [filter_snoc _ (by rw [HL.out]; exact hlt) HX.out]; dsimp only; rw [ht])
        have hfl := filter_le (fun x => p x.1) l i
        rw [HL.out] at hfl
        obtain ⟨F, hF⟩ : ∃ F, (l.take i).filter (fun x => p x.1) = F := ⟨_, rfl⟩
        rw [hF] at hown hfl HN
        have ho1 := Lib.hid (hown.alloc (.cells #[.string x1, .string x2] 77))
        have hb1 := Lib.hid hbx
        have d1 : (wr.alloc (.cells #[.string x1, .string x2] 77)).cell? ⟨wr.heap.size, 0, none⟩ = some (.string x1) := by rw [World.cell?_alloc_at _ _ _ _ (by simp)]; rfl
        have d2 : (wr.alloc (.cells #[.string x1, .string x2] 77)).cell? ⟨wr.heap.size, 1, none⟩ = some (.string x2) := by rw [World.cell?_alloc_at _ _ _ _ (by simp)]; rfl
        have hsz : wr.heap.size < (wr.alloc (.cells #[.string x1, .string x2] 77)).heap.size := by rw [World.size_alloc]; omega
        have HD := Lib.hid (And.intro hsz (And.intro d1 d2))
        clear hc hx hmem ht HC2 hF hown hb hbx d1 d2 hsz
        go_wp2_with fail
        with_reducible refine C2.out.mono ?_
        rintro e w3 ⟨rfl, b3⟩
        have ho3 := own_onL ho1.out b3
        have hb3 := hb1.out.trans (b3.mono hb1.out.size)
        have e1 := (b3.cell (p := ⟨wr.heap.size, 0, none⟩) HD.out.1).trans HD.out.2.1
        have e2 := (b3.cell (p := ⟨wr.heap.size, 1, none⟩) HD.out.1).trans HD.out.2.2
        clear C2 b3 HD
        by_cases htt : t = true
        · rw [if_pos htt] at HN
          subst htt
          have hbs := hb3.size
          go_wp2_with (at_builtin; refine wpList_appL _ rfl (.tmp 21) (.tmp 23) 31 rfl w.heap.size 77 i0 Try.underlying31 hi0 hz0 hz1 hz2 _ _ _ rfl (ho3.alloc _) _ _ 1 1 _ rfl (RowL.one _ _ _ _) (by omega) (by simp; omega) ?_)
          intro v' w' hown' _ hb'
          have hb4 : Below w.heap.size w w' := (hb3.alloc hb3.size _).trans hb'
          have ho4 : w'.ownsRow w.heap.size 77 2 v' ((l.take (i + 1)).filter (fun x => p x.1)).length (cL ((l.take (i + 1)).filter (fun x => p x.1))) := by
            rw [HN.out, cL_app, List.length_append]; exact hown'
          clear ho3 hown' hb'
          go_wp2_with fail
          exact ⟨⟨i + 1, hlt, by go_num, ho4, hb4⟩, by simp [intOf]; omega⟩
        · rw [if_neg htt, List.append_nil] at HN
          have htf := Bool.eq_false_iff.2 htt
          subst htf
          clear htt
          go_wp2_with fail
          exact ⟨⟨i + 1, hlt, by go_num, by rw [HN.out]; exact ho3, hb3⟩, by simp [intOf]; omega⟩
      · have f1 : decide ((i : Int) < (n : Int)) = false := decide_eq_false (by omega)
        rw [List.take_of_length_le (by rw [HL.out]; omega), ← HP.out] at hown
        obtain ⟨A1, c1, rfl⟩ := ownL_slice hown
        have HOw := Lib.hid hown
        clear hown
        go_wp2_with fail
        go_ret
        exact ⟨A1, c1, rfl, HOw.out, hb⟩
  · have C := HC.out
    rw [decide_eq_false hO] at C
    replace C := Lib.hid C
    have HP : Hid (pickL l p = []) := Lib.hid (by rw [pickL, if_neg hO])
    rw [HP.out]
    clear hO HC HP
    go_enter Try.func43, Try.ntmps43
    go_wp2_with fail
    with_reducible refine C.out.mono ?_
    rintro e w1 ⟨rfl, b1⟩
    clear C
    go_wp2_with fail
    go_ret
    exact ⟨none, 0, rfl, World.ownsRow_nil _ _ _ _, b1⟩
end Go.Proofs.Ytomjdicedjdpnaa
