/- The laws' set and ranges. -/
import Derived.Test.YtjnnaafkdgoflaaRSame
import Derived.Deep.AppendLies
import Derived.Deep.RegionHeld3
namespace Go.Proofs.Ytjnnaafkdgoflaa
open Go.RowKit

set_option maxRecDepth 100000 in
set_option maxHeartbeats 4000000 in
theorem set_any (A : Option Addr) (n c : Nat) (l : List Rg) (w : World) (hr : RowR w w.heap.size A n l) (hn : n ≤ 100000000) :
    Calls Try.prog 9 #[.slice A n c] w fun e w' => ∃ A' c', e = .returned (.slice A' n c') ∧ w'.ownsRow w.heap.size 47 2 (.slice A' n c') n (cR l) ∧ Below w.heap.size w w' := by
  obtain ⟨i0, hi0, hz0, hz1, hz2⟩ := info_parts pg_info
  have HR := Lib.hid hr
  have hl := hr.1
  clear hr
  go_enter Try.func9, Try.ntmps9
  go_wp2_with fail
  go_loopw [3, 4] (fun o p wr => ∃ i : Nat, i ≤ n ∧ p = .int .i64 (i : Int) ∧ wr.ownsRow w.heap.size 47 2 o i (cR (l.take i)) ∧ Below w.heap.size w wr) (fun _ p _ => n - (intOf p).toNat)
  case atStart => exact ⟨0, by omega, rfl, World.ownsRow_nil _ _ _ _, Below.refl _ _⟩
  case round =>
    obtain ⟨i, hi, rfl, hown, hb⟩ := hrel

    by_cases hlt : i < n
    · obtain ⟨b, off, rfl, hbB, hc⟩ := HR.out.2 (by omega)
      obtain ⟨c1, c2⟩ := hc i hlt
      replace c1 := (hb.cell (p := ⟨b, off + i * 2, none⟩) hbB).trans c1
      replace c2 := (hb.cell (p := ⟨b, off + i * 2 + 1, none⟩) hbB).trans c2
      obtain ⟨⟨x1, x2⟩, hx⟩ : ∃ x, l.getD i (0, 0) = x := ⟨_, rfl⟩
      have HT : Hid (l.take (i + 1) = l.take i ++ [(x1, x2)]) := Lib.hid (by rw [take_snocR (by omega), hx])
      rw [hx] at c1 c2
      dsimp only at c1 c2
      have g0 : (0 : Int) ≤ (i : Int) := by omega
      have g1 : (i : Int) < (n : Int) := by omega
      have ag : Value.ownBlock u3 ≠ some b := fun h => by have := (hown.lt b h).1; omega
      have hwb : b < wr.heap.size := by have := hb.size; omega
      have hbs := hb.size
      have HBr := Lib.hid hb
      clear hc hx hb
      go_wp2_with fail
      go_region_held3 (fun w' => w'.cell? ⟨b, off + i * 2, none⟩ = some (.int .i64 x1) ∧ w'.cell? ⟨b, off + i * 2 + 1, none⟩ = some (.int .i64 x2))
        (first
          | go_keep
          | (go_split_ands
             refine ⟨?_, ?_⟩
             · (rw [hgrow.cell_far _ (by simp; omega) (Ne.symm ag)]; assumption)
             · (rw [hgrow.cell_far _ (by simp; omega) (Ne.symm ag)]; assumption)))
        ((refine step_append_lies _ (by rfl) _ _ _ (by rfl) w.heap.size 47 i0 _ 2 16 Try.underlying24 hi0 hz0 hz1 hz2 rfl (by omega) u3 i (cR (l.take i)) (by rfl) ((hown.alloc _).drew)
            ⟨wr.heap.size, 0, none⟩ 1 1 [.int .i64 x1, .int .i64 x2] (by rfl) (by rfl) (World.news_of_block (cs := #[.int .i64 x1, .int .i64 x2]) (t := 47) (fr := (0, 0)) (heap_alloc_new wr _)) (by simp [Value.oneCell'])
            (by omega) (by unfold maxLen; omega) (by omega) (by simp; omega) (wr.heap.size + 1) (by simp) ?_; intro gg cap w1 hown1 hgrow hat hlt2))
      have hb2 : Below w.heap.size w w1 := ((HBr.out.alloc HBr.out.size _).drew).grown hgrow (by show _ ≤ (wr.alloc _).heap.size; simp; omega) (fun k hk => (hown.lt k hk).1)
      have hown2 : w1.ownsRow w.heap.size 47 2 (.slice (some ⟨gg, 0, none⟩) (i + 1) cap) (i + 1) (cR (l.take (i + 1))) := by
        rw [HT.out, cR_snoc]; exact hown1
      clear hown hown1 hgrow hat hlt2 HBr ag
      go_wp2_with fail
      exact ⟨⟨i + 1, by omega, by go_num, hown2, hb2⟩, by simp [intOf]; omega⟩
    · have hin : i = n := by omega
      have f1 : decide ((i : Int) < (n : Int)) = false := decide_eq_false (by omega)
      rw [List.take_of_length_le (by omega)] at hown
      have hown' : wr.ownsRow w.heap.size 47 2 _ n (cR l) := hin ▸ hown
      obtain ⟨A1, c1, rfl⟩ := ownR_slice hown'
      clear hown hin
      go_wp2_with fail
      go_ret
      exact ⟨A1, c1, rfl, hown', hb⟩
set_option maxRecDepth 100000 in
set_option maxHeartbeats 4000000 in
theorem ranges_any (A : Option Addr) (n c : Nat) (l : List Rg) (w : World) (hr : RowR w w.heap.size A n l) (hn : n ≤ 100000000) :
    Calls Try.prog 11 #[.slice A n c] w fun e w' => ∃ A' c', e = .returned (.slice A' n c') ∧ w'.ownsRow w.heap.size 45 2 (.slice A' n c') n (cR l) ∧ Below w.heap.size w w' := by
  obtain ⟨i0, hi0, hz0, hz1, hz2⟩ := info_parts rg_info
  have HR := Lib.hid hr
  have hl := hr.1
  clear hr
  go_enter Try.func11, Try.ntmps11
  go_wp2_with fail
  go_loopw [3, 4] (fun o p wr => ∃ i : Nat, i ≤ n ∧ p = .int .i64 (i : Int) ∧ wr.ownsRow w.heap.size 45 2 o i (cR (l.take i)) ∧ Below w.heap.size w wr) (fun _ p _ => n - (intOf p).toNat)
  case atStart => exact ⟨0, by omega, rfl, World.ownsRow_nil _ _ _ _, Below.refl _ _⟩
  case round =>
    obtain ⟨i, hi, rfl, hown, hb⟩ := hrel

    by_cases hlt : i < n
    · obtain ⟨b, off, rfl, hbB, hc⟩ := HR.out.2 (by omega)
      obtain ⟨c1, c2⟩ := hc i hlt
      replace c1 := (hb.cell (p := ⟨b, off + i * 2, none⟩) hbB).trans c1
      replace c2 := (hb.cell (p := ⟨b, off + i * 2 + 1, none⟩) hbB).trans c2
      obtain ⟨⟨x1, x2⟩, hx⟩ : ∃ x, l.getD i (0, 0) = x := ⟨_, rfl⟩
      have HT : Hid (l.take (i + 1) = l.take i ++ [(x1, x2)]) := Lib.hid (by rw [take_snocR (by omega), hx])
      rw [hx] at c1 c2
      dsimp only at c1 c2
      have g0 : (0 : Int) ≤ (i : Int) := by omega
      have g1 : (i : Int) < (n : Int) := by omega
      have ag : Value.ownBlock u3 ≠ some b := fun h => by have := (hown.lt b h).1; omega
      have hwb : b < wr.heap.size := by have := hb.size; omega
      have hbs := hb.size
      have HBr := Lib.hid hb
      clear hc hx hb
      go_wp2_with fail
      go_region_held3 (fun w' => w'.cell? ⟨b, off + i * 2, none⟩ = some (.int .i64 x1) ∧ w'.cell? ⟨b, off + i * 2 + 1, none⟩ = some (.int .i64 x2))
        (first
          | go_keep
          | (go_split_ands
             refine ⟨?_, ?_⟩
             · (rw [hgrow.cell_far _ (by simp; omega) (Ne.symm ag)]; assumption)
             · (rw [hgrow.cell_far _ (by simp; omega) (Ne.symm ag)]; assumption)))
        ((refine step_append_lies _ (by rfl) _ _ _ (by rfl) w.heap.size 45 i0 _ 2 16 Try.underlying22 hi0 hz0 hz1 hz2 rfl (by omega) u3 i (cR (l.take i)) (by rfl) ((hown.alloc _).drew)
            ⟨wr.heap.size, 0, none⟩ 1 1 [.int .i64 x1, .int .i64 x2] (by rfl) (by rfl) (World.news_of_block (cs := #[.int .i64 x1, .int .i64 x2]) (t := 45) (fr := (0, 0)) (heap_alloc_new wr _)) (by simp [Value.oneCell'])
            (by omega) (by unfold maxLen; omega) (by omega) (by simp; omega) (wr.heap.size + 1) (by simp) ?_; intro gg cap w1 hown1 hgrow hat hlt2))
      have hb2 : Below w.heap.size w w1 := ((HBr.out.alloc HBr.out.size _).drew).grown hgrow (by show _ ≤ (wr.alloc _).heap.size; simp; omega) (fun k hk => (hown.lt k hk).1)
      have hown2 : w1.ownsRow w.heap.size 45 2 (.slice (some ⟨gg, 0, none⟩) (i + 1) cap) (i + 1) (cR (l.take (i + 1))) := by
        rw [HT.out, cR_snoc]; exact hown1
      clear hown hown1 hgrow hat hlt2 HBr ag
      go_wp2_with fail
      exact ⟨⟨i + 1, by omega, by go_num, hown2, hb2⟩, by simp [intOf]; omega⟩
    · have hin : i = n := by omega
      have f1 : decide ((i : Int) < (n : Int)) = false := decide_eq_false (by omega)
      rw [List.take_of_length_le (by omega)] at hown
      have hown' : wr.ownsRow w.heap.size 45 2 _ n (cR l) := hin ▸ hown
      obtain ⟨A1, c1, rfl⟩ := ownR_slice hown'
      clear hown hin
      go_wp2_with fail
      go_ret
      exact ⟨A1, c1, rfl, hown', hb⟩
end Go.Proofs.Ytjnnaafkdgoflaa
