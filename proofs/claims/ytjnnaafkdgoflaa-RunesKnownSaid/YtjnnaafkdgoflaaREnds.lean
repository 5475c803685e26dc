/- The law's ends: numbers about the ends of ranges. -/
import Derived.Test.YtjnnaafkdgoflaaRSet
namespace Go.Proofs.Ytjnnaafkdgoflaa
open Go.RowKit

def clipz (x : Int) : Int := if x < -2 then -2 else if 1114113 < x then 1114113 else x
theorem clipz_in (x : Int) : -2 ≤ clipz x ∧ clipz x ≤ 1114113 := by unfold clipz; split <;> (try split) <;> omega
set_option maxHeartbeats 1000000 in
theorem Clip_any (x : Int) (w : World) : Calls Try.prog 37 #[.int .i64 x, .int .i64 (-2), .int .i64 1114113] w fun e w' => e = .returned (.int .i64 (clipz x)) ∧ w = w' := by
  by_cases h1 : x < -2
  · have f1 : decide (x < -2) = true := decide_eq_true h1
    have HZ : Hid (clipz x = -2) := Lib.hid (by unfold clipz; rw [if_pos h1])
    clear h1
    go_enter Try.func37, Try.ntmps37
    go_wp2_with fail
    go_ret
    rw [HZ.out]
    exact ⟨rfl, rfl⟩
  · have f1 : decide (x < -2) = false := decide_eq_false h1
    by_cases h2 : 1114113 < x
    · have f2 : decide (1114113 < x) = true := decide_eq_true h2
      have HZ : Hid (clipz x = 1114113) := Lib.hid (by unfold clipz; rw [if_neg h1, if_pos h2])
      clear h1 h2
      go_enter Try.func37, Try.ntmps37
      go_wp2_with fail
      go_ret
      rw [HZ.out]
      exact ⟨rfl, rfl⟩
    · have f2 : decide (1114113 < x) = false := decide_eq_false h2
      have HZ : Hid (clipz x = x) := Lib.hid (by unfold clipz; rw [if_neg h1, if_neg h2])
      clear h1 h2
      go_enter Try.func37, Try.ntmps37
      go_wp2_with fail
      go_ret
      rw [HZ.out]
      exact ⟨rfl, rfl⟩
theorem in_info : (Try.prog.info? 3).map (fun i => (i.zero, i.size, i.bytes)) = some (some (.int .i64 0), 1, 8) := by kernel_rfl
theorem info_partsI {P : Program} {t : TypeId} (h : (P.info? t).map (fun i => (i.zero, i.size, i.bytes)) = some (some (.int .i64 0), 1, 8)) : ∃ i, P.info? t = some i ∧ i.zero = some (.int .i64 0) ∧ i.size = 1 ∧ i.bytes = 8 := by
  rcases hi : P.info? t with _ | i
  · rw [hi] at h; cases h
  · rw [hi] at h
    simp only [Option.map_some, Option.some.injEq, Prod.mk.injEq] at h
    exact ⟨i, rfl, h.1, h.2.1, h.2.2⟩
theorem ownI_slice {w : World} {base n : Nat} {e : TypeId} {v : Value} {xs : List Value} (h : w.ownsRow base e 1 v n xs) : ∃ A c, v = .slice A n c := by
  rcases h.2 with ⟨hv, hn⟩ | ⟨g, cap, cur, hv, _⟩
  · subst hv; subst hn; exact ⟨none, 0, rfl⟩
  · exact ⟨_, _, hv⟩
set_option maxRecDepth 100000 in
set_option maxHeartbeats 4000000 in
theorem ends_any (A : Option Addr) (n c : Nat) (l : List Rg) (r : Int) (w : World) (hr : RowR w w.heap.size A n l) (hn : n ≤ 1000) :
    Calls Try.prog 27 #[.slice A n c, .int .i64 r] w fun e w' => ∃ (Z : List Int) (v : Value), e = .returned v ∧ w'.ownsRow w.heap.size 3 1 v Z.length (ints .i64 Z) ∧ Z.length ≤ 7 + 4 * n ∧ Below w.heap.size w w' := by
  obtain ⟨i0, hi0, hz0, hz1, hz2⟩ := info_partsI in_info
  have HR := Lib.hid hr
  have HC := Lib.hid Clip_any
  clear hr
  have h7 := World.ownsRow_lit (size := 1) (base := w.heap.size) (e := 3) w #[Value.int .i64 (-1), Value.int .i64 0, Value.int .i64 1, Value.int .i64 1114110, Value.int .i64 1114111, Value.int .i64 1114112, Value.int .i64 r] 7 (Nat.le_refl _) (by decide) rfl
  have H7 := Lib.hid h7
  clear h7
  go_enter Try.func27, Try.ntmps27
  go_wp2_with fail
  go_loopw [5, 6] (fun o p wr => ∃ (i : Nat) (Z : List Int), i ≤ n ∧ p = .int .i64 (i : Int) ∧ wr.ownsRow w.heap.size 3 1 o Z.length (ints .i64 Z) ∧ Hid (Z.length = 7 + 4 * i) ∧ Below w.heap.size w wr) (fun _ p _ => n - (intOf p).toNat)
  case atStart => exact ⟨0, [-1, 0, 1, 1114110, 1114111, 1114112, r], by omega, rfl, H7.out, Lib.hid rfl, (Below.refl _ w).alloc (Nat.le_refl _) _⟩
  case round =>
    obtain ⟨i, Z, hi, rfl, hown, HL, hb⟩ := hrel
    by_cases hlt : i < n
    · obtain ⟨b, off, rfl, hbB, hc⟩ := HR.out.2 (by omega)
      obtain ⟨c1, c2⟩ := hc i hlt
      replace c1 := (hb.cell (p := ⟨b, off + i * 2, none⟩) hbB).trans c1
      replace c2 := (hb.cell (p := ⟨b, off + i * 2 + 1, none⟩) hbB).trans c2
      obtain ⟨⟨x1, x2⟩, hx⟩ : ∃ x, l.getD i (0, 0) = x := ⟨_, rfl⟩
      rw [hx] at c1 c2
      dsimp only at c1 c2
      have HC1 := Lib.hid (HC.out x1)
      have HC2 := Lib.hid (HC.out x2)
      have hz1' := clipz_in x1
      have hz2' := clipz_in x2
      generalize clipz x1 = z1 at *
      generalize clipz x2 = z2 at *
      obtain ⟨y1, hy1⟩ : ∃ y, z1 - 1 = y := ⟨_, rfl⟩
      obtain ⟨y2, hy2⟩ : ∃ y, z2 + 1 = y := ⟨_, rfl⟩
      have w1 : IntKind.i64.wrap (z1 - 1) = y1 := by rw [← hy1]; exact wrap_ok (by omega) (by omega)
      have w2 : IntKind.i64.wrap (z2 + 1) = y2 := by rw [← hy2]; exact wrap_ok (by omega) (by omega)
      have hZl := HL.out
      obtain ⟨m, hm⟩ : ∃ m, Z.length = m := ⟨_, rfl⟩
      rw [hm] at hown hZl
      have HL2 : Hid ((Z ++ [y1, z1, z2, y2]).length = 7 + 4 * (i + 1)) := Lib.hid (by rw [List.length_append, hm, hZl]; simp only [List.length_cons, List.length_nil]; omega)
      have HM : Hid ((Z ++ [y1, z1, z2, y2]).length = m + 4) := Lib.hid (by rw [List.length_append, hm]; rfl)
      have g0 : (0 : Int) ≤ (i : Int) := by omega
      have g1 : (i : Int) < (n : Int) := by omega
      have f1 : decide ((i : Int) < (n : Int)) = true := decide_eq_true g1
      have ag : Value.ownBlock u5 ≠ some b := fun h => by have := (hown.lt b h).1; omega
      have hwb : b < wr.heap.size := by have := hb.size; omega
      have hbs := hb.size
      have HBr := Lib.hid hb
      have hm5 : m ≤ 5000 := by omega
      clear hc hx hb hy1 hy2 hz1' hz2' hZl HL hm
      go_wp2_with fail
      go_region_held3 (fun w' => w'.cell? ⟨b, off + i * 2, none⟩ = some (.int .i64 x1) ∧ w'.cell? ⟨b, off + i * 2 + 1, none⟩ = some (.int .i64 x2))
        (first
          | go_keep
          | (go_split_ands
             refine ⟨?_, ?_⟩
             · (rw [hgrow.cell_far _ (by simp; omega) (Ne.symm ag)]; assumption)
             · (rw [hgrow.cell_far _ (by simp; omega) (Ne.symm ag)]; assumption)))
        ((first
          | (go_at_call 37
             first
              | (with_reducible refine (HC1.out _).mono ?_
                 rintro e w' ⟨rfl, rfl⟩)
              | (with_reducible refine (HC2.out _).mono ?_
                 rintro e w' ⟨rfl, rfl⟩))
          | (refine step_append_lies _ (by rfl) _ _ _ (by rfl) w.heap.size 3 i0 _ 1 8 Try.underlying42 hi0 hz0 hz1 hz2 rfl (by omega) u5 m (ints .i64 Z) (by rfl) ((hown.alloc _).drew)
              ⟨wr.heap.size, 0, none⟩ 4 4 [.int .i64 y1, .int .i64 z1, .int .i64 z2, .int .i64 y2] (by rfl) (by rfl) (World.news_of_block (cs := #[.int .i64 y1, .int .i64 z1, .int .i64 z2, .int .i64 y2]) (t := 3) (fr := (0, 0)) (heap_alloc_new wr _)) (by simp [Value.oneCell'])
              (by omega) (by unfold maxLen; omega) (by omega) (by simp; omega) (wr.heap.size + 1) (by simp) ?_; intro gg cap w1 hown1 hgrow hat hlt2)))
      all_goals
        have hb2 : Below w.heap.size w w1 := ((HBr.out.alloc HBr.out.size _).drew).grown hgrow (by show _ ≤ (wr.alloc _).heap.size; simp; omega) (fun k hk => (hown.lt k hk).1)
        have hown2 : w1.ownsRow w.heap.size 3 1 (.slice (some ⟨gg, 0, none⟩) (m + 4) cap) (Z ++ [y1, z1, z2, y2]).length (ints .i64 (Z ++ [y1, z1, z2, y2])) := by
          rw [ints_append, HM.out]; exact hown1
        clear hown hown1 hgrow hat hlt2 HBr ag
        go_wp2_with fail
        exact ⟨⟨i + 1, _, by omega, by go_num, hown2, HL2, hb2⟩, by simp [intOf]; omega⟩
    · have f1 : decide ((i : Int) < (n : Int)) = false := decide_eq_false (by omega)
      have hZ : Z.length ≤ 7 + 4 * n := by have := HL.out; omega
      obtain ⟨A1, c1, rfl⟩ := ownI_slice hown
      have HO := Lib.hid hown
      have HZ := Lib.hid hZ
      clear hown hZ
      go_wp2_with fail
      go_ret
      exact ⟨Z, _, rfl, HO.out, HZ.out, hb⟩
end Go.Proofs.Ytjnnaafkdgoflaa
