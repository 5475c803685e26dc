/- nat.Add. -/
import Derived.Test.YtlpfcilgndbopaaDoorNOf
namespace Go.Proofs.YtlpfcilgndbopaaDoor
open Go.RowKit

theorem set_next {N k : Nat} {s : List Int} (d : Int) (hs : s.length = k) (hk : k < N) : (ints .u32 (s ++ List.replicate (N - k) 0)).set k (.int .u32 d) = ints .u32 ((s ++ [d]) ++ List.replicate (N - (k + 1)) 0) := by
  subst hs
  unfold ints
  rw [← List.map_set, List.set_append_right _ _ (Nat.le_refl _), Nat.sub_self, show N - s.length = (N - (s.length + 1)) + 1 by omega, List.replicate_succ, List.set_cons_zero, List.append_assoc, List.singleton_append]
theorem zero_at {N k : Nat} {s : List Int} (hs : s.length = k) (hk : k < N) : (ints .u32 (s ++ List.replicate (N - k) 0))[k]? = some (.int .u32 0) := by
  subst hs
  rw [ints_get _ _ _ (by rw [List.length_append, List.length_replicate]; omega), List.getD_eq_getElem?_getD, List.getElem?_append_right (Nat.le_refl _), Nat.sub_self, List.getElem?_replicate, if_pos (by omega)]
  rfl
theorem made32 (N : Nat) : (madeCells #[.int .u32 0] N).toList = ints .u32 ([] ++ List.replicate N 0) := by
  rw [toList_madeCells_one]; simp [ints]
/-- One step of a sum. -/
theorem add_step {a b s : List Int} {k : Nat} {c : Int} (ha : Lim a) (hb : Lim b) (hc : 0 ≤ c) (hs : s.length = k) (h : val s + 4294967296 ^ k * c.toNat = low a k + low b k) :
    val (s ++ [(a.getD k 0 + b.getD k 0 + c) % 4294967296]) + 4294967296 ^ (k + 1) * ((a.getD k 0 + b.getD k 0 + c) / 4294967296).toNat = low a (k + 1) + low b (k + 1) := by
  have h1 := getD_nat ha k
  have h2 := getD_nat hb k
  rw [val_append, val_one, hs, low_succ, low_succ, Nat.pow_succ, Nat.mul_assoc]
  generalize (a.getD k 0) = x at *
  generalize (b.getD k 0) = y at *
  have e : ((x + y + c) % 4294967296).toNat + 4294967296 * ((x + y + c) / 4294967296).toNat = x.toNat + y.toNat + c.toNat := by omega
  have e2 := congrArg (4294967296 ^ k * ·) e
  simp only [Nat.mul_add] at e2
  omega
theorem add_end {a b s : List Int} {N M : Nat} {c : Int} (ha : Lim a) (hb : Lim b) (hM : a.length ≤ M ∧ b.length ≤ M) (hN : N = M + 1) (hs : s.length = N) (h : val s + 4294967296 ^ N * c.toNat = low a N + low b N) : val s = val a + val b := by
  have h1 := low_lt ha M
  have h2 := low_lt hb M
  rw [low_all hM.1] at h1
  rw [low_all hM.2] at h2
  rw [low_all (by omega), low_all (by omega)] at h
  rcases Nat.eq_zero_or_pos c.toNat with h0 | h0
  · rw [h0] at h; omega
  · have := Nat.mul_le_mul_left (4294967296 ^ N) h0
    rw [hN, Nat.pow_succ] at this
    rw [hN, Nat.pow_succ] at h
    omega

/-- What Add answers. -/
def AddOut (w : World) (l : List Int) (x : Int) (e : Ending) (w' : World) : Prop :=
  ∃ A c, e = .returned (.tuple #[.slice A l.length c, .int .i64 x]) ∧ w'.ownsRow w.heap.size 34 1 (.slice A l.length c) l.length (ints .u32 l) ∧ Below w.heap.size w w'

theorem Add_bad (A A' : Option Addr) (n c n' c' B : Nat) (a b : List Int) (w : World) (hr : Row w B A n (ints .u32 a)) (hr' : Row w B A' n' (ints .u32 b)) (hx : chk2 a b ≠ 0) :
    Calls Tryd.prog 15 #[.slice A n c, .slice A' n' c'] w (AddOut w [] (chk2 a b)) := by
  have HC := Lib.hid (checkBoth_any A A' n c n' c' B a b w hr hr')
  clear hr hr'
  generalize chk2 a b = x at *
  have hd : (x == 0) = false := by simpa using hx
  clear hx
  go_enter Tryd.func15, Tryd.ntmps15
  go_wp2_with fail
  refine HC.out.mono ?_
  rintro e w' ⟨rfl, rfl⟩
  go_wp2
  go_ret2
  exact ⟨none, 0, rfl, World.ownsRow_nil _ _ _ _, Below.refl _ _⟩

set_option maxRecDepth 100000 in
set_option maxHeartbeats 1000000 in
theorem Add_loop (A A' : Option Addr) (n c n' c' B M : Nat) (a b : List Int) (w : World) (hr : Row w w.heap.size A n (ints .u32 a)) (hr' : Row w w.heap.size A' n' (ints .u32 b)) (ha : Lim a) (hb : Lim b) (hx : chk2 a b = 0) (hM64 : M ≤ 64)
    (hM : (n < n' ∧ M = n') ∨ (n' ≤ n ∧ M = n)) :
    Calls Tryd.prog 15 #[.slice A n c, .slice A' n' c'] w (AddOut w (limbs (val a + val b)) 0) := by
  obtain ⟨i0, hi, hz0, hz1, hz2⟩ := u32_parts
  have hl := hr.1
  have hl' := hr'.1
  rw [ints_len] at hl hl'
  have HC := checkBoth_any A A' n c n' c' _ a b w hr hr'
  rw [hx] at HC
  replace HC := Lib.hid HC
  have HA := Lib.hid ha
  have HB := Lib.hid hb
  have HR := Lib.hid hr
  have HR' := Lib.hid hr'
  have HLn : Hid (a.length ≤ M ∧ b.length ≤ M) := Lib.hid (by omega)
  clear ha hb hr hr' hl hl' hx
  rcases hM with ⟨h1, rfl⟩ | ⟨h1, rfl⟩
  case' inl => have h1z : (n : Int) < (M : Int) := by omega
  case' inr => have h1z : (n' : Int) ≤ (M : Int) := by omega
  all_goals
    clear h1
    go_enter Tryd.func15, Tryd.ntmps15
    go_wp2_with fail
    refine HC.out.mono ?_
    rintro e w' ⟨rfl, rfl⟩
    clear HC
    go_wp2_with (refine wpList_make_full _ rfl (.tmp 21) (.tmp 21) 22 rfl w.heap.size 34 i0 (.int .u32 0) 1 Tryd.underlying22 hi hz0 hz1 .i64 .i64 _ _ (M + 1) rfl rfl (by omega) (by omega) (by rw [hz2]; omega) (by unfold maxLen; omega) (Nat.le_refl _) ?_)
    intro w6 hown hg6
    rw [made32] at hown
    have hb6 : Below w.heap.size w w6 := (Below.refl _ _).grown hg6 (Nat.le_refl _) (by simp)
    have HRb := Lib.hid hb6
    obtain ⟨g, hg⟩ : ∃ g, g = w.heap.size := ⟨_, rfl⟩
    have HG := Lib.hid hg
    rw [← hg] at hown hb6 ⊢
    clear hg hg6
    go_wp2
    go_loopw [8, 25] (fun cy i wr => ∃ (k : Nat) (cr : Int) (s : List Int), k ≤ M + 1 ∧ i = .int .i64 k ∧ cy = .int .u32 cr ∧ 0 ≤ cr ∧ cr ≤ 1 ∧ Hid (s.length = k ∧ Lim s ∧ val s + 4294967296 ^ k * cr.toNat = low a k + low b k) ∧
      wr.ownsRow g 34 1 (.slice (some ⟨g, 0, none⟩) (M + 1) (M + 1)) (M + 1) (ints .u32 (s ++ List.replicate (M + 1 - k) 0)) ∧ Below g w wr) (fun _ i _ => M + 1 - (intOf i).toNat)
    case atStart => exact ⟨0, 0, [], Nat.zero_le _, rfl, rfl, by omega, by omega, Lib.hid ⟨rfl, Lim.nil, by rw [low_zero, low_zero]; rfl⟩, hown, hb6⟩
    case round =>
      obtain ⟨k, cr, s, hk, rfl, rfl, hc0, hc1, HS, hown, hb⟩ := hrel
      by_cases hkM : k < M + 1
      · have hkz : (k : Int) < (M : Int) + 1 := by omega
        have hk0 : (0 : Int) ≤ (k : Int) := by omega
        have hcell : wr.cell? ⟨g, k, none⟩ = some (.int .u32 0) := (hown.cellAt k (by omega)).trans (zero_at HS.out.1 hkM)
        have hfz := hown.frozenAt k
        obtain ⟨x, hx⟩ : ∃ x, a.getD k 0 = x := ⟨_, rfl⟩
        obtain ⟨y, hy⟩ : ∃ y, b.getD k 0 = y := ⟨_, rfl⟩
        have hxl := HA.out.at k
        have hyl := HB.out.at k
        rw [hx] at hxl
        rw [hy] at hyl
        have HX := Lib.hid hx
        have HY := Lib.hid hy
        have HOwn := Lib.hid hown
        clear hx hy hown
        go_wp2_with fail
        refine (limb_at _ _ _ _ a k x wr (HR.out.below (by rw [← HG.out]; exact hb)) (by omega) HX).mono ?_
        rintro e w' ⟨rfl, rfl⟩
        go_wp2_with fail
        refine (limb_at _ _ _ _ b k y wr (HR'.out.below (by rw [← HG.out]; exact hb)) (by omega) HY).mono ?_
        rintro e w' ⟨rfl, rfl⟩
        go_wp2_with fail
        refine (Add32_any x y cr wr hxl hyl ⟨hc0, hc1⟩).mono ?_
        rintro e w' ⟨rfl, rfl⟩
        have hq0 : 0 ≤ (x + y + cr) / 4294967296 := by omega
        have hq1 : (x + y + cr) / 4294967296 ≤ 1 := by omega
        have hp0 : 0 ≤ (x + y + cr) % 4294967296 := by omega
        have hp1 : (x + y + cr) % 4294967296 ≤ 4294967295 := by omega
        have HS2 : Hid ((s ++ [(x + y + cr) % 4294967296]).length = k + 1 ∧ Lim (s ++ [(x + y + cr) % 4294967296]) ∧ val (s ++ [(x + y + cr) % 4294967296]) + 4294967296 ^ (k + 1) * ((x + y + cr) / 4294967296).toNat = low a (k + 1) + low b (k + 1)) := Lib.hid (by
          refine ⟨by rw [List.length_append, HS.out.1]; rfl, HS.out.2.1.app (Lim.one hp0 hp1), ?_⟩
          have := add_step HA.out HB.out hc0 HS.out.1 HS.out.2.2
          rw [HX.out, HY.out] at this
          exact this)
        generalize (x + y + cr) % 4294967296 = p at *
        generalize (x + y + cr) / 4294967296 = q at *
        go_wp2
        go_roundw
        case rel =>
          refine ⟨k + 1, q, s ++ [p], by omega, by go_num, rfl, hq0, hq1, HS2, ?_, hb.grown (HOwn.out.stored k _).2 (by have := hb.size; have := HG.out; omega) (by simp)⟩
          have := (HOwn.out.stored k (.int .u32 p)).1
          rwa [set_next p HS.out.1 hkM] at this
        case measure => simp [intOf]; omega
      · obtain rfl : k = M + 1 := by omega
        have hv : val s = val a + val b := add_end HA.out HB.out HLn.out rfl HS.out.1 HS.out.2.2
        have HV := Lib.hid hv
        rw [Nat.sub_self, List.replicate_zero, List.append_nil] at hown
        clear hv hkM
        obtain rfl := HG.out
        go_wp2_with fail
        refine (trim_new _ (M + 1) (M + 1) s w wr hown hb HS.out.2.1 (Nat.le_refl _) (by omega)).mono ?_
        rw [HV.out]
        rintro e w' ⟨A1, c1, rfl, hown1, hb1⟩
        go_wp2
        go_ret2
        exact ⟨A1, c1, rfl, hown1, hb1⟩
theorem Add_any (A A' : Option Addr) (n c n' c' : Nat) (a b : List Int) (w : World) (hr : Row w w.heap.size A n (ints .u32 a)) (hr' : Row w w.heap.size A' n' (ints .u32 b)) (ha : Lim a) (hb : Lim b) :
    Calls Tryd.prog 15 #[.slice A n c, .slice A' n' c'] w (AddOut w (if chk2 a b = 0 then limbs (val a + val b) else []) (chk2 a b)) := by
  have hl := hr.1
  have hl' := hr'.1
  rw [ints_len] at hl hl'
  by_cases hx : chk2 a b = 0
  · have h1 : chk a = 0 := by
      unfold chk2 at hx
      by_cases h : chk a = 0
      · exact h
      · rw [if_pos h] at hx; exact hx
    have h2 : chk b = 0 := by
      unfold chk2 at hx
      rwa [if_neg (by omega)] at hx
    have := (chk_ok.1 h1).1
    have := (chk_ok.1 h2).1
    rw [if_pos hx, hx]
    rcases Nat.lt_or_ge n n' with h | h
    · exact Add_loop A A' n c n' c' 0 n' a b w hr hr' ha hb hx (by omega) (.inl ⟨h, rfl⟩)
    · exact Add_loop A A' n c n' c' 0 n a b w hr hr' ha hb hx (by omega) (.inr ⟨h, rfl⟩)
  · rw [if_neg hx]
    exact Add_bad A A' n c n' c' _ a b w hr hr' hx
end Go.Proofs.YtlpfcilgndbopaaDoor
