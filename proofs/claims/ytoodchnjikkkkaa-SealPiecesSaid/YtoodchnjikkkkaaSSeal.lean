/- seal.Put, seal.Cut; the document's. -/
import Derived.Test.YtoodchnjikkkkaaSPut
import Derived.Deep.RegionHeld3
namespace Go.Proofs.Ytoodchnjikkkkaa
open Go.RowKit

theorem Equal_len (A A' : Option Addr) (n m cap cap' : Nat) (w : World) (hne : n ≠ m) :
    Calls Try.prog 25 #[.slice A n cap, .slice A' m cap'] w fun e w' => e = .returned (.bool false) ∧ w = w' := by
  have h1 : ((n : Int) == (m : Int)) = false := beq_eq_false_iff_ne.2 (by omega)
  have h2 : ((n : Int) != (m : Int)) = true := by simp [bne, h1]
  go_enter Try.func25, Try.ntmps25
  go_wp2
  go_ret
  exact ⟨rfl, rfl⟩

set_option maxHeartbeats 400000 in
theorem Equal_walk (b b' off off' n cap cap' : Nat) (xs ys : List Int) (w : World) (hx : xs.length = n) (hy : ys.length = n) (hn : n ≤ 9223372036854775807)
    (hcx : ∀ j, j < n → w.cell? ⟨b, off + j, none⟩ = some (.int .u8 (xs.getD j 0))) (hcy : ∀ j, j < n → w.cell? ⟨b', off' + j, none⟩ = some (.int .u8 (ys.getD j 0))) :
    Calls Try.prog 25 #[.slice (some ⟨b, off, none⟩) n cap, .slice (some ⟨b', off', none⟩) n cap'] w fun e w' => e = .returned (.bool (decide (xs = ys))) ∧ ∃ k, w' = w.drewN k := by
  go_enter Try.func25, Try.ntmps25
  go_wp2
  go_loopw [13] (fun i wr => ∃ k q : Nat, k ≤ n ∧ i = .int .i64 k ∧ xs.take k = ys.take k ∧ wr = w.drewN q) (fun i _ => n - (intOf i).toNat)
  case atStart => exact ⟨0, 0, Nat.zero_le _, rfl, rfl, rfl⟩
  case round =>
    obtain ⟨k, q, hk, rfl, ht, rfl⟩ := hrel
    by_cases hlt : k < n
    · have gx := hcx k hlt
      have hlx : k < xs.length := by omega
      have hly : k < ys.length := by omega
      have gy := hcy k hlt
      have hlt' : (k : Int) < (n : Int) := by omega
      have HT := Lib.hid ht
      clear ht hcx hcy
      go_wp2_with fail
      go_quiet (fail)
      go_wp2
      · have hne : (xs[k] != ys[k]) = true := by assumption
        go_ret
        refine ⟨ret_bool ?_, _, World.drewN_drewN _ _ _⟩
        simp only [Bool.false_eq, decide_eq_false_iff_not]
        rintro rfl
        simp at hne
      · have he : (xs[k] != ys[k]) = false := by assumption
        go_roundw
        case rel => exact ⟨k + 1, q + _, by omega, by go_num, take_succ_eq HT.out (by omega) (by omega) (by simpa [hlx, hly] using he), rfl⟩
        case measure => simp [intOf]; omega
    · have hkn : k = n := by omega
      have hxy : xs = ys := by
        subst hkn
        rw [List.take_of_length_le (by omega), List.take_of_length_le (by omega)] at ht
        exact ht
      have HT := Lib.hid hxy
      clear ht hxy hcx hcy hkn
      go_wp2
      go_ret
      exact ⟨ret_bool (by simp [HT.out]), _, rfl⟩

theorem Equal_any (A A' : Option Addr) (n m cap cap' B B' : Nat) (xs ys : List Int) (w : World) (hx : Row w B A n (ints .u8 xs)) (hy : Row w B' A' m (ints .u8 ys)) (hn : n ≤ 9223372036854775807) :
    Calls Try.prog 25 #[.slice A n cap, .slice A' m cap'] w fun e w' => e = .returned (.bool (decide (xs = ys))) ∧ Below w.heap.size w w' := by
  have lx : xs.length = n := by simpa [ints] using hx.1
  have ly : ys.length = m := by simpa [ints] using hy.1
  by_cases hne : n = m
  · subst hne
    by_cases h0 : n = 0
    · subst h0
      have e1 : xs = [] := List.eq_nil_of_length_eq_zero lx
      have e2 : ys = [] := List.eq_nil_of_length_eq_zero ly
      subst e1; subst e2
      go_enter Try.func25, Try.ntmps25
      go_wp2
      refine wp_loop_rounds 1 ?_
      rw [rounds_succ]
      go_wp2
      go_ret
      exact ⟨rfl, Below.refl _ _⟩
    · obtain ⟨b, off, rfl, _, hc⟩ := hx.2 (by omega)
      obtain ⟨b', off', rfl, _, hc'⟩ := hy.2 (by omega)
      refine (Equal_walk b b' off off' n cap cap' xs ys w lx ly hn (fun j hj => (hc j hj).trans (ints_get _ _ _ (by omega))) (fun j hj => (hc' j hj).trans (ints_get _ _ _ (by omega)))).mono ?_
      rintro e w' ⟨rfl, k, rfl⟩
      exact ⟨rfl, ⟨rfl, rfl, rfl, Nat.le_refl _, fun _ _ => rfl⟩⟩
  · refine (Equal_len A A' n m cap cap' w hne).mono ?_
    rintro e w' ⟨rfl, rfl⟩
    refine ⟨ret_bool ?_, Below.refl _ _⟩
    simp only [Bool.false_eq, decide_eq_false_iff_not]
    rintro rfl
    omega

/-- Of, of lists written out in the call. -/
theorem Of_lits (vs : List Value) (ls : List (List Int)) (n B' : Nat) (w : World) (hl : Lists w B' vs ls) (hB' : B' ≤ w.heap.size) (hu : U8s ls) (hn : vs.length = n) (hn2 : n ≤ 1000) (hm : ∀ l ∈ ls, l.length ≤ 9223372036854775807) :
    Calls Try.prog 11 #[.slice (some ⟨w.heap.size, 0, none⟩) n n] (w.alloc (.cells vs.toArray 24)) fun e w' => e = .returned (.int .u32 ((sumsOf ls : Nat) : Int)) ∧ Below w.heap.size w w' := by
  subst hn
  refine (Of_any _ vs.length (w.heap.size + 1) B' vs ls _ (Row.lits w vs _) (hl.alloc hB' _) hu (by simp) (by simp; omega) (by omega) hm).mono ?_
  rintro e w' ⟨rfl, hb⟩
  exact ⟨rfl, nextA (Below.refl _ _) hb⟩
theorem Concat_lits (vs : List Value) (ls : List (List Int)) (n B' : Nat) (w : World) (hl : Lists w B' vs ls) (hB' : B' ≤ w.heap.size) (hn : vs.length = n) (hn2 : n ≤ 1000) (hm : ls.flatten.length ≤ 200000000000000) :
    Calls Try.prog 27 #[.slice (some ⟨w.heap.size, 0, none⟩) n n] (w.alloc (.cells vs.toArray 24)) (Fresh w ls.flatten) := by
  subst hn
  refine (Concat_any _ vs.length (w.heap.size + 1) B' vs ls _ (Row.lits w vs _) (hl.alloc hB' _) (by simp) (by simp; omega) (by omega) hm).mono ?_
  rintro e w' hF
  exact Fresh.from ((Below.refl _ _).alloc (Nat.le_refl _) _) hF
theorem Of_one (A : Option Addr) (c n B' : Nat) (l : List Int) (w : World) (hr : Row w B' A n (ints .u8 l)) (hB' : B' ≤ w.heap.size) (hu : U8 l) (hm : l.length ≤ 9223372036854775807) :
    Calls Try.prog 11 #[.slice (some ⟨w.heap.size, 0, none⟩) 1 1] (w.alloc (.cells #[.slice A n c] 24)) fun e w' => e = .returned (.int .u32 ((sumOf 0 l : Nat) : Int)) ∧ Below w.heap.size w w' := by
  have := Of_lits [.slice A n c] [l] 1 B' w (Lists.cons hr (Lists.nil _ _)) hB' (by intro x hx; simp at hx; subst hx; exact hu) rfl (by omega) (by intro x hx; simp at hx; subst hx; exact hm)
  rwa [show sumsOf [l] = sumOf 0 l by simp [sumsOf]] at this

/-- A row, just made: four bytes. -/
def Fresh4 (w : World) (s : Nat) (e : Ending) (w' : World) : Prop :=
  ∃ A c, e = .returned (.slice A 4 c) ∧ w'.ownsRow w.heap.size 5 1 (.slice A 4 c) 4 (ints .u8 (rowI s)) ∧ Below w.heap.size w w'
theorem Row4_any (s : Nat) (w : World) (hs : s < 4294967296) : Calls Try.prog 16 #[.int .u32 s] w (Fresh4 w s) := (Row_any s w hs).mono fun _ _ h => h
theorem rRow4_any (s : Nat) (w : World) (hs : s < 4294967296) : Calls Try.prog 17 #[.int .u32 s] w (Fresh4 w s) := (rRow_any s w hs).mono fun _ _ h => h
set_option maxHeartbeats 1000000 in
theorem Put_any (A : Option Addr) (c B : Nat) (l : List Int) (w : World) (hr : Row w B A l.length (ints .u8 l)) (hB : B ≤ w.heap.size) (hu : U8 l) (hl : l.length ≤ 150000000000000) :
    Calls Try.prog 21 #[.slice A l.length c] w (Fresh w (l ++ rowI (sumOf 0 l))) := by
  have hs := sumOf_lt hu (s := 0) (by omega)
  have HO := Lib.hid (Of_one A c l.length B l w hr hB hu (by omega))
  have HR := Lib.hid hr
  generalize sumOf 0 l = s at *
  clear hr
  go_enter Try.func21, Try.ntmps21
  go_wp2_with fail
  refine HO.out.mono ?_
  rintro e w1 ⟨rfl, b1⟩
  clear HO
  go_wp2_with fail
  refine (Row4_any s w1 hs).mono ?_
  rintro e w2 ⟨A2, c2, rfl, o2, b2⟩
  have r2 := Row.own o2
  have b12 := next b1 b2
  have r1 := (HR.out.wide hB).on b12
  have HC := Lib.hid (Concat_lits [.slice A l.length c, .slice A2 4 c2] [l, rowI s] 2 w2.heap.size w2 (Lists.cons r1 (Lists.cons r2 (Lists.nil _ _))) (Nat.le_refl _) rfl (by omega) (by simp [rowI_len]; omega))
  rw [show [l, rowI s].flatten = l ++ rowI s by simp] at HC
  clear r1 r2 o2
  go_wp2_with fail
  refine HC.out.mono ?_
  rintro e w3 hF
  obtain ⟨A3, c3, rfl, o3, b3⟩ := Fresh.from b12 hF
  go_wp2
  go_ret
  exact ⟨A3, c3, by rw [List.length_append]; rfl, o3, b3⟩

set_option maxHeartbeats 1000000 in
theorem rPut_any (A : Option Addr) (c B : Nat) (l : List Int) (w : World) (hr : Row w B A l.length (ints .u8 l)) (hB : B ≤ w.heap.size) (hu : U8 l) (hl : l.length ≤ 150000000000000) :
    Calls Try.prog 22 #[.slice A l.length c] w (Fresh w (l ++ rowI (sumOf 0 l))) := by
  obtain ⟨i0, hi, hz0, hz1, hz2⟩ := info_parts u8_info
  have hs := sumOf_lt hu (s := 0) (by omega)
  have HO := Lib.hid (fun w hr => rOn_any 0 A c w.heap.size l w hr hu (by omega) (by omega))
  have HR := Lib.hid (hr.wide hB)
  generalize sumOf 0 l = s at *
  clear hr
  go_enter Try.func22, Try.ntmps22
  go_wp2_with fail
  refine (CopyBytes_any A c _ l w HR.out (Nat.le_refl _) hl).mono ?_
  rintro e w1 ⟨A1, c1, rfl, o1, b1⟩
  go_wp2_with fail
  refine (HO.out w1 (HR.out.on b1)).mono ?_
  rintro e w2 ⟨rfl, b2⟩
  have b12 := next b1 b2
  go_wp2_with fail
  refine (rRow4_any s w2 hs).mono ?_
  rintro e w3 ⟨A3, c3, rfl, o3, b3⟩
  have r3 := Row.own o3
  have b13 := next b12 b3
  have o1' : w3.ownsRow w.heap.size 5 1 (.slice A1 l.length c1) l.length (ints .u8 l) := by
    have hb := next b2 b3
    exact o1.kept (row := none) ⟨hb.os, hb.tape, hb.output, hb.size, fun j hj _ => hb.block j hj⟩ (by cases A1 <;> simp [Value.ownBlock])
  have hbs := b13.size
  clear o1 o3 HO
  go_wp2_with (at_builtin; refine wpList_app _ rfl (.tmp 4) (.tmp 7) 24 rfl w.heap.size 5 i0 (.int .u8 0) 1 Try.underlying24 hi hz0 hz1 hz2 rfl _ _ _ rfl o1' _ _ _ _ _ rfl r3 (ints_one _ _) (by unfold maxLen; omega) (by omega) hbs ?_)
  intro v' w4 hown4 _ hb4
  obtain ⟨A4, c4, rfl⟩ := own_slice hown4
  go_wp2
  go_ret
  rw [← ints_append] at hown4
  exact ⟨A4, c4, by rw [List.length_append]; rfl, by rw [List.length_append]; exact hown4, b13.trans hb4⟩
/-- What a call that answers bytes and a bool leaves behind. -/
def CutOut (w : World) (l : List Int) (e : Ending) (w' : World) : Prop :=
  ∃ A c, e = .returned (.tuple #[.slice A (cutOf l).length c, .bool (sealedI l)]) ∧ w'.ownsRow w.heap.size 5 1 (.slice A (cutOf l).length c) (cutOf l).length (ints .u8 (cutOf l)) ∧ Below w.heap.size w w'
theorem short_cut {l : List Int} (h : l.length < 4) : sealedI l = false ∧ cutOf l = [] := by
  have : sealedI l = false := by unfold sealedI; simp; omega
  exact ⟨this, by unfold cutOf; rw [this]; simp⟩
theorem Row.dropped {w : World} {B b off n : Nat} {xs : List Value} (h : Row w B (some ⟨b, off, none⟩) n xs) (m : Nat) (hm : m < n) : Row w B (some ⟨b, off + m, none⟩) (n - m) (xs.drop m) := by
  refine ⟨by rw [List.length_drop, h.1], fun _ => ?_⟩
  obtain ⟨b', off', e, hb, hc⟩ := h.2 (by omega)
  injection e with e
  injection e with e1 e2
  subst e1; subst e2
  refine ⟨b, off + m, rfl, hb, fun j hj => ?_⟩
  rw [List.getElem?_drop, ← hc (m + j) (by omega), Nat.add_assoc]
theorem Row.take {w : World} {B n k : Nat} {A : Option Addr} {xs : List Value} (h : Row w B A n xs) (hk : k ≤ n) : Row w B A k (xs.take k) := by
  refine ⟨by rw [List.length_take, h.1]; omega, fun h0 => ?_⟩
  obtain ⟨b, off, e, hb, hc⟩ := h.2 (by omega)
  refine ⟨b, off, e, hb, fun j hj => ?_⟩
  rw [List.getElem?_take, if_pos hj, hc j (by omega)]
theorem Row.len {w : World} {B n : Nat} {A : Option Addr} {l : List Int} (h : Row w B A n (ints .u8 l)) : l.length = n := by simpa [ints] using h.1
def FreshN (w : World) (n : Nat) (l : List Int) (e : Ending) (w' : World) : Prop :=
  ∃ A c, e = .returned (.slice A n c) ∧ w'.ownsRow w.heap.size 5 1 (.slice A n c) n (ints .u8 l) ∧ Below w.heap.size w w'
theorem Fresh.n {w w' : World} {l : List Int} {e : Ending} {n : Nat} (hn : l.length = n) (h : Fresh w l e w') : FreshN w n l e w' := by
  subst hn; exact h
theorem Clone_at (A : Option Addr) (c B n : Nat) (l : List Int) (w : World) (hr : Row w B A n (ints .u8 l)) (hB : B ≤ w.heap.size) (hl : n ≤ 150000000000000) :
    Calls Try.prog 26 #[.slice A n c] w (FreshN w n l) := by
  have hn := hr.len
  subst hn
  exact (Clone_any A c B l w hr hB hl).mono fun _ _ h => h
theorem Equal_is (A A' : Option Addr) (n m cap cap' B B' : Nat) (xs ys : List Int) (w : World) (r : Bool) (hx : Row w B A n (ints .u8 xs)) (hy : Row w B' A' m (ints .u8 ys)) (hn : n ≤ 9223372036854775807) (hr : Hid (decide (xs = ys) = r)) :
    Calls Try.prog 25 #[.slice A n cap, .slice A' m cap'] w fun e w' => e = .returned (.bool r) ∧ Below w.heap.size w w' := by
  have := Equal_any A A' n m cap cap' B B' xs ys w hx hy hn
  rwa [hr.out] at this
theorem Of_drew (A : Option Addr) (c n B' s : Nat) (l : List Int) (w : World) (hr : Row w B' A n (ints .u8 l)) (hB' : B' ≤ w.heap.size) (hu : U8 l) (hm : l.length ≤ 9223372036854775807) (hs : Hid (sumOf 0 l = s)) :
    Calls Try.prog 11 #[.slice (some ⟨w.heap.size, 0, none⟩) 1 1] (w.alloc (.cells #[.slice A n c] 24)).drew fun e w' => e = .returned (.int .u32 (s : Int)) ∧ Below w.heap.size w w' := by
  have h := Of_any (some ⟨w.heap.size, 0, none⟩) 1 (w.heap.size + 1) B' [.slice A n c] [l] (w.alloc (.cells #[.slice A n c] 24)).drew (Row.lits w [.slice A n c] _) ((Lists.cons hr (Lists.nil _ _)).alloc hB' _) (by intro x hx; simp at hx; subst hx; exact hu) (by simp [World.drew]) (by simp [World.drew]; omega) (by simp) (by intro x hx; simp at hx; subst hx; exact hm)
  refine h.mono ?_
  rintro e w' ⟨rfl, hb⟩
  refine ⟨by rw [show sumsOf [l] = s by simp [sumsOf, hs.out]], nextA (o := .cells #[.slice A n c] 24) (Below.refl _ _) ?_⟩
  exact ⟨hb.os, hb.tape, hb.output, hb.size, hb.block⟩

set_option maxRecDepth 100000 in
set_option maxHeartbeats 2000000 in
theorem Cut_long (b off m c B s : Nat) (r : Bool) (l : List Int) (w : World) (hr : Row w B (some ⟨b, off, none⟩) (m + 4) (ints .u8 l)) (hB : B ≤ w.heap.size) (hu : U8 l) (hl : m + 4 ≤ 150000000000000) (hc : m + 4 ≤ c) (hc2 : c ≤ 9223372036854775807)
    (hs : Hid (sumOf 0 (l.take m) = s)) (hd : Hid (decide (l.drop m = rowI s) = r)) :
    Calls Try.prog 19 #[.slice (some ⟨b, off, none⟩) (m + 4 : Nat) c] w fun e w' => ∃ A c, (e = .returned (.tuple #[.slice A (if r then m else 0) c, .bool r])) ∧
      w'.ownsRow w.heap.size 5 1 (.slice A (if r then m else 0) c) (if r then m else 0) (ints .u8 (if r then l.take m else [])) ∧ Below w.heap.size w w' := by
  have hlen := hr.len
  have hs2 : s < 4294967296 := by rw [← hs.out]; exact sumOf_lt (hu.take m) (by omega)
  have ht := hr.take (k := m) (by omega)
  rw [ints_take] at ht
  have hdr := hr.dropped m (by omega)
  rw [ints_drop, show m + 4 - m = 4 by omega] at hdr
  have HO := Lib.hid (Of_drew (some ⟨b, off, none⟩) c m B s (l.take m) w ht hB (hu.take m) (by rw [List.length_take]; omega) hs)
  have HT := Lib.hid ht
  have HD := Lib.hid hdr
  have hm0 : (0 : Int) ≤ (m : Int) := by omega
  have hmc : m ≤ c := by omega
  have d0 : decide ((m : Int) < 0) = false := by simp
  have h5 : (m : Int) ≤ (m : Int) + 4 := by omega
  have hcm : ¬ c = m := by omega
  clear ht hdr hr
  go_enter Try.func19, Try.ntmps19
  go_wp2_with fail
  go_region_held3 (fun _ => True) (trivial)
    ((first
      | (go_at_call 11
         refine HO.out.mono ?_
         rintro e w1 ⟨rfl, b1⟩)
      | (go_at_call 16
         refine (Row4_any s w1 hs2).mono ?_
         rintro e w2 ⟨A2, c2, rfl, o2, b2⟩
         have r2 := Row.own o2
         have b12 := next b1 b2)
      | (go_at_call 25
         refine (Equal_is (some ⟨b, off + m, none⟩) A2 4 4 (c - m) c2 w.heap.size w2.heap.size (l.drop m) (rowI s) w2 r ((HD.out.wide hB).below b12) r2 (by omega) hd).mono ?_
         rintro e w3 ⟨rfl, b3⟩
         have b13 := next b12 b3)))
  all_goals
    cases r
    · simp only [Bool.not_false]
      go_wp2_with fail
      go_ret2
      exact ⟨none, 0, rfl, World.ownsRow_nil _ _ _ _, b13⟩
    · simp only [Bool.not_true]
      go_wp2_with fail
      refine (Clone_at (some ⟨b, off, none⟩) c w3.heap.size m (l.take m) w3 ((HT.out.wide hB).on b13) (Nat.le_refl _) (by omega)).mono ?_
      rintro e w4 ⟨A4, c4, rfl, o4, b4⟩
      go_wp2
      go_ret2
      exact ⟨A4, c4, rfl, own_low o4 b13.size, next b13 b4⟩

theorem cut_tail {l : List Int} {m : Nat} (h : l.length = m + 4) : sealedI l = decide (l.drop m = rowI (sumOf 0 (l.take m))) ∧ cutOf l = (if sealedI l then l.take m else []) := by
  have hm : l.length - 4 = m := by omega
  have h1 : sealedI l = decide (l.drop m = rowI (sumOf 0 (l.take m))) := by
    unfold sealedI
    rw [hm]
    simp [h]
  exact ⟨h1, by unfold cutOf; rw [hm]⟩
theorem cut_len {l : List Int} {m : Nat} (h : l.length = m + 4) : (cutOf l).length = if sealedI l then m else 0 := by
  rw [(cut_tail h).2]
  split
  · rw [List.length_take]; omega
  · rfl
set_option maxHeartbeats 1000000 in
theorem Cut_any (A : Option Addr) (c B : Nat) (l : List Int) (w : World) (hr : Row w B A l.length (ints .u8 l)) (hB : B ≤ w.heap.size) (hu : U8 l) (hl : l.length ≤ 150000000000000) (hc : l.length ≤ c) (hc2 : c ≤ 9223372036854775807) :
    Calls Try.prog 19 #[.slice A l.length c] w (CutOut w l) := by
  by_cases h4 : l.length < 4
  · have HS := Lib.hid (short_cut h4)
    unfold CutOut
    rw [HS.out.1, HS.out.2]
    have hd : decide ((l.length : Int) - 4 < 0) = true := by simp; omega
    go_enter Try.func19, Try.ntmps19
    go_wp2
    go_quiet (fail)
    go_wp2
    go_ret2
    exact ⟨none, 0, rfl, World.ownsRow_nil _ _ _ _, ⟨rfl, rfl, rfl, Nat.le_refl _, fun _ _ => rfl⟩⟩
  · obtain ⟨b, off, rfl, hbB, hcl⟩ := hr.2 (by omega)
    obtain ⟨m, hm⟩ : ∃ m, l.length = m + 4 := ⟨l.length - 4, by omega⟩
    have ht := cut_tail hm
    have hln := cut_len hm
    rw [hm] at hr hc hl ⊢
    refine (Cut_long b off m c B _ (sealedI l) l w hr hB hu hl hc hc2 (Lib.hid rfl) (Lib.hid ht.1.symm)).mono ?_
    rintro e w' ⟨A, c', rfl, hown, hb⟩
    refine ⟨A, c', by rw [hln], ?_, hb⟩
    rw [hln, ht.2]
    exact hown

theorem Put_at (A : Option Addr) (c B n : Nat) (l : List Int) (w : World) (hr : Row w B A n (ints .u8 l)) (hB : B ≤ w.heap.size) (hu : U8 l) (hl : n ≤ 150000000000000) :
    Calls Try.prog 21 #[.slice A n c] w (FreshN w (n + 4) (l ++ rowI (sumOf 0 l))) := by
  have hn := hr.len
  subst hn
  exact (Put_any A c B l w hr hB hu hl).mono fun _ _ h => h.n (by rw [List.length_append, rowI_len])
theorem rPut_at (A : Option Addr) (c B n : Nat) (l : List Int) (w : World) (hr : Row w B A n (ints .u8 l)) (hB : B ≤ w.heap.size) (hu : U8 l) (hl : n ≤ 150000000000000) :
    Calls Try.prog 22 #[.slice A n c] w (FreshN w (n + 4) (l ++ rowI (sumOf 0 l))) := by
  have hn := hr.len
  subst hn
  exact (rPut_any A c B l w hr hB hu hl).mono fun _ _ h => h.n (by rw [List.length_append, rowI_len])
theorem CopyBytes_at (A : Option Addr) (c B n : Nat) (l : List Int) (w : World) (hr : Row w B A n (ints .u8 l)) (hB : B ≤ w.heap.size) (hl : n ≤ 150000000000000) :
    Calls Try.prog 10 #[.slice A n c] w (FreshN w n l) := by
  have hn := hr.len
  subst hn
  exact (CopyBytes_any A c B l w hr hB hl).mono fun _ _ h => h
theorem eq_is (A A' : Option Addr) (n m cap cap' B B' : Nat) (xs ys : List Int) (w : World) (r : Bool) (hx : Row w B A n (ints .u8 xs)) (hy : Row w B' A' m (ints .u8 ys)) (hn : n ≤ 9223372036854775807) (hr : Hid (decide (xs = ys) = r)) :
    Calls Try.prog 15 #[.slice A n cap, .slice A' m cap'] w fun e w' => e = .returned (.bool r) ∧ Below w.heap.size w w' := by
  have := eq_any A A' n m cap cap' B B' xs ys w hx hy hn
  rwa [hr.out] at this
theorem eq_yes (A A' : Option Addr) (n m cap cap' B B' : Nat) (xs : List Int) (w : World) (hx : Row w B A n (ints .u8 xs)) (hy : Row w B' A' m (ints .u8 xs)) (hn : n ≤ 9223372036854775807) :
    Calls Try.prog 15 #[.slice A n cap, .slice A' m cap'] w fun e w' => e = .returned (.bool true) ∧ Below w.heap.size w w' :=
  eq_is A A' n m cap cap' B B' xs xs w true hx hy hn (Lib.hid (by simp))
theorem take_app_eq (l x : List Int) (m : Nat) : (l.take m ++ x = l) ↔ l.drop m = x := by
  constructor
  · intro h
    have h2 := List.take_append_drop m l
    rw [← h2] at h
    conv at h => lhs; rw [h2]
    exact (List.append_cancel_left h).symm
  · rintro rfl
    exact List.take_append_drop m l

set_option maxRecDepth 100000 in
set_option maxHeartbeats 2000000 in
theorem rCut_long (b off m c B s : Nat) (r : Bool) (l : List Int) (w : World) (hr : Row w B (some ⟨b, off, none⟩) (m + 4) (ints .u8 l)) (hB : B ≤ w.heap.size) (hu : U8 l) (hl : m + 4 ≤ 150000000000000) (hc : m + 4 ≤ c) (hc2 : c ≤ 9223372036854775807)
    (hs : Hid (sumOf 0 (l.take m) = s)) (hd : Hid (decide (l.drop m = rowI s) = r)) :
    Calls Try.prog 20 #[.slice (some ⟨b, off, none⟩) (m + 4 : Nat) c] w fun e w' => ∃ A c, (e = .returned (.tuple #[.slice A (if r then m else 0) c, .bool r])) ∧
      w'.ownsRow w.heap.size 5 1 (.slice A (if r then m else 0) c) (if r then m else 0) (ints .u8 (if r then l.take m else [])) ∧ Below w.heap.size w w' := by
  have ht := hr.take (k := m) (by omega)
  rw [ints_take] at ht
  have HP := Lib.hid (rPut_at (some ⟨b, off, none⟩) c B m (l.take m) w ht hB (hu.take m) (by omega))
  rw [hs.out] at HP
  have HR := Lib.hid (hr.wide hB)
  have HT := Lib.hid (ht.wide hB)
  have HE : Hid (decide (l.take m ++ rowI s = l) = r) := Lib.hid (by rw [← hd.out]; exact decide_eq_decide.2 (take_app_eq _ _ _))
  have hm0 : (0 : Int) ≤ (m : Int) := by omega
  have hmc : m ≤ c := by omega
  clear ht hr
  cases r
  · go_enter Try.func20, Try.ntmps20
    go_wp2_with fail
    refine HP.out.mono ?_
    rintro e w1 ⟨A1, c1, rfl, o1, b1⟩
    go_wp2_with fail
    refine (eq_is A1 (some ⟨b, off, none⟩) (m + 4) (m + 4) c1 c w1.heap.size w1.heap.size (l.take m ++ rowI s) l w1 false (Row.own o1) (HR.out.on b1) (by omega) HE).mono ?_
    rintro e w2 ⟨rfl, b2⟩
    go_wp2
    go_ret2
    exact ⟨none, 0, rfl, World.ownsRow_nil _ _ _ _, next b1 b2⟩
  · go_enter Try.func20, Try.ntmps20
    go_wp2_with fail
    refine HP.out.mono ?_
    rintro e w1 ⟨A1, c1, rfl, o1, b1⟩
    go_wp2_with fail
    refine (eq_is A1 (some ⟨b, off, none⟩) (m + 4) (m + 4) c1 c w1.heap.size w1.heap.size (l.take m ++ rowI s) l w1 true (Row.own o1) (HR.out.on b1) (by omega) HE).mono ?_
    rintro e w2 ⟨rfl, b2⟩
    have b12 := next b1 b2
    go_wp2_with fail
    refine (CopyBytes_at (some ⟨b, off, none⟩) c w2.heap.size m (l.take m) w2 (HT.out.on b12) (Nat.le_refl _) (by omega)).mono ?_
    rintro e w3 ⟨A3, c3, rfl, o3, b3⟩
    go_wp2
    go_ret2
    exact ⟨A3, c3, rfl, own_low o3 b12.size, next b12 b3⟩
set_option maxRecDepth 100000 in
set_option maxHeartbeats 2000000 in
theorem rCut_any (A : Option Addr) (c B : Nat) (l : List Int) (w : World) (hr : Row w B A l.length (ints .u8 l)) (hB : B ≤ w.heap.size) (hu : U8 l) (hl : l.length ≤ 150000000000000) (hc : l.length ≤ c) (hc2 : c ≤ 9223372036854775807) :
    Calls Try.prog 20 #[.slice A l.length c] w (CutOut w l) := by
  by_cases h4 : l.length < 4
  · have HS := Lib.hid (short_cut h4)
    unfold CutOut
    rw [HS.out.1, HS.out.2]
    have hd : decide ((l.length : Int) < 4) = true := by simp; omega
    go_enter Try.func20, Try.ntmps20
    go_wp2
    go_ret2
    exact ⟨none, 0, rfl, World.ownsRow_nil _ _ _ _, Below.refl _ _⟩
  · obtain ⟨b, off, rfl, hbB, hcl⟩ := hr.2 (by omega)
    obtain ⟨m, hm⟩ : ∃ m, l.length = m + 4 := ⟨l.length - 4, by omega⟩
    have ht := cut_tail hm
    have hln := cut_len hm
    rw [hm] at hr hc hl ⊢
    refine (rCut_long b off m c B _ (sealedI l) l w hr hB hu (by omega) hc hc2 (Lib.hid rfl) (Lib.hid ht.1.symm)).mono ?_
    rintro e w' ⟨A, c', rfl, hown, hb⟩
    refine ⟨A, c', by rw [hln], ?_, hb⟩
    rw [hln, ht.2]
    exact hown
end Go.Proofs.Ytoodchnjikkkkaa
