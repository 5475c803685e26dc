/- The document's Runes; Same. -/
import Derived.Test.YtbhhakobkpdadaaQRDec
namespace Go.Proofs.Ytbhhakobkpdadaa
open Go.RowKit Go.Shelf

theorem own32_on {w w' : World} {base n : Nat} {v : Value} {xs : List Value} (h : w.ownsRow base 21 1 v n xs) (hb : Below w.heap.size w w') : w'.ownsRow base 21 1 v n xs :=
  h.kept (row := none) ⟨hb.os, hb.tape, hb.output, hb.size, fun j hj _ => hb.block j hj⟩ (by rcases h : v.ownBlock with _ | g <;> simp)
set_option maxRecDepth 100000 in
set_option maxHeartbeats 2000000 in
theorem rRunes_any (s : ByteArray) (hs : s.size ≤ 1000000) (w : World) :
    Calls Try.prog 14 #[.string s] w fun e W' => ∃ v, e = .returned v ∧ W'.ownsRow w.heap.size 21 1 v (parts (bl s)).length ((parts (bl s)).map rEnc) ∧ Below w.heap.size w W' := by
  have hpl := parts_len (bl s)
  rw [bl_len] at hpl
  obtain ⟨i0, hi, hz0, hz1, hz2⟩ := info_parts i32_info
  go_enter Try.func14, Try.ntmps14
  go_wp2
  go_loopw [0, 3] (fun p o wr => ∃ (pre : List (List Nat × Nat)) (r : ByteArray), p = .string r ∧ Hid (parts (bl s) = pre ++ parts (bl r)) ∧ r.size ≤ s.size ∧ wr.ownsRow w.heap.size 21 1 o pre.length (pre.map rEnc) ∧ Below w.heap.size w wr) (fun p _ _ => strLen p)
  case atStart => exact ⟨[], s, rfl, Lib.hid rfl, Nat.le_refl _, World.ownsRow_nil _ _ _ _, Below.refl _ _⟩
  case round =>
    obtain ⟨pre, r, rfl, HP, hr, hown, hb⟩ := hrel
    have hx := HP.out
    cases hL : bl r with
    | nil =>
      have he : r = ByteArray.empty := bl_nil.2 hL
      subst he
      rw [hL, parts_nil, List.append_nil] at hx
      rw [← hx] at hown
      clear hx
      go_wp2
      go_ret
      exact ⟨_, rfl, hown, hb⟩
    | cons c t =>
      have hne := isEmpty_no hL
      have hnn : bl r ≠ [] := by rw [hL]; simp
      have hd := dec_size hnn
      rw [bl_len] at hd
      have hp := parts_cons hnn
      have HD := Lib.hid (fun w => rDecode_any r (by omega) w)
      obtain ⟨d2, h2⟩ : ∃ d, (dec (bl r)).2 = d := ⟨_, rfl⟩
      obtain ⟨d1, h1⟩ : ∃ d, (dec (bl r)).1 = d := ⟨_, rfl⟩
      rw [h2] at hd hp
      rw [h1] at hp
      have e1 : (0 : Int) ≤ (d2 : Int) := by omega
      have e2 : (d2 : Int) ≤ (r.size : Int) := by omega
      have hsz : r.size - d2 < r.size := by omega
      have hlen : pre.length + 1 ≤ 1000000 := by
        have : (parts (bl s)).length = pre.length + ((parts ((bl r).drop d2)).length + 1) := by rw [hx, hp, List.length_append, List.length_cons]
        omega
      have HP2 : Hid (parts (bl s) = (pre ++ [((bl r).take d2, d1)]) ++ parts (bl (r.extract d2 r.size))) := Lib.hid (by
        rw [bl_extract, ← bl_len, List.take_length, hx, hp, List.append_assoc]; rfl)
      have hs2 : (r.extract d2 r.size).size = r.size - d2 := by
        have : (bl (r.extract d2 r.size)).length = r.size - d2 := by rw [bl_extract, List.length_drop, List.length_take, bl_len]; omega
        rwa [bl_len] at this
      have HS2 := Lib.hid hs2
      have hel : (pre ++ [((bl r).take d2, d1)]).map rEnc = pre.map rEnc ++ [.int .i32 (d1 : Int)] := by rw [List.map_append]; rfl
      have HE := Lib.hid hel
      have HB := Lib.hid hb
      have HO := Lib.hid hown
      clear hL hnn hx hp hs2 hel hb hown HP
      go_wp2_with fail
      refine (HD.out _).mono ?_
      rintro e w2 ⟨rfl, b2⟩
      rw [h1, h2]
      have hown := own32_on HO.out b2
      have hb := next HB.out b2
      clear HD HO HB b2 h1 h2
      go_wp2_with (at_builtin; refine wpList_app _ rfl (.tmp 13) (.tmp 15) 25 rfl w.heap.size 21 i0 (.int .i32 0) 4 Try.underlying25 hi hz0 hz1 hz2 rfl _ _ _ rfl (hown.alloc _) _ _ 1 1 _ rfl (Row.one _ _ _) (by simp [Value.oneCell']) (by unfold maxLen; omega) (by omega) (by simp; have := hb.size; omega) ?_)
      intro v' w' hown' _ hb'
      have hb2 : Below w.heap.size w w' := (hb.alloc hb.size _).trans hb'
      rw [← HE.out] at hown'
      have hpe : pre.length + 1 = (pre ++ [((bl r).take d2, d1)]).length := by simp
      rw [hpe] at hown'
      clear hb hb' hown HE hpe
      go_wp2
      go_roundw
      case rel => exact ⟨_, _, rfl, HP2, by rw [HS2.out]; omega, hown', hb2⟩
      case measure => simp only [strLen]; rw [HS2.out]; exact hsz
theorem rEnc_get (l : List (List Nat × Nat)) (j : Nat) (h : j < l.length) : (l.map rEnc)[j]? = some (.int .i32 ((l.getD j ([], 0)).2 : Int)) := by
  simp [rEnc, List.getD_eq_getElem?_getD, List.getElem?_map, List.getElem?_eq_getElem h]
set_option maxRecDepth 100000 in
set_option maxHeartbeats 2000000 in
theorem rSame_yes (A A' : Option Addr) (n c c' : Nat) (l : List (List Nat × Nat)) (w : World) (hn : n ≤ 1000000) (hr : Row w w.heap.size A n (l.map rEnc)) (hr' : Row w w.heap.size A' n (l.map rEnc)) :
    Calls Try.prog 12 #[.slice A n c, .slice A' n c'] w fun e w' => e = .returned (.bool true) ∧ Below w.heap.size w w' := by
  have HR := Lib.hid hr
  have HR' := Lib.hid hr'
  have hl := hr.1
  rw [List.length_map] at hl
  clear hr hr'
  go_enter Try.func12, Try.ntmps12
  go_wp2
  go_loopw [5] (fun i wr => ∃ k : Nat, k ≤ n ∧ i = .int .i64 (k : Int) ∧ Below w.heap.size w wr) (fun i _ => n - (intOf i).toNat)
  case atStart => exact ⟨0, by omega, rfl, Below.refl _ _⟩
  case round =>
    obtain ⟨k, hk, rfl, hb⟩ := hrel
    by_cases hlt : k < n
    · obtain ⟨ba, oa, rfl, _, hca⟩ := (HR.out.below hb).2 (by omega)
      obtain ⟨bb, ob, rfl, _, hcb⟩ := (HR'.out.below hb).2 (by omega)
      have ca := hca k hlt
      have cb := hcb k hlt
      rw [rEnc_get l k (by omega)] at ca cb
      generalize ((l.getD k ([], 0)).2 : Int) = x at *
      have g0 : (0 : Int) ≤ (k : Int) := by omega
      have g1 : (k : Int) < (n : Int) := by omega
      have f1 : decide ((k : Int) < (n : Int)) = true := decide_eq_true g1
      have HB := Lib.hid hb
      clear hca hcb hb
      go_wp2
      go_quiet (fail)
      go_wp2
      go_roundw
      case rel => exact ⟨k + 1, by omega, by go_num, Below.dn HB.out _⟩
      case measure => simp [intOf]; omega
    · have f1 : decide ((k : Int) < (n : Int)) = false := decide_eq_false (by omega)
      go_wp2
      go_ret
      exact ⟨rfl, hb⟩
end Go.Proofs.Ytbhhakobkpdadaa
