/- Encoding a rune. -/
import Derived.Test.YtbhhakobkpdadaaQMath
import Derived.Deep.RegionHeld3
namespace Go.Proofs.Ytbhhakobkpdadaa
open Go.RowKit

theorem i32_ofInt (a : Nat) (ha : a < 2147483648) : (BitVec.ofInt 32 (a : Int)).toNat = a := by
  rw [BitVec.ofInt_natCast, BitVec.toNat_ofNat]; exact Nat.mod_eq_of_lt (by omega)
theorem i32_wrap (n : Nat) (h : n < 2147483648) : IntKind.i32.wrap (n : Int) = (n : Int) := by
  rw [IntKind.wrap_i32]
  omega
theorem and_i32 (a b : Nat) (ha : a < 2147483648) (hb : b < 2147483648) : bits .and .i32 (a : Int) (b : Int) = ((a &&& b : Nat) : Int) := by
  have hx : a &&& b < 2 ^ 31 := Nat.and_lt_two_pow _ (by omega)
  show IntKind.i32.wrap ((BitVec.ofInt 32 (a : Int) &&& BitVec.ofInt 32 (b : Int)).toNat : Int) = _
  rw [BitVec.toNat_and, i32_ofInt a ha, i32_ofInt b hb, i32_wrap _ (by omega)]
theorem or_i32 (a b : Nat) (ha : a < 2147483648) (hb : b < 2147483648) : bits .or .i32 (a : Int) (b : Int) = ((a ||| b : Nat) : Int) := by
  have hx : a ||| b < 2 ^ 31 := Nat.or_lt_two_pow (by omega) (by omega)
  show IntKind.i32.wrap ((BitVec.ofInt 32 (a : Int) ||| BitVec.ofInt 32 (b : Int)).toNat : Int) = _
  rw [BitVec.toNat_or, i32_ofInt a ha, i32_ofInt b hb, i32_wrap _ (by omega)]
theorem u8_ofInt (a : Nat) (ha : a < 256) : (BitVec.ofInt 8 (a : Int)).toNat = a := by
  rw [BitVec.ofInt_natCast, BitVec.toNat_ofNat]; exact Nat.mod_eq_of_lt (by omega)
theorem u8_wrap (n : Nat) (h : n < 256) : IntKind.u8.wrap (n : Int) = (n : Int) := by
  simp only [IntKind.wrap, IntKind.bits, IntKind.signed, Bool.false_and, Bool.false_eq_true, if_false]
  omega
theorem and_u8 (a b : Nat) (ha : a < 256) (hb : b < 256) : bits .and .u8 (a : Int) (b : Int) = ((a &&& b : Nat) : Int) := by
  have hx : a &&& b < 2 ^ 8 := Nat.and_lt_two_pow _ (by omega)
  show IntKind.u8.wrap ((BitVec.ofInt 8 (a : Int) &&& BitVec.ofInt 8 (b : Int)).toNat : Int) = _
  rw [BitVec.toNat_and, u8_ofInt a ha, u8_ofInt b hb, u8_wrap _ (by omega)]
theorem or_u8 (a b : Nat) (ha : a < 256) (hb : b < 256) : bits .or .u8 (a : Int) (b : Int) = ((a ||| b : Nat) : Int) := by
  have hx : a ||| b < 2 ^ 8 := Nat.or_lt_two_pow (by omega) (by omega)
  show IntKind.u8.wrap ((BitVec.ofInt 8 (a : Int) ||| BitVec.ofInt 8 (b : Int)).toNat : Int) = _
  rw [BitVec.toNat_or, u8_ofInt a ha, u8_ofInt b hb, u8_wrap _ (by omega)]
theorem low6 (r : Nat) : r &&& 63 = r % 64 := Nat.and_two_pow_sub_one_eq_mod r 6
theorem low4 (r : Nat) : r &&& 15 = r % 16 := Nat.and_two_pow_sub_one_eq_mod r 4
theorem or_add6 (a b : Nat) (h : b < 64) : 64 * a ||| b = 64 * a + b := (Nat.two_pow_add_eq_or_of_lt (i := 6) h a).symm
theorem or_add4 (a b : Nat) (h : b < 16) : 16 * a ||| b = 16 * a + b := (Nat.two_pow_add_eq_or_of_lt (i := 4) h a).symm
theorem or_add3 (a b : Nat) (h : b < 8) : 8 * a ||| b = 8 * a + b := (Nat.two_pow_add_eq_or_of_lt (i := 3) h a).symm
theorem or128 (x : Nat) (h : x < 64) : bits .or .u8 128 (x : Int) = ((128 + x : Nat) : Int) := by
  rw [show (128 : Int) = ((128 : Nat) : Int) from rfl, or_u8 _ _ (by omega) (by omega)]
  exact congrArg _ (or_add6 2 x h)
theorem or192 (x : Nat) (h : x < 64) : bits .or .u8 192 (x : Int) = ((192 + x : Nat) : Int) := by
  rw [show (192 : Int) = ((192 : Nat) : Int) from rfl, or_u8 _ _ (by omega) (by omega)]
  exact congrArg _ (or_add6 3 x h)
theorem or224 (x : Nat) (h : x < 16) : bits .or .u8 224 (x : Int) = ((224 + x : Nat) : Int) := by
  rw [show (224 : Int) = ((224 : Nat) : Int) from rfl, or_u8 _ _ (by omega) (by omega)]
  exact congrArg _ (or_add4 14 x h)
theorem or240 (x : Nat) (h : x < 8) : bits .or .u8 240 (x : Int) = ((240 + x : Nat) : Int) := by
  rw [show (240 : Int) = ((240 : Nat) : Int) from rfl, or_u8 _ _ (by omega) (by omega)]
  exact congrArg _ (or_add3 30 x h)
theorem and63 (x : Nat) (h : x < 2147483648) : bits .and .i32 (x : Int) 63 = ((x % 64 : Nat) : Int) := by
  rw [show (63 : Int) = ((63 : Nat) : Int) from rfl, and_i32 _ _ h (by omega), low6]
theorem tail_val (v k : Nat) (h : v ≤ 1114111) : bits .or .u8 128 (bits .and .i32 ((v : Int) / 2 ^ k) 63 % 256) = ((128 + v / 2 ^ k % 64 : Nat) : Int) := by
  have h2 : v / 2 ^ k ≤ v := Nat.div_le_self _ _
  rw [show (v : Int) / 2 ^ k = ((v / 2 ^ k : Nat) : Int) by rw [Int.natCast_ediv, Int.natCast_pow]; rfl, and63 _ (by omega), show (((v / 2 ^ k % 64 : Nat) : Int) % 256) = ((v / 2 ^ k % 64 : Nat) : Int) by omega, or128 _ (by omega)]
theorem isRune_any (r : Int) (w : World) : Calls Try.prog 28 #[.int .i32 r] w fun e w' => e = .returned (.bool (isR r)) ∧ w' = w := by
  by_cases h0 : 0 ≤ r
  · by_cases h1 : r ≤ 1114111
    · by_cases h2 : r < 55296
      · have hR : isR r = true := decide_eq_true (by omega)
        rw [hR]
        go_enter Try.func28, Try.ntmps28
        go_wp2
        go_ret
        exact ⟨rfl, rfl⟩
      · by_cases h3 : 57343 < r
        · have hR : isR r = true := decide_eq_true (by omega)
          rw [hR]
          go_enter Try.func28, Try.ntmps28
          go_wp2
          go_ret
          exact ⟨rfl, rfl⟩
        · have hR : isR r = false := decide_eq_false (by omega)
          rw [hR]
          go_enter Try.func28, Try.ntmps28
          go_wp2
          go_ret
          exact ⟨rfl, rfl⟩
    · have hR : isR r = false := decide_eq_false (by omega)
      rw [hR]
      go_enter Try.func28, Try.ntmps28
      go_wp2
      go_ret
      exact ⟨rfl, rfl⟩
  · have hR : isR r = false := decide_eq_false (by omega)
    rw [hR]
    go_enter Try.func28, Try.ntmps28
    go_wp2
    go_ret
    exact ⟨rfl, rfl⟩
theorem tail_any (k b v : Nat) (w : World) (hk : k ≤ 12) (hv : v ≤ 1114111) (hc : w.cell? ⟨b, 0, none⟩ = some (.int .i32 (v : Int))) :
    Calls Try.prog 29 #[.int .i64 (k : Int), .pointer (some ⟨b, 0, none⟩)] w fun e w' => e = .returned (.int .u8 ((128 + v / 2 ^ k % 64 : Nat) : Int)) ∧ w' = w := by
  have hk0 : (0 : Int) ≤ (k : Int) := by omega
  have hk1 : (k : Int) ≤ 12 := by omega
  go_enter Try.func29, Try.ntmps29
  go_wp2
  go_ret
  exact ⟨congrArg (fun x => Ending.returned (.int .u8 x)) (tail_val v k hv), rfl⟩

/-- What a call that answers a text, and makes memory, leaves behind. -/
def StrOut (w : World) (l : List Nat) (e : Ending) (w' : World) : Prop := ∃ s, e = .returned (.string s) ∧ bl s = l ∧ Below w.heap.size w w'
theorem is_yes (v : Nat) (h : runeN v = true) (w : World) : Calls Try.prog 28 #[.int .i32 (v : Int)] w fun e w' => e = .returned (.bool true) ∧ w' = w := by
  have := isRune_any v w
  rwa [isR_nat, h] at this
theorem tail0 (b v : Nat) (w : World) (hv : v ≤ 1114111) (hc : w.cell? ⟨b, 0, none⟩ = some (.int .i32 (v : Int))) :
    Calls Try.prog 29 #[.int .i64 0, .pointer (some ⟨b, 0, none⟩)] w fun e w' => e = .returned (.int .u8 ((128 + v % 64 : Nat) : Int)) ∧ w' = w := by
  have := tail_any 0 b v w (by omega) hv hc
  rwa [Nat.pow_zero, Nat.div_one] at this
theorem tail6 (b v : Nat) (w : World) (hv : v ≤ 1114111) (hc : w.cell? ⟨b, 0, none⟩ = some (.int .i32 (v : Int))) :
    Calls Try.prog 29 #[.int .i64 6, .pointer (some ⟨b, 0, none⟩)] w fun e w' => e = .returned (.int .u8 ((128 + v / 64 % 64 : Nat) : Int)) ∧ w' = w :=
  tail_any 6 b v w (by omega) hv hc
theorem tail12 (b v : Nat) (w : World) (hv : v ≤ 1114111) (hc : w.cell? ⟨b, 0, none⟩ = some (.int .i32 (v : Int))) :
    Calls Try.prog 29 #[.int .i64 12, .pointer (some ⟨b, 0, none⟩)] w fun e w' => e = .returned (.int .u8 ((128 + v / 4096 % 64 : Nat) : Int)) ∧ w' = w :=
  tail_any 12 b v w (by omega) hv hc
/-- A conversion of a slice just made to a text. -/
theorem cv_row (W : World) (C : Array Value) (L : List Int) (n c : Nat) (h : C.toList = ints .u8 L) (hn : L.length = n) :
    Sem.run Try.prog (convert 40 9 (.slice (some ⟨W.heap.size, 0, none⟩) n c)) (W.alloc (.cells C 5)) = .ok (.string (strOfNums L)) (W.alloc (.cells C 5)) := by
  refine run_convert_bytes_arg (P := Try.prog) _ 40 5 Try.underlying40 Try.underlying5 W.heap.size 0 n c L hn (fun i hi => ?_) 9 Try.underlying9
  rw [Nat.zero_add, show C = (ints .u8 L).toArray by rw [← h]]
  exact (Blk.cell (Blk.made W 5 (ints .u8 L)) i).trans (ints_get _ _ _ (by omega))
theorem cv_drew (W : World) (C : Array Value) (L : List Int) (n c : Nat) (h : C.toList = ints .u8 L) (hn : L.length = n) :
    Sem.run Try.prog (convert 40 9 (.slice (some ⟨W.heap.size, 0, none⟩) n c)) (W.alloc (.cells C 5)).drew = .ok (.string (strOfNums L)) (W.alloc (.cells C 5)).drew :=
  cv_row W.drew C L n c h hn
theorem is_no (r : Int) (h : isR r = false) (w : World) : Calls Try.prog 28 #[.int .i32 r] w fun e w' => e = .returned (.bool false) ∧ w' = w := by
  have := isRune_any r w
  rwa [h] at this
theorem bl_str {L : List Int} {l : List Nat} (h : L = l.map (fun n : Nat => (n : Int))) (hb : Byt l) : bl (strOfNums L) = l := by
  subst h
  rw [show strOfNums (l.map fun n : Nat => (n : Int)) = ofl l by simp [strOfNums, ofl, Function.comp_def]]
  exact bl_ofl hb
set_option maxRecDepth 100000 in
set_option maxHeartbeats 4000000 in
theorem Encode_one (v : Nat) (h2 : v < 128) (w : World) : Calls Try.prog 15 #[.int .i32 (v : Int)] w (StrOut w [v]) := by
  have hR : runeN v = true := decide_eq_true (by omega)
  have hv1 : v ≤ 1114111 := by omega
  go_enter Try.func15, Try.ntmps15
  go_wp2_with fail
  with_reducible refine (is_yes v hR _).mono ?_
  rintro e w' ⟨rfl, rfl⟩
  obtain ⟨b, hb⟩ : ∃ b, w.heap.size = b := ⟨_, rfl⟩
  obtain ⟨W, hW⟩ : ∃ W, w.alloc (.cells #[.int .i32 (v : Int)] 21) = W := ⟨_, rfl⟩
  rw [hb, hW]
  have hc : W.cell? ⟨b, 0, none⟩ = some (.int .i32 (v : Int)) := by rw [← hW, ← hb]; exact (Blk.cell (Blk.made w 21 [.int .i32 (v : Int)]) 0)
  have HB : Hid (Below w.heap.size w W) := Lib.hid (by rw [← hW]; exact (Below.refl _ _).alloc (Nat.le_refl _) _)
  have hbW : b < W.heap.size := by rw [← hW, ← hb]; simp
  have kc := fun (W : World) (x0 : Int) => cv_row W #[.int .u8 x0] [x0] 1 1 rfl rfl
  have kd := fun (W : World) (x0 : Int) => cv_drew W #[.int .u8 x0] [x0] 1 1 rfl rfl
  clear hbW hb hW
  go_wp2_with fail
  go_wp2
  go_ret
  exact ⟨_, rfl, bl_str (by simp) (Byt.cons (by omega) Byt.nil), HB.out.alloc HB.out.size _⟩
set_option maxRecDepth 100000 in
set_option maxHeartbeats 4000000 in
theorem Encode_two (v : Nat) (h1 : 128 ≤ v) (h2 : v < 2048) (w : World) : Calls Try.prog 15 #[.int .i32 (v : Int)] w (StrOut w [192 + v / 64, 128 + v % 64]) := by
  have hR : runeN v = true := decide_eq_true (by omega)
  have hv1 : v ≤ 1114111 := by omega
  go_enter Try.func15, Try.ntmps15
  go_wp2_with fail
  with_reducible refine (is_yes v hR _).mono ?_
  rintro e w' ⟨rfl, rfl⟩
  obtain ⟨b, hb⟩ : ∃ b, w.heap.size = b := ⟨_, rfl⟩
  obtain ⟨W, hW⟩ : ∃ W, w.alloc (.cells #[.int .i32 (v : Int)] 21) = W := ⟨_, rfl⟩
  rw [hb, hW]
  have hc : W.cell? ⟨b, 0, none⟩ = some (.int .i32 (v : Int)) := by rw [← hW, ← hb]; exact (Blk.cell (Blk.made w 21 [.int .i32 (v : Int)]) 0)
  have HB : Hid (Below w.heap.size w W) := Lib.hid (by rw [← hW]; exact (Below.refl _ _).alloc (Nat.le_refl _) _)
  have hbW : b < W.heap.size := by rw [← hW, ← hb]; simp
  have hS0 : Hid (W.drew.cell? ⟨b, 0, none⟩ = some (.int .i32 (v : Int)) ∧ Below w.heap.size w W.drew) := Lib.hid ⟨hc, HB.out.drew⟩
  have hSA : Hid (∀ o, (W.drew.alloc o).cell? ⟨b, 0, none⟩ = some (.int .i32 (v : Int)) ∧ Below w.heap.size w (W.drew.alloc o)) := Lib.hid (fun o => ⟨(World.cell?_alloc_lt W.drew o _ hbW).trans hc, (HB.out.drew).alloc HB.out.size _⟩)
  have kc := fun (W : World) (x0 x1 : Int) => cv_row W #[.int .u8 x0, .int .u8 x1] [x0, x1] 2 2 rfl rfl
  have kd := fun (W : World) (x0 x1 : Int) => cv_drew W #[.int .u8 x0, .int .u8 x1] [x0, x1] 2 2 rfl rfl
  clear hbW hb hW
  go_wp2_with fail
  go_region_with (first
      | (go_at_call 29
         with_reducible refine (tail0 b v _ hv1 hS0.out.1).mono ?_
         rintro e w' ⟨rfl, rfl⟩))
  all_goals
    go_wp2
    go_ret
    refine ⟨_, rfl, bl_str ?_ (by intro x hx; simp at hx; omega), (hSA.out _).2⟩
    have hq : IntKind.u8.wrap ((v : Int) / 64) = ((v / 64 : Nat) : Int) := by
      rw [show (v : Int) / 64 = ((v / 64 : Nat) : Int) by omega, u8_wrap _ (by omega)]
    rw [hq, or192 _ (by omega)]
    simp

end Go.Proofs.Ytbhhakobkpdadaa
