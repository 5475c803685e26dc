/- Digits behind an escape. -/
import Derived.Test.YtbhhakobkpdadaaQMap
namespace Go.Proofs.Ytbhhakobkpdadaa
open Go.RowKit Go.Shelf

def dcB (c : Nat) : Nat := if c = 85 then 8 else if c = 117 then 4 else if c = 120 then 2 else 0
def digV (c : Nat) : Option Nat := if 48 ≤ c ∧ c ≤ 57 then some (c - 48) else if 97 ≤ c ∧ c ≤ 102 then some (c - 87) else if 65 ≤ c ∧ c ≤ 70 then some (c - 55) else none
/-- The number of hexadecimal digits. -/
def hexG (n : Nat) : List Nat → Option Nat
  | [] => some n
  | c :: t => match digV c with
    | none => none
    | some d => hexG (n * 16 + d) t
def numB (L : List Nat) (k : Nat) : Option Nat := if k = 0 ∨ L.length < k then none else hexG 0 (L.take k)
theorem dcB_le (c : Nat) : dcB c ≤ 8 := by unfold dcB; repeat' split
                                           all_goals omega
theorem digV_lt {c d : Nat} (h : digV c = some d) : d < 16 := by
  unfold digV at h
  repeat' split at h
  all_goals (try cases h)
  all_goals omega
def lowB (c : Nat) : Nat := if 65 ≤ c ∧ c ≤ 70 then c + 32 else c
theorem index_hex : ∀ c : Fin 256, Lib.indexByte hexS.data.toList (lowB c.val).toUInt8 = (match digV c.val with | some d => (d : Int) | none => -1) := by decide +kernel

set_option maxRecDepth 100000 in
theorem digitCount_any (c : Nat) (hc : c < 256) (w : World) : Calls Try.prog 40 #[.int .i32 (c : Int)] w fun e w' => e = .returned (.int .i64 (dcB c : Nat)) ∧ w' = w := by
  by_cases h1 : c = 85
  · subst h1
    go_enter Try.func40, Try.ntmps40
    go_wp2
    go_ret
    exact ⟨rfl, rfl⟩
  · by_cases h2 : c = 117
    · subst h2
      go_enter Try.func40, Try.ntmps40
      go_wp2
      go_ret
      exact ⟨rfl, rfl⟩
    · by_cases h3 : c = 120
      · subst h3
        go_enter Try.func40, Try.ntmps40
        go_wp2
        go_ret
        exact ⟨rfl, rfl⟩
      · have d1 : ((c : Int) == 85) = false := by simp; omega
        have d2 : ((c : Int) == 117) = false := by simp; omega
        have d3 : ((c : Int) == 120) = false := by simp; omega
        have HZ : Hid (dcB c = 0) := Lib.hid (by rw [dcB, if_neg h1, if_neg h2, if_neg h3])
        clear h1 h2 h3 hc
        go_enter Try.func40, Try.ntmps40
        go_wp2
        go_ret
        rw [HZ.out]
        exact ⟨rfl, rfl⟩
/-- What number answers. -/
def NumOut (w : World) (o : Option Nat) (e : Ending) (w' : World) : Prop := e = .returned (.tuple #[.int .i64 ((o.getD 0 : Nat) : Int), .bool o.isSome]) ∧ Below w.heap.size w w'
theorem index_run (c : Nat) (hc : c < 256) (w : World) : Calls Try.prog 45 #[.string ⟨#[48, 49, 50, 51, 52, 53, 54, 55, 56, 57, 97, 98, 99, 100, 101, 102]⟩, .int .u8 ((lowB c : Nat) : Int)] w fun e w' => e = .returned (.int .i64 (match digV c with | some d => (d : Int) | none => -1)) ∧ w' = w := by
  have h := Try.strings_IndexByte hexS ((lowB c : Nat) : Int) w
  rw [Int.toNat_natCast, index_hex ⟨c, hc⟩] at h
  exact h
theorem hexG_next {n c : Nat} {t : List Nat} : hexG n (c :: t) = (digV c).bind fun d => hexG (n * 16 + d) t := by
  rw [hexG]
  cases digV c <;> rfl
theorem i64_ofInt (a : Nat) (ha : a < 4611686018427387904) : (BitVec.ofInt 64 (a : Int)).toNat = a := by
  rw [BitVec.ofInt_natCast, BitVec.toNat_ofNat]; exact Nat.mod_eq_of_lt (by omega)
theorem i64_wrap (n : Nat) (h : n < 4611686018427387904) : IntKind.i64.wrap (n : Int) = (n : Int) := by
  rw [IntKind.wrap_i64]
  omega
theorem or_i64 (a b : Nat) (ha : a < 4611686018427387904) (hb : b < 4611686018427387904) : bits .or .i64 (a : Int) (b : Int) = ((a ||| b : Nat) : Int) := by
  have hx : a ||| b < 2 ^ 62 := Nat.or_lt_two_pow (by omega) (by omega)
  show IntKind.i64.wrap ((BitVec.ofInt 64 (a : Int) ||| BitVec.ofInt 64 (b : Int)).toNat : Int) = _
  rw [BitVec.toNat_or, i64_ofInt a ha, i64_ofInt b hb, i64_wrap _ (by omega)]
theorem or4 (n d : Nat) (hn : n < 4294967296) (hd : d < 16) : bits .or .i64 ((n : Int) * 16) (d : Int) = (n : Int) * 16 + (d : Int) := by
  have h := or_i64 (n * 16) d (by omega) (by omega)
  rw [Nat.mul_comm n 16, or_add4 n d hd] at h
  rw [show ((n : Int) * 16) = ((16 * n : Nat) : Int) by omega, h]
  omega
theorem hexG_lt {k : Nat} : ∀ (l : List Nat) (n m : Nat), n < k → hexG n l = some m → m < k * 16 ^ l.length := by
  intro l
  induction l generalizing k with
  | nil => intro n m hn h; cases h; simpa using hn
  | cons c t ih =>
    intro n m hn h
    rw [hexG] at h
    cases hd : digV c with
    | none => rw [hd] at h; cases h
    | some d =>
      rw [hd] at h
      have := digV_lt hd
      have h2 := ih (k := k * 16) (n * 16 + d) m (by omega) h
      rw [List.length_cons, Nat.pow_succ, Nat.mul_comm (16 ^ t.length) 16, ← Nat.mul_assoc]
      exact h2
theorem numB_lt {L : List Nat} {k m : Nat} (hk : k ≤ 8) (h : numB L k = some m) : m < 4294967296 := by
  unfold numB at h
  split at h
  · cases h
  · have h2 := hexG_lt (k := 1) _ 0 m (by omega) h
    have h3 : (16 : Nat) ^ (L.take k).length ≤ 16 ^ 8 := Nat.pow_le_pow_right (by omega) (by rw [List.length_take]; omega)
    omega
set_option maxRecDepth 100000 in
set_option maxHeartbeats 4000000 in
theorem number_any (s : ByteArray) (k : Nat) (hk8 : k ≤ 8) (_hs : s.size ≤ 1000000) (w : World) : Calls Try.prog 41 #[.string s, .int .i64 (k : Int)] w (NumOut w (numB (bl s) k)) := by
  by_cases hk : k = 0
  · subst hk
    go_enter Try.func41, Try.ntmps41
    go_wp2
    go_ret2
    exact ⟨rfl, Below.refl _ _⟩
  · have hk0 : ((k : Int) == 0) = false := by simp; omega
    by_cases hlt : s.size < k
    · have HN : Hid (numB (bl s) k = none) := Lib.hid (by rw [numB, if_pos (by rw [bl_len]; omega)])
      have hd : decide (s.size < k) = true := decide_eq_true hlt
      clear hk hlt hk8 _hs
      go_enter Try.func41, Try.ntmps41
      go_wp2
      go_ret2
      rw [HN.out]
      exact ⟨rfl, Below.refl _ _⟩
    · have HN : Hid (numB (bl s) k = hexG 0 ((bl s).take k)) := Lib.hid (by rw [numB, if_neg (by rw [bl_len]; omega)])
      have hd : decide (s.size < k) = false := decide_eq_false hlt
      have b1 : (0 : Int) ≤ (k : Int) := by omega
      have b3 : (k : Int) ≤ (s.size : Int) := by omega
      have hcv := fun w s => run_bytes_of_string (P := Try.prog) w 9 40 5 s Try.underlying9 Try.underlying40 Try.underlying5
      have hks : k ≤ s.size := by omega
      clear hk hlt _hs
      go_enter Try.func41, Try.ntmps41
      go_wp2_with fail
      obtain ⟨S1, hS1⟩ : ∃ S, s.extract 0 k = S := ⟨_, rfl⟩
      have hbl : bl S1 = (bl s).take k := by rw [← hS1, bl_extract]; rfl
      rw [← hbl] at HN
      have hsz1 : S1.size = k := by
        have := bl_len S1
        rw [hbl, List.length_take, bl_len] at this
        omega
      rw [hS1]
      obtain ⟨tl, htl⟩ : ∃ l, bl S1 = l := ⟨_, rfl⟩
      have hlen : tl.length = k := by rw [← htl, bl_len, hsz1]
      have hbt : Byt tl := by rw [← htl]; exact bl_byt S1
      rw [htl] at HN
      have hC : ∀ j, j < k → (w.alloc (.cells (bytesRow S1 (grownCap w k 0 5)) 5 ((bytesRow S1 (grownCap w k 0 5)).size, (bytesRow S1 (grownCap w k 0 5)).size + 1))).drew.cell? ⟨w.heap.size, j, none⟩ = some (.int .u8 ((tl.getD j 0 : Nat) : Int)) := fun j hj => by
        have := bl_cell w S1 (grownCap w k 0 5) j ((bytesRow S1 (grownCap w k 0 5)).size, (bytesRow S1 (grownCap w k 0 5)).size + 1) (by omega)
        rw [htl] at this
        exact this
      have hB : Below w.heap.size w (w.alloc (.cells (bytesRow S1 (grownCap w k 0 5)) 5 ((bytesRow S1 (grownCap w k 0 5)).size, (bytesRow S1 (grownCap w k 0 5)).size + 1))).drew := ((Below.refl _ w).alloc (Nat.le_refl _) _).drew
      obtain ⟨W, hW⟩ : ∃ W, (w.alloc (.cells (bytesRow S1 (grownCap w k 0 5)) 5 ((bytesRow S1 (grownCap w k 0 5)).size, (bytesRow S1 (grownCap w k 0 5)).size + 1))).drew = W := ⟨_, rfl⟩
      rw [hW] at hC hB ⊢
      obtain ⟨g, hg⟩ : ∃ g, w.heap.size = g := ⟨_, rfl⟩
      rw [hg] at hC ⊢
      have HC := Lib.hid hC
      have HB := Lib.hid hB
      have HT := Lib.hid hbt
      have HTl := Lib.hid hlen
      generalize grownCap w k 0 5 = cp at *
      clear hcv hC hB hbt hlen htl hsz1 hbl hS1 hW hg
      go_loopw [6, 23] (fun n i wr => ∃ j N : Nat, j ≤ k ∧ i = .int .i64 j ∧ n = .int .i64 N ∧ Hid (N < 16 ^ j ∧ numB (bl s) k = hexG N (tl.drop j)) ∧ wr = W) (fun _ i _ => k - (intOf i).toNat)
      case atStart => exact ⟨0, 0, by omega, rfl, rfl, Lib.hid ⟨by decide, HN.out⟩, rfl⟩
      case round =>
        obtain ⟨j, N, hj, rfl, rfl, HX, rfl⟩ := hrel
        by_cases hlt : j < k
        · have hj0 : (0 : Int) ≤ (j : Int) := by omega
          have hj1 : (j : Int) < (k : Int) := by omega
          have hcell := HC.out j hlt
          obtain ⟨c, hc⟩ : ∃ b, tl.getD j 0 = b := ⟨_, rfl⟩
          have hc8 : c < 256 := by
            rw [← hc, List.getD_eq_getElem?_getD, List.getElem?_eq_getElem (by rw [HTl.out]; exact hlt)]
            exact HT.out _ (List.getElem_mem _)
          rw [hc] at hcell
          have hdr : tl.drop j = c :: tl.drop (j + 1) := by
            rw [List.drop_eq_getElem_cons (by rw [HTl.out]; exact hlt)]
            congr 1
            rw [← hc, List.getD_eq_getElem?_getD, List.getElem?_eq_getElem (by rw [HTl.out]; exact hlt)]
            rfl
          have hNx := HX.out.2
          rw [hdr, hexG_next] at hNx
          have hN16 : N < 4294967296 := Nat.lt_of_lt_of_le HX.out.1 (Nat.le_trans (Nat.pow_le_pow_right (by omega) (show j ≤ 8 by omega)) (by decide))
          have HI := Lib.hid (fun w => index_run c hc8 w)
          obtain ⟨cl, hcl⟩ : ∃ x, lowB c = x := ⟨_, rfl⟩
          rw [hcl] at HI
          have HCL := Lib.hid hcl
          have e1 : decide ((65 : Int) ≤ (c : Int)) = decide (65 ≤ c) := by apply decide_eq_decide.2; omega
          have e2 : decide ((c : Int) ≤ 70) = decide (c ≤ 70) := by apply decide_eq_decide.2; omega
          have HNx := Lib.hid hNx
          clear hcl hNx hdr hc
          have hup : (65 ≤ c ∧ c ≤ 70) ∨ c < 65 ∨ 70 < c := by omega
          cases hdv : digV c with
          | none =>
            rw [hdv] at HI HNx
            rcases hup with hu | hu | hu
            · have f1 := e1.trans (decide_eq_true hu.1)
              have f2 := e2.trans (decide_eq_true hu.2)
              have hlc : (c : Int) + 32 = (cl : Int) := by have := HCL.out; rw [lowB, if_pos hu] at this; omega
              have hwc : IntKind.u8.wrap ((c : Int) + 32) = (cl : Int) := by rw [hlc]; exact u8_wrap cl (by omega)
              clear e1 e2 hu hlc hdv
              go_wp2_with fail
              with_reducible refine (HI.out _).mono ?_
              rintro e w' ⟨rfl, rfl⟩
              go_wp2_with fail
              go_ret2
              rw [HNx.out]
              exact ⟨rfl, HB.out⟩
            · have f1 := e1.trans (decide_eq_false (show ¬ 65 ≤ c by omega))
              have hlc : c = cl := by have := HCL.out; rw [lowB, if_neg (by omega)] at this; exact this
              subst hlc
              clear e1 e2 hu hdv
              go_wp2_with fail
              with_reducible refine (HI.out _).mono ?_
              rintro e w' ⟨rfl, rfl⟩
              go_wp2_with fail
              go_ret2
              rw [HNx.out]
              exact ⟨rfl, HB.out⟩
            · have f1 := e1.trans (decide_eq_true (show 65 ≤ c by omega))
              have f2 := e2.trans (decide_eq_false (show ¬ c ≤ 70 by omega))
              have hlc : c = cl := by have := HCL.out; rw [lowB, if_neg (by omega)] at this; exact this
              subst hlc
              clear e1 e2 hu hdv
              go_wp2_with fail
              with_reducible refine (HI.out _).mono ?_
              rintro e w' ⟨rfl, rfl⟩
              go_wp2_with fail
              go_ret2
              rw [HNx.out]
              exact ⟨rfl, HB.out⟩
          | some d =>
            rw [hdv] at HI HNx
            have hd16 := digV_lt hdv
            have dn : decide ((d : Int) < 0) = false := decide_eq_false (by omega)
            rcases hup with hu | hu | hu
            · have f1 := e1.trans (decide_eq_true hu.1)
              have f2 := e2.trans (decide_eq_true hu.2)
              have hlc : (c : Int) + 32 = (cl : Int) := by have := HCL.out; rw [lowB, if_pos hu] at this; omega
              have hwc : IntKind.u8.wrap ((c : Int) + 32) = (cl : Int) := by rw [hlc]; exact u8_wrap cl (by omega)
              clear e1 e2 hu hlc hdv
              go_wp2_with fail
              with_reducible refine (HI.out _).mono ?_
              rintro e w' ⟨rfl, rfl⟩
              go_wp2_with fail
              exact ⟨⟨j + 1, N * 16 + d, hlt, by go_num, by rw [or4 N d hN16 hd16]; simp, Lib.hid ⟨by rw [Nat.pow_succ]; have := HX.out.1; omega, HNx.out⟩, trivial⟩, by simp [intOf]; omega⟩
            · have f1 := e1.trans (decide_eq_false (show ¬ 65 ≤ c by omega))
              have hlc : c = cl := by have := HCL.out; rw [lowB, if_neg (by omega)] at this; exact this
              subst hlc
              clear e1 e2 hu hdv
              go_wp2_with fail
              with_reducible refine (HI.out _).mono ?_
              rintro e w' ⟨rfl, rfl⟩
              go_wp2_with fail
              exact ⟨⟨j + 1, N * 16 + d, hlt, by go_num, by rw [or4 N d hN16 hd16]; simp, Lib.hid ⟨by rw [Nat.pow_succ]; have := HX.out.1; omega, HNx.out⟩, trivial⟩, by simp [intOf]; omega⟩
            · have f1 := e1.trans (decide_eq_true (show 65 ≤ c by omega))
              have f2 := e2.trans (decide_eq_false (show ¬ c ≤ 70 by omega))
              have hlc : c = cl := by have := HCL.out; rw [lowB, if_neg (by omega)] at this; exact this
              subst hlc
              clear e1 e2 hu hdv
              go_wp2_with fail
              with_reducible refine (HI.out _).mono ?_
              rintro e w' ⟨rfl, rfl⟩
              go_wp2_with fail
              exact ⟨⟨j + 1, N * 16 + d, hlt, by go_num, by rw [or4 N d hN16 hd16]; simp, Lib.hid ⟨by rw [Nat.pow_succ]; have := HX.out.1; omega, HNx.out⟩, trivial⟩, by simp [intOf]; omega⟩
        · have hjk : j = k := by omega
          subst hjk
          have HF := HX.out.2
          rw [List.drop_of_length_le (by rw [HTl.out]; exact Nat.le_refl _)] at HF
          have HF' : Hid (numB (bl s) j = some N) := Lib.hid HF
          clear HF hlt
          go_wp2_with fail
          go_ret2
          rw [HF'.out]
          exact ⟨rfl, HB.out⟩
end Go.Proofs.Ytbhhakobkpdadaa
