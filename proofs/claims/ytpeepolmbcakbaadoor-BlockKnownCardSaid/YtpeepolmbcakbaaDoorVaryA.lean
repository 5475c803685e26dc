/- Math U Put Reader Index ReadU ReadV Eq Reads Awake: taken over. -/
import Derived.Test.YtpeepolmbcakbaaDoorBase
import Derived.WalkSpells
import Derived.Deep.QuietTactic
import Derived.BigQuiet
namespace Go.Proofs.YtpeepolmbcakbaaDoor
open Go.RowKit

def leb (n : Nat) : List Int := if n < 128 then [(n : Int)] else ((n % 128 + 128 : Nat) : Int) :: leb (n / 128)
termination_by n
decreasing_by omega

theorem leb_small {n : Nat} (h : n < 128) : leb n = [(n : Int)] := by rw [leb, if_pos h]
theorem leb_big {n : Nat} (h : ¬ n < 128) : leb n = ((n % 128 + 128 : Nat) : Int) :: leb (n / 128) := by rw [leb, if_neg h]

theorem leb_len_le : ∀ (k n : Nat), n < 128 ^ (k + 1) → (leb n).length ≤ k + 1
  | 0, n, h => by rw [leb_small (by simpa using h)]; simp
  | k + 1, n, h => by
    by_cases hn : n < 128
    · rw [leb_small hn]; simp
    · rw [leb_big hn]
      have h' : n / 128 < 128 ^ (k + 1) := by rw [Nat.pow_succ] at h; omega
      have := leb_len_le k (n / 128) h'
      simp only [List.length_cons]; omega
theorem leb_len8 {n : Nat} (h : n ≤ 18014398509481982) : (leb n).length ≤ 8 := leb_len_le 7 n (by omega)
theorem leb_pos (n : Nat) : 0 < (leb n).length := by
  by_cases h : n < 128
  · rw [leb_small h]; simp
  · rw [leb_big h]; simp
theorem leb_byte : ∀ (k n : Nat), n < 128 ^ (k + 1) → ∀ x ∈ leb n, 0 ≤ x ∧ x ≤ 255
  | 0, n, h => by
    have h' : n < 128 := by simpa using h
    rw [leb_small h']; intro x hx; simp at hx; omega
  | k + 1, n, h => by
    by_cases hn : n < 128
    · rw [leb_small hn]; intro x hx; simp at hx; omega
    · rw [leb_big hn]
      have h' : n / 128 < 128 ^ (k + 1) := by rw [Nat.pow_succ] at h; omega
      intro x hx
      rcases List.mem_cons.1 hx with rfl | hx
      · omega
      · exact leb_byte k (n / 128) h' x hx
theorem leb_step {n m : Nat} {out : List Int} (h : leb n = out ++ leb m) (hm : ¬ m < 128) : leb n = (out ++ [((m % 128 + 128 : Nat) : Int)]) ++ leb (m / 128) := by
  rw [h, leb_big hm, List.append_assoc]; rfl
theorem leb_out_len {n m : Nat} {out : List Int} (h : leb n = out ++ leb m) (hn : n ≤ 18014398509481982) : out.length ≤ 7 := by
  have h1 := leb_len8 hn
  have h2 := leb_pos m
  rw [h, List.length_append] at h1
  omega

/-- Where the first byte without bit 7 stands. -/
def endAt (l : List Int) : Option Nat := l.findIdx? (fun b => decide (b < 128))
def val : List Int → Int
  | [] => 0
  | b :: l => b % 128 + 128 * val l
/-- What reading one number off bytes comes to: the number, what is left, the error. -/
def rdU (l : List Int) : Int × List Int × Int :=
  match endAt l with
  | none => if 8 ≤ l.length then (0, [], 4) else (0, [], 3)
  | some i => if 8 ≤ i then (0, [], 4) else if 0 < i ∧ l[i]? = some 0 then (0, [], 4) else if 18014398509481982 < val (l.take (i + 1)) then (0, [], 4) else (val (l.take (i + 1)), l.drop (i + 1), 0)

theorem endAt_hit {l : List Int} {k : Nat} {z : Int} (h : ∀ x ∈ l.take k, 128 ≤ x) (hz : l[k]? = some z) (hlt : z < 128) : endAt l = some k := by
  have hk : k < l.length := (List.getElem?_eq_some_iff.1 hz).1
  unfold endAt
  rw [List.findIdx?_eq_some_iff_getElem]
  refine ⟨hk, ?_, ?_⟩
  · have := (List.getElem?_eq_some_iff.1 hz).2
    rw [this]; simpa using hlt
  · intro j hj
    have := h l[j] (by rw [List.mem_take_iff_getElem]; exact ⟨j, by omega, rfl⟩)
    simpa using this
theorem endAt_none {l : List Int} (h : ∀ x ∈ l, 128 ≤ x) : endAt l = none := by
  unfold endAt
  rw [List.findIdx?_eq_none_iff]
  intro x hx
  simpa using h x hx
theorem endAt_some {l : List Int} {i : Nat} (h : endAt l = some i) : ∃ z, l[i]? = some z ∧ z < 128 ∧ ∀ x ∈ l.take i, 128 ≤ x := by
  unfold endAt at h
  rw [List.findIdx?_eq_some_iff_getElem] at h
  obtain ⟨hk, h1, h2⟩ := h
  refine ⟨l[i], List.getElem?_eq_getElem hk, by simpa using h1, ?_⟩
  intro x hx
  rw [List.mem_take_iff_getElem] at hx
  obtain ⟨j, hj, rfl⟩ := hx
  have := h2 j (by omega)
  simpa using this

theorem val_snoc : ∀ (l : List Int) (z : Int), val (l ++ [z]) = val l + (z % 128) * 128 ^ l.length
  | [], z => by simp [val]
  | b :: l, z => by
    simp only [List.cons_append, val, val_snoc l z, List.length_cons, Int.pow_succ]
    have : 128 * (val l + z % 128 * 128 ^ l.length) = 128 * val l + z % 128 * (128 ^ l.length * 128) := by
      rw [Int.mul_add, Int.mul_comm (128 : Int) (z % 128 * 128 ^ l.length), Int.mul_assoc]
    omega
theorem val_nonneg : ∀ (l : List Int), 0 ≤ val l
  | [] => by simp [val]
  | b :: l => by have := val_nonneg l; simp only [val]; omega
theorem val_lt : ∀ (l : List Int), val l < 128 ^ l.length
  | [] => by simp [val]
  | b :: l => by
    have := val_lt l
    simp only [val, List.length_cons, Int.pow_succ]
    omega

theorem leb_mono : ∀ (k n m : Nat), m < 128 ^ (k + 1) → n ≤ m → (leb n).length ≤ (leb m).length
  | 0, n, m, h, hle => by
    have h' : m < 128 := by simpa using h
    rw [leb_small (n := n) (by omega), leb_small h']; simp
  | k + 1, n, m, h, hle => by
    by_cases hn : n < 128
    · rw [leb_small hn]; have := leb_pos m; simp; omega
    · rw [leb_big hn, leb_big (n := m) (by omega)]
      have h' : m / 128 < 128 ^ (k + 1) := by rw [Nat.pow_succ] at h; omega
      have := leb_mono k (n / 128) (m / 128) h' (by omega)
      simp; omega
theorem leb_apart : ∀ (k n m : Nat), m < 128 ^ (k + 1) → n < 128 ^ (k + 1) → (leb m).take (min (leb m).length (leb n).length) = (leb n).take (min (leb m).length (leb n).length) → m = n
  | 0, n, m, h, h2, he => by
    rw [leb_small (by simpa using h), leb_small (n := n) (by simpa using h2)] at he
    simp at he; omega
  | k + 1, n, m, h, h2, he => by
    by_cases hm : m < 128 <;> by_cases hn : n < 128
    · rw [leb_small hm, leb_small hn] at he
      simp at he; omega
    · rw [leb_small hm, leb_big hn] at he
      have hz : min 1 ((leb (n / 128)).length + 1) = 1 := by omega
      simp [hz] at he; omega
    · rw [leb_big hm, leb_small hn] at he
      have hz : min ((leb (m / 128)).length + 1) 1 = 1 := by omega
      simp [hz] at he; omega
    · rw [leb_big hm, leb_big hn] at he
      have hz : min ((leb (m / 128)).length + 1) ((leb (n / 128)).length + 1) = min (leb (m / 128)).length (leb (n / 128)).length + 1 := by omega
      simp only [List.length_cons, hz, List.take_succ_cons, List.cons.injEq] at he
      rw [Nat.pow_succ] at h h2
      have := leb_apart k (n / 128) (m / 128) (by omega) (by omega) he.2
      omega

theorem leb_form : ∀ (k n : Nat), n < 128 ^ (k + 1) → ∃ (ini : List Int) (last : Int), leb n = ini ++ [last] ∧ (∀ x ∈ ini, 128 ≤ x) ∧ last < 128 ∧ 0 ≤ last ∧ (ini ≠ [] → last ≠ 0) ∧ val (leb n) = n
  | 0, n, h => by
    have h' : n < 128 := by simpa using h
    refine ⟨[], n, leb_small h', by simp, by omega, by omega, by simp, ?_⟩
    rw [leb_small h']
    simp [val]; omega
  | k + 1, n, h => by
    by_cases hn : n < 128
    · refine ⟨[], n, leb_small hn, by simp, by omega, by omega, by simp, ?_⟩
      rw [leb_small hn]
      simp [val]; omega
    · have h' : n / 128 < 128 ^ (k + 1) := by rw [Nat.pow_succ] at h; omega
      obtain ⟨ini, last, e, h1, h2, h3, h4, h5⟩ := leb_form k (n / 128) h'
      refine ⟨((n % 128 + 128 : Nat) : Int) :: ini, last, by rw [leb_big hn, e]; rfl, ?_, h2, h3, ?_, ?_⟩
      · intro x hx
        rcases List.mem_cons.1 hx with rfl | hx
        · omega
        · exact h1 x hx
      · intro _ h0
        rcases ini with _ | ⟨a, r⟩
        · rw [e, h0] at h5
          simp [val] at h5
          omega
        · exact h4 (by simp) h0
      · rw [leb_big hn]
        simp only [val, h5]
        omega

theorem rdU_leb {n : Nat} (h : n ≤ 18014398509481982) (rest : List Int) : rdU (leb n ++ rest) = ((n : Int), rest, 0) := by
  obtain ⟨ini, last, e, h1, h2, h3, h4, h5⟩ := leb_form 8 n (by omega)
  have hl := leb_len8 h
  have hlen : (leb n).length = ini.length + 1 := by rw [e]; simp
  have hz : (leb n ++ rest)[ini.length]? = some last := by rw [e, List.append_assoc, List.getElem?_append_right (Nat.le_refl _)]; simp
  have he : endAt (leb n ++ rest) = some ini.length := by
    refine endAt_hit (z := last) ?_ hz h2
    intro x hx
    rw [e, List.append_assoc, List.take_left' rfl] at hx
    exact h1 x hx
  have ht : (leb n ++ rest).take (ini.length + 1) = leb n := by rw [← hlen]; exact List.take_left
  have hd : (leb n ++ rest).drop (ini.length + 1) = rest := by rw [← hlen]; exact List.drop_left
  unfold rdU
  rw [he]
  simp only []
  rw [if_neg (by omega), ht, hd, h5, if_neg, if_neg (by omega)]
  rintro ⟨h6, h7⟩
  rw [hz] at h7
  injection h7 with h7
  exact h4 (by intro h; rw [h] at h6; simp at h6) h7

theorem u8_info : (Tryd.prog.info? 5).map (fun i => (i.zero, i.size, i.bytes)) = some (some (.int .u8 0), 1, 1) := by kernel_rfl

theorem or128_all : ∀ r : Fin 256, bits .or .u8 ((r.val : Nat) : Int) 128 = ((r.val % 128 + 128 : Nat) : Int) := by decide +kernel
theorem or128 (m : Nat) : bits .or .u8 ((m : Int) % 256) 128 = ((m % 128 + 128 : Nat) : Int) := by
  have h := or128_all ⟨m % 256, Nat.mod_lt _ (by omega)⟩
  simp only [] at h
  rw [show ((m % 256 : Nat) : Int) = (m : Int) % 256 from by omega] at h
  rw [h]
  omega

theorem U_no (n : Int) (w : World) (h : n < 0 ∨ 18014398509481982 < n) :
    Calls Tryd.prog 25 #[.int .i64 n] w fun e w' => e = .returned (.tuple #[.slice none 0 0, .int .i64 9]) ∧ w = w' := by
  rcases h with h | h
  all_goals
    go_enter Tryd.func25, Tryd.ntmps25
    go_wp2
    go_ret2
    exact ⟨rfl, rfl⟩

set_option maxRecDepth 100000 in
theorem U_ok (n : Nat) (w : World) (h : n ≤ 18014398509481982) :
    Calls Tryd.prog 25 #[.int .i64 n] w fun e w' => ∃ v, e = .returned (.tuple #[v, .int .i64 0]) ∧ w'.ownsRow w.heap.size 5 1 v (leb n).length (ints .u8 (leb n)) ∧ Below w.heap.size w w' := by
  obtain ⟨i0, hi, hz0, hz1, hz2⟩ := info_parts u8_info
  have d1 : decide ((n : Int) < 0) = false := by simp
  have d2 : decide (18014398509481982 < (n : Int)) = false := by simp; omega
  go_enter Tryd.func25, Tryd.ntmps25
  go_wp2
  clear d1 d2
  have HN := Lib.hid h
  clear h
  go_loopw [0, 4] (fun x b wr => ∃ (m : Nat) (out : List Int), x = .int .i64 m ∧ Hid (m ≤ 18014398509481982) ∧ Hid (leb n = out ++ leb m) ∧ wr.ownsRow w.heap.size 5 1 b out.length (ints .u8 out) ∧ Below w.heap.size w wr) (fun x _ _ => (intOf x).toNat)
  case atStart => exact ⟨n, [], rfl, HN, Lib.hid rfl, World.ownsRow_nil _ _ _ _, Below.refl _ _⟩
  case round =>
    obtain ⟨m, out, rfl, HM, HE, hown, hb⟩ := hrel
    have hlen : out.length ≤ 7 := leb_out_len HE.out HN.out
    by_cases h128 : 128 ≤ m
    · go_wp2_with (at_builtin; refine wpList_app _ rfl (.tmp 15) (.tmp 19) 24 rfl w.heap.size 5 i0 (.int .u8 0) 1 Tryd.underlying24 hi hz0 hz1 hz2 rfl _ _ _ rfl (hown.alloc _) _ _ 1 1 _ rfl (Row.one _ _ _) (by simp [Value.oneCell']) (by unfold maxLen; omega) (by omega) (by simp; have := hb.size; omega) ?_)
      intro v' w' hown' _ hb'
      rw [or128] at hown'
      have hstep := Lib.hid (leb_step HE.out (by omega))
      have hb2 : Below w.heap.size w w' := (hb.alloc hb.size _).trans hb'
      go_wp2
      go_roundw
      case rel => exact ⟨m / 128, out ++ [((m % 128 + 128 : Nat) : Int)], by go_num, Lib.hid (by have := HM.out; omega), hstep, by simpa [ints_append, ints] using hown', hb2⟩
      case measure => simp [intOf]; omega
    · have hs := Lib.hid (leb_small (n := m) (by omega))
      go_wp2_with (at_builtin; refine wpList_app _ rfl (.tmp 21) (.tmp 24) 24 rfl w.heap.size 5 i0 (.int .u8 0) 1 Tryd.underlying24 hi hz0 hz1 hz2 rfl _ _ _ rfl (hown.alloc _) _ _ 1 1 _ rfl (Row.one _ _ _) (by simp [Value.oneCell']) (by unfold maxLen; omega) (by omega) (by simp; have := hb.size; omega) ?_)
      intro v' w' hown' _ hb'
      have hb2 : Below w.heap.size w w' := (hb.alloc hb.size _).trans hb'
      go_wp2
      go_ret2
      exact ⟨_, rfl, by rw [HE.out, hs.out]; simpa [ints_append, ints] using hown', hb2⟩

def uErr (n : Int) : Int := if n < 0 ∨ 18014398509481982 < n then 9 else 0
def uOut (n : Int) : List Int := if n < 0 ∨ 18014398509481982 < n then [] else leb n.toNat
def sOk (n : Int) : Prop := -9007199254740991 ≤ n ∧ n ≤ 9007199254740991
instance (n : Int) : Decidable (sOk n) := inferInstanceAs (Decidable (_ ∧ _))
def zz (n : Int) : Nat := if n < 0 then (-2 * n - 1).toNat else (2 * n).toNat
def sErr (n : Int) : Int := if sOk n then 0 else 9
def sOut (n : Int) : List Int := if sOk n then leb (zz n) else []
theorem zz_le {n : Int} (h : sOk n) : zz n ≤ 18014398509481982 := by unfold sOk at h; unfold zz; split <;> omega

/-- What a call that answers bytes and an error leaves behind: both, the bytes the call's own. -/
def Out (w : World) (l : List Int) (err : Int) (e : Ending) (w' : World) : Prop :=
  ∃ A c, e = .returned (.tuple #[.slice A l.length c, .int .i64 err]) ∧ w'.ownsRow w.heap.size 5 1 (.slice A l.length c) l.length (ints .u8 l) ∧ Below w.heap.size w w'

theorem own_slice {w : World} {base n : Nat} {e : TypeId} {v : Value} {xs : List Value} (h : w.ownsRow base e 1 v n xs) : ∃ A c, v = .slice A n c := by
  rcases h.2 with ⟨hv, hn⟩ | ⟨g, cap, cur, hv, _⟩
  · exact ⟨none, 0, by rw [hv, hn]⟩
  · exact ⟨_, _, hv⟩

theorem Out.nil (w : World) (err : Int) : Out w [] err (.returned (.tuple #[.slice none 0 0, .int .i64 err])) w :=
  ⟨none, 0, rfl, World.ownsRow_nil _ _ _ _, Below.refl _ _⟩

theorem U_any (n : Int) (w : World) : Calls Tryd.prog 25 #[.int .i64 n] w (Out w (uOut n) (uErr n)) := by
  by_cases h : n < 0 ∨ 18014398509481982 < n
  · refine (U_no n w h).mono ?_
    rintro e w' ⟨rfl, rfl⟩
    simp only [uOut, uErr, if_pos h]
    exact Out.nil _ _
  · obtain ⟨m, rfl⟩ := Int.eq_ofNat_of_zero_le (a := n) (by omega)
    refine (U_ok m w (by omega)).mono ?_
    rintro e w' ⟨v, rfl, hown, hb⟩
    obtain ⟨A, c, rfl⟩ := own_slice hown
    simp only [uOut, uErr, if_neg h, Int.toNat_natCast]
    exact ⟨A, c, rfl, hown, hb⟩

set_option maxRecDepth 100000 in
theorem S_any (n : Int) (w : World) : Calls Tryd.prog 26 #[.int .i64 n] w (Out w (sOut n) (sErr n)) := by
  by_cases h1 : n < -9007199254740991
  · have hs : ¬ sOk n := by unfold sOk; omega
    simp only [sOut, sErr, if_neg hs]
    go_enter Tryd.func26, Tryd.ntmps26
    go_wp2
    go_ret2
    exact Out.nil _ _
  · by_cases h2 : 9007199254740991 < n
    · have hs : ¬ sOk n := by unfold sOk; omega
      simp only [sOut, sErr, if_neg hs]
      go_enter Tryd.func26, Tryd.ntmps26
      go_wp2
      go_ret2
      exact Out.nil _ _
    · have hs : sOk n := by unfold sOk; omega
      by_cases h0 : n < 0
      · have ho : sOut n = uOut (-2 * n - 1) := by
          simp only [sOut, if_pos hs, zz, if_pos h0, uOut]
          rw [if_neg (by omega)]
        have he : sErr n = uErr (-2 * n - 1) := by
          simp only [sErr, if_pos hs, uErr]
          rw [if_neg (by omega)]
        rw [ho, he]
        clear hs ho he
        go_enter Tryd.func26, Tryd.ntmps26
        go_wp2_with fail
        refine (U_any _ _).mono ?_
        rintro e w' ⟨A, c, rfl, hown, hb⟩
        go_wp2
        go_ret2
        exact ⟨A, c, rfl, hown, hb⟩
      · have ho : sOut n = uOut (2 * n) := by
          simp only [sOut, if_pos hs, zz, if_neg h0, uOut]
          rw [if_neg (by omega)]
        have he : sErr n = uErr (2 * n) := by
          simp only [sErr, if_pos hs, uErr]
          rw [if_neg (by omega)]
        rw [ho, he]
        clear hs ho he
        go_enter Tryd.func26, Tryd.ntmps26
        go_wp2_with fail
        refine (U_any _ _).mono ?_
        rintro e w' ⟨A, c, rfl, hown, hb⟩
        go_wp2
        go_ret2
        exact ⟨A, c, rfl, hown, hb⟩

def putOk (l : List Int) : Bool := l.all fun n => decide (sOk n)
def putOut (l : List Int) : List Int := if putOk l then l.flatMap sOut else []
def putErr (l : List Int) : Int := if putOk l then 0 else 9

theorem sOut_len (n : Int) : (sOut n).length ≤ 8 := by
  unfold sOut
  split
  · rename_i h; exact leb_len8 (zz_le h)
  · simp
theorem flat_len : ∀ (l : List Int), (l.flatMap sOut).length ≤ 8 * l.length
  | [] => by simp
  | n :: l => by
    have h1 := sOut_len n
    have h2 := flat_len l
    simp only [List.flatMap_cons, List.length_append, List.length_cons]; omega

theorem Err_nil (w : World) : Calls Tryd.prog 37 #[.pointer none] w fun e w' => e = .returned (.int .i64 1) ∧ w = w' := by
  go_enter Tryd.func37, Tryd.ntmps37
  go_wp2
  go_ret
  exact ⟨rfl, rfl⟩

theorem Err_zero (g : Nat) (v : Value) (x : Int) (w : World) (h : Blk w g 77 [.bool false, v, .int .i64 x]) :
    Calls Tryd.prog 37 #[.pointer (some ⟨g, 0, none⟩)] w fun e w' => e = .returned (.int .i64 1) ∧ w = w' := by
  have c0 : w.cell? ⟨g, 0, none⟩ = some (.bool false) := h.cell 0
  go_enter Tryd.func37, Tryd.ntmps37
  go_wp2
  go_ret
  exact ⟨rfl, rfl⟩

theorem Err_made (g : Nat) (v : Value) (x : Int) (w : World) (h : Blk w g 77 [.bool true, v, .int .i64 x]) :
    Calls Tryd.prog 37 #[.pointer (some ⟨g, 0, none⟩)] w fun e w' => e = .returned (.int .i64 x) ∧ w = w' := by
  have c0 : w.cell? ⟨g, 0, none⟩ = some (.bool true) := h.cell 0
  have c2 : w.cell? ⟨g, 2, none⟩ = some (.int .i64 x) := h.cell 2
  go_enter Tryd.func37, Tryd.ntmps37
  go_wp2
  go_ret
  exact ⟨rfl, rfl⟩

theorem fail_made (g : Nat) (m : Bool) (v : Value) (x y : Int) (w : World) (h : Blk w g 77 [.bool m, v, .int .i64 x]) :
    Calls Tryd.prog 54 #[.pointer (some ⟨g, 0, none⟩), .int .i64 y] w fun e w' => e = .returned (.int .i64 0) ∧ Only g w w' ∧ Blk w' g 77 [.bool m, .slice none 0 0, .int .i64 y] := by
  have c1 : w.cell? ⟨g, 1, none⟩ = some v := h.cell 1
  have c2 : w.cell? ⟨g, 2, none⟩ = some (.int .i64 x) := h.cell 2
  have f1 := h.frozen 1
  have f2 := h.frozen 2
  go_enter Tryd.func54, Tryd.ntmps54
  go_wp2
  go_ret
  exact ⟨rfl, ((Only.refl _ _).put _ _).put _ _, (h.put 2 _).put 1 _⟩

theorem U1_any (x : Int) (w : World) : Calls Tryd.prog 53 #[.int .u8 x] w fun e w' => e = .returned (.bool (decide (x < 128))) ∧ w = w' := by
  go_enter Tryd.func53, Tryd.ntmps53
  go_wp2
  go_ret
  exact ⟨rfl, rfl⟩

theorem Left_made (g : Nat) (A : Option Addr) (n c : Nat) (x : Int) (w : World) (h : Blk w g 77 [.bool true, .slice A n c, .int .i64 x]) (hx : x = 0 ∨ n = 0) :
    Calls Tryd.prog 38 #[.pointer (some ⟨g, 0, none⟩)] w fun e w' => e = .returned (.int .i64 n) ∧ w = w' := by
  have c1 : w.cell? ⟨g, 1, none⟩ = some (.slice A n c) := h.cell 1
  by_cases h0 : x = 0
  · subst h0
    go_enter Tryd.func38, Tryd.ntmps38
    go_wp2_with fail
    refine (Err_made g _ _ _ h).mono ?_
    rintro e w' ⟨rfl, rfl⟩
    go_wp2
    go_ret
    exact ⟨rfl, rfl⟩
  · have hn : n = 0 := by omega
    subst hn
    have hd : (x != 0) = true := by simp [h0]
    clear hx
    go_enter Tryd.func38, Tryd.ntmps38
    go_wp2_with fail
    refine (Err_made g _ _ _ h).mono ?_
    rintro e w' ⟨rfl, rfl⟩
    go_wp2
    go_ret
    exact ⟨rfl, rfl⟩

/-- slices.Clone of bytes. -/
theorem Clone_any (A : Option Addr) (c B : Nat) (l : List Int) (w : World) (hr : Row w B A l.length (ints .u8 l)) (hB : B ≤ w.heap.size) (hl : l.length ≤ 150000000000000) :
    Calls Tryd.prog 47 #[.slice A l.length c] w fun e w' => ∃ A' c', e = .returned (.slice A' l.length c') ∧ w'.ownsRow w.heap.size 5 1 (.slice A' l.length c') l.length (ints .u8 l) ∧ Below w.heap.size w w' := by
  obtain ⟨i0, hi, hz0, hz1, hz2⟩ := info_parts u8_info
  rcases A with _ | a
  · have hnil : l = [] := by
      rcases Nat.eq_zero_or_pos l.length with h0 | h0
      · exact List.eq_nil_of_length_eq_zero h0
      · obtain ⟨_, _, he, _⟩ := hr.2 h0
        cases he
    subst hnil
    have hq := Lib.run_eql_slice_nil (P := Tryd.prog)
    go_enter Tryd.func47, Tryd.ntmps47
    go_wp2
    go_ret
    exact ⟨none, 0, rfl, World.ownsRow_nil _ _ _ _, Below.refl _ _⟩
  · have hq := fun (w : World) (n c : Nat) => Lib.run_eql_slice_nil (P := Tryd.prog) w 24 5 (some a) n c 0 0 Tryd.underlying24
    go_enter Tryd.func47, Tryd.ntmps47
    go_wp2_with (at_builtin; refine wpList_app _ rfl (.tmp 5) (.tmp 6) 24 rfl w.heap.size 5 i0 (.int .u8 0) 1 Tryd.underlying24 hi hz0 hz1 hz2 rfl _ 0 [] rfl (World.ownsRow_made w #[] 0 (Nat.le_refl _) (by unfold maxLen; omega) rfl) _ _ _ _ _ rfl (hr.alloc hB _) (ints_one _ _) (by unfold maxLen; omega) (by omega) (by simp) ?_)
    intro v' w' hown' _ hb'
    obtain ⟨A', c', rfl⟩ := own_slice hown'
    go_wp2
    go_ret
    exact ⟨A', c', by simp, by simpa using hown', ((Below.refl _ _).alloc (Nat.le_refl _) _).trans hb'⟩

theorem own_cap {w : World} {base n c : Nat} {e : TypeId} {A : Option Addr} {xs : List Value} (h : w.ownsRow base e 1 (.slice A n c) n xs) : n ≤ c := by
  rcases h.2 with ⟨hv, hn⟩ | ⟨g, cap, cur, hv, _, _, h1, _⟩
  · omega
  · injection hv with _ _ h2
    omega

/-- A reader that was made: its block, what is left, the error. -/
def Rd (w : World) (g B : Nat) (l : List Int) (x : Int) : Prop :=
  ∃ A c, Blk w g 77 [.bool true, .slice A l.length c, .int .i64 x] ∧ Row w B A l.length (ints .u8 l) ∧ (∀ a, A = some a → a.block ≠ g) ∧ l.length ≤ 150000000000000 ∧ l.length ≤ c ∧ B ≤ w.heap.size ∧ ∀ x ∈ l, 0 ≤ x ∧ x ≤ 255

theorem New_any (A : Option Addr) (c B : Nat) (l : List Int) (w : World) (hr : Row w B A l.length (ints .u8 l)) (hB : B ≤ w.heap.size) (hl : l.length ≤ 150000000000000) (hu : ∀ x ∈ l, 0 ≤ x ∧ x ≤ 255) :
    Calls Tryd.prog 33 #[.slice A l.length c] w fun e w' => ∃ g, e = .returned (.pointer (some ⟨g, 0, none⟩)) ∧ w.heap.size ≤ g ∧ Rd w' g w'.heap.size l 0 ∧ Below w.heap.size w w' := by
  go_enter Tryd.func33, Tryd.ntmps33
  go_wp2_with fail
  refine (Clone_any A c B l w hr hB hl).mono ?_
  rintro e w1 ⟨A1, c1, rfl, hown, hb⟩
  have hc1 := own_cap hown
  go_wp2
  go_ret
  have hrow := (Row.own hown).alloc (Nat.le_refl _) (.cells #[.bool true, .slice A1 l.length c1, .int .i64 0] 77)
  refine ⟨w1.heap.size, rfl, hb.size, ⟨A1, c1, Blk.made _ _ [_, _, _], hrow.wide (by simp), ?_, hl, hc1, Nat.le_refl _, hu⟩, hb.alloc hb.size _⟩
  intro a e
  have hlt := (hown.lt a.block (by rw [e]; rfl)).2
  omega

def endInt (l : List Int) : Int := match endAt l with | some i => (i : Int) | none => -1

theorem Index_any (A : Option Addr) (c B : Nat) (l : List Int) (w : World) (hr : Row w B A l.length (ints .u8 l)) (hl : l.length ≤ 150000000000000) :
    Calls Tryd.prog 52 #[.slice A l.length c, .func (.func 53) #[] #[]] w fun e w' => e = .returned (.int .i64 (endInt l)) ∧ w = w' := by
  go_enter Tryd.func52, Tryd.ntmps52
  go_wp2
  go_loop [8] (fun i => ∃ k : Nat, k ≤ l.length ∧ i = .int .i64 k ∧ Hid (∀ x ∈ l.take k, 128 ≤ x)) (fun i => l.length - (intOf i).toNat)
  case atStart => exact ⟨0, Nat.zero_le _, rfl, Lib.hid (by simp)⟩
  case round =>
    obtain ⟨k, hk, rfl, HA⟩ := hrel
    by_cases hlt : k < l.length
    · obtain ⟨b, off, rfl, _, hc⟩ := hr.2 (by omega)
      obtain ⟨z, hz, hzl, ht, _⟩ := ints_at .u8 l k hlt
      have hcell := (hc k hlt).trans hz
      have HT := Lib.hid ht
      have HZ := Lib.hid hzl
      clear hc hz ht hzl
      go_wp2_with fail
      refine (U1_any _ _).mono ?_
      rintro e w' ⟨rfl, rfl⟩
      by_cases h128 : z < 128
      · have hd : decide (z < 128) = true := by simpa using h128
        have hfin := Lib.hid (endAt_hit HA.out HZ.out h128)
        go_wp2
        go_ret
        refine ⟨?_, rfl⟩
        simp [endInt, hfin.out]
      · have hd : decide (z < 128) = false := by simpa using h128
        go_wp2
        go_round
        case rel =>
          refine ⟨k + 1, by omega, by go_num, Lib.hid ?_⟩
          intro x hx
          rw [HT.out, List.mem_append] at hx
          rcases hx with hx | hx
          · exact HA.out x hx
          · simp at hx; subst hx; omega
        case measure => simp [intOf]; omega
    · have hall : Hid (endAt l = none) := endAt_none (fun x hx => HA.out x (by rw [List.take_of_length_le (by omega)]; exact hx))
      go_wp2
      go_ret
      refine ⟨?_, rfl⟩
      simp [endInt, hall.out]

/-- A reader's answer of a number: what it says, and the reader behind it. -/
def RdPost (g B : Nat) (w : World) (v : Int) (l : List Int) (x : Int) (e : Ending) (w' : World) : Prop :=
  e = .returned (.int .i64 v) ∧ Rd w' g B l x ∧ Only g w w'

theorem Rd.failed {g B : Nat} {w : World} {x : Int} (hB : B ≤ w.heap.size) (h : Blk w g 77 [.bool true, .slice none 0 0, .int .i64 x]) : Rd w g B [] x :=
  ⟨none, 0, h, Row.zero _ _ _, by simp, by simp, by simp, hB, by simp⟩

theorem RU_err (g B : Nat) (l : List Int) (x : Int) (w : World) (h : Rd w g B l x) (hx : x ≠ 0) :
    Calls Tryd.prog 34 #[.pointer (some ⟨g, 0, none⟩)] w fun e w' => e = .returned (.int .i64 0) ∧ w = w' := by
  obtain ⟨A, c, hblk, _⟩ := h
  have hd : (x != 0) = true := by simp [hx]
  go_enter Tryd.func34, Tryd.ntmps34
  go_wp2_with fail
  refine (Err_made g _ _ _ hblk).mono ?_
  rintro e w' ⟨rfl, rfl⟩
  go_wp2
  go_ret
  exact ⟨rfl, rfl⟩

theorem RU_none (g B : Nat) (l : List Int) (w : World) (h : Rd w g B l 0) (hn : endAt l = none) :
    Calls Tryd.prog 34 #[.pointer (some ⟨g, 0, none⟩)] w (RdPost g B w 0 [] (if 8 ≤ l.length then 4 else 3)) := by
  obtain ⟨A, c, hblk, hrow, hne, hl, hlc, hB, _⟩ := h
  have c1 : w.cell? ⟨g, 1, none⟩ = some (.slice A l.length c) := hblk.cell 1
  have hI := Index_any A c B l w hrow hl
  rw [show endInt l = -1 by simp [endInt, hn]] at hI
  have HI := Lib.hid hI
  have HB := Lib.hid hblk
  clear hI hblk hn
  by_cases h8 : 8 ≤ l.length
  · rw [if_pos h8]
    have hd : decide ((8 : Int) ≤ (l.length : Int)) = true := by simp; omega
    go_enter Tryd.func34, Tryd.ntmps34
    go_wp2_with fail
    refine (Err_made g _ _ _ HB.out).mono ?_
    rintro e w' ⟨rfl, rfl⟩
    go_wp2_with fail
    refine HI.out.mono ?_
    rintro e w' ⟨rfl, rfl⟩
    go_wp2_with fail
    refine (fail_made g _ _ _ _ _ HB.out).mono ?_
    rintro e w1 ⟨rfl, ho, hb1⟩
    go_wp2
    go_ret
    exact ⟨rfl, Rd.failed (Nat.le_trans hB ho.size) hb1, ho⟩
  · rw [if_neg h8]
    have hd : decide ((8 : Int) ≤ (l.length : Int)) = false := by simp; omega
    go_enter Tryd.func34, Tryd.ntmps34
    go_wp2_with fail
    refine (Err_made g _ _ _ HB.out).mono ?_
    rintro e w' ⟨rfl, rfl⟩
    go_wp2_with fail
    refine HI.out.mono ?_
    rintro e w' ⟨rfl, rfl⟩
    go_wp2_with fail
    refine (fail_made g _ _ _ _ _ HB.out).mono ?_
    rintro e w1 ⟨rfl, ho, hb1⟩
    go_wp2
    go_ret
    exact ⟨rfl, Rd.failed (Nat.le_trans hB ho.size) hb1, ho⟩

theorem RU_long (g B i : Nat) (l : List Int) (w : World) (h : Rd w g B l 0) (hn : endAt l = some i) (h8 : 8 ≤ i) (hi : i < l.length) :
    Calls Tryd.prog 34 #[.pointer (some ⟨g, 0, none⟩)] w (RdPost g B w 0 [] 4) := by
  obtain ⟨A, c, hblk, hrow, hne, hl, hlc, hB, _⟩ := h
  have c1 : w.cell? ⟨g, 1, none⟩ = some (.slice A l.length c) := hblk.cell 1
  have hI := Index_any A c B l w hrow hl
  rw [show endInt l = i by simp [endInt, hn]] at hI
  have HI := Lib.hid hI
  have HB := Lib.hid hblk
  clear hI hblk hn
  go_enter Tryd.func34, Tryd.ntmps34
  go_wp2_with fail
  refine (Err_made g _ _ _ HB.out).mono ?_
  rintro e w' ⟨rfl, rfl⟩
  go_wp2_with fail
  refine HI.out.mono ?_
  rintro e w' ⟨rfl, rfl⟩
  go_wp2_with fail
  refine (fail_made g _ _ _ _ _ HB.out).mono ?_
  rintro e w1 ⟨rfl, ho, hb1⟩
  go_wp2
  go_ret
  exact ⟨rfl, Rd.failed (Nat.le_trans hB ho.size) hb1, ho⟩

/-- The last byte is 0, and not the only one. -/
theorem RU_zero (g B i : Nat) (l : List Int) (w : World) (h : Rd w g B l 0) (hn : endAt l = some i) (h8 : i < 8) (h0 : 0 < i) (hz : l[i]? = some 0) (hi : i < l.length) :
    Calls Tryd.prog 34 #[.pointer (some ⟨g, 0, none⟩)] w (RdPost g B w 0 [] 4) := by
  obtain ⟨A, c, hblk, hrow, hne, hl, hlc, hB, _⟩ := h
  have c1 : w.cell? ⟨g, 1, none⟩ = some (.slice A l.length c) := hblk.cell 1
  have hI := Index_any A c B l w hrow hl
  rw [show endInt l = i by simp [endInt, hn]] at hI
  obtain ⟨b, off, rfl, _, hc⟩ := hrow.2 (by omega)
  have ci : w.cell? ⟨b, off + i, none⟩ = some (.int .u8 0) := (hc i hi).trans (by simp [ints, hz])
  have HI := Lib.hid hI
  have HB := Lib.hid hblk
  clear hI hblk hn hc hz
  go_enter Tryd.func34, Tryd.ntmps34
  go_wp2_with fail
  refine (Err_made g _ _ _ HB.out).mono ?_
  rintro e w' ⟨rfl, rfl⟩
  go_wp2_with fail
  refine HI.out.mono ?_
  rintro e w' ⟨rfl, rfl⟩
  go_wp2_with fail
  refine (fail_made g _ _ _ _ _ HB.out).mono ?_
  rintro e w1 ⟨rfl, ho, hb1⟩
  go_wp2
  go_ret
  exact ⟨rfl, Rd.failed (Nat.le_trans hB ho.size) hb1, ho⟩

theorem not128_all : ∀ r : Fin 256, bits .andNot .u8 ((r.val : Nat) : Int) 128 = ((r.val % 128 : Nat) : Int) := by decide +kernel
theorem not128 {z : Int} (h0 : 0 ≤ z) (h1 : z ≤ 255) : bits .andNot .u8 z 128 = z % 128 := by
  obtain ⟨m, rfl⟩ := Int.eq_ofNat_of_zero_le h0
  have h := not128_all ⟨m, by omega⟩
  simp only [] at h
  rw [h]; omega

theorem ofInt64 (a : Nat) (h : a < 9223372036854775808) : (BitVec.ofInt 64 (a : Int)).toNat = a := by
  rw [BitVec.ofInt_natCast, BitVec.toNat_ofNat]
  exact Nat.mod_eq_of_lt (by omega)
theorem or64 (a b : Nat) (ha : a < 9223372036854775808) (hb : b < 9223372036854775808) : bits .or .i64 (a : Int) (b : Int) = ((a ||| b : Nat) : Int) := by
  have hx : a ||| b < 2 ^ 63 := Nat.or_lt_two_pow (by omega) (by omega)
  show IntKind.i64.wrap ((BitVec.ofInt 64 (a : Int) ||| BitVec.ofInt 64 (b : Int)).toNat : Int) = _
  rw [BitVec.toNat_or, ofInt64 a ha, ofInt64 b hb, IntKind.wrap_i64]
  omega

theorem or_step {a y : Int} {k : Nat} (hk : k ≤ 7) (ha0 : 0 ≤ a) (ha : a < 128 ^ k) (h0 : 0 ≤ y) (h1 : y ≤ 255) :
    bits .or .i64 a (wrap64 (wrap64 (bits .andNot .u8 y 128) * 2 ^ (k * 7))) = a + y % 128 * 128 ^ k := by
  rw [not128 h0 h1, IntWalk.wrap64_in (y % 128) (by omega), show (2 : Int) ^ (k * 7) = 128 ^ k by rw [Nat.mul_comm, Int.pow_mul]; rfl]
  obtain ⟨m, rfl⟩ := Int.eq_ofNat_of_zero_le ha0
  obtain ⟨n, rfl⟩ := Int.eq_ofNat_of_zero_le h0
  have hp : (128 : Nat) ^ k ≤ 128 ^ 7 := Nat.pow_le_pow_right (by omega) hk
  have ha' : m < 128 ^ k := by
    have : ((128 ^ k : Nat) : Int) = (128 : Int) ^ k := by simp
    omega
  have hb : n % 128 * 128 ^ k ≤ 127 * 128 ^ 7 := Nat.mul_le_mul (by omega) hp
  have e : ((n : Int) % 128 * 128 ^ k) = ((n % 128 * 128 ^ k : Nat) : Int) := by simp
  rw [e, IntWalk.wrap64_in _ (by omega), or64 _ _ (by omega) (by omega), Nat.or_comm, nat_join (7 * k) _ _ ?_ ?_]
  · omega
  · rw [Nat.pow_mul]; exact Nat.mul_mod_left _ _
  · rw [Nat.pow_mul]; exact ha'

theorem Row.cut {w : World} {B n k c : Nat} {A : Option Addr} {xs : List Value} (h : Row w B A n xs) (hk : k ≤ n) (hc : n ≤ c) (A' : Option Addr)
    (hA : ∀ b off, A = some ⟨b, off, none⟩ → k < c → A' = some ⟨b, off + k, none⟩) : Row w B A' (n - k) (xs.drop k) := by
  refine ⟨by rw [List.length_drop, h.1], fun hn => ?_⟩
  obtain ⟨b, off, e, hb, hcell⟩ := h.2 (by omega)
  refine ⟨b, off + k, hA b off e (by omega), hb, fun j hj => ?_⟩
  rw [Nat.add_assoc, hcell (k + j) (by omega), List.getElem?_drop]

theorem Rd.cut {w : World} {g B b off c i : Nat} {l : List Int} (hblk : Blk w g 77 [.bool true, .slice (some ⟨b, off, none⟩) l.length c, .int .i64 0]) (hrow : Row w B (some ⟨b, off, none⟩) l.length (ints .u8 l))
    (hne : ∀ a, (some ⟨b, off, none⟩ : Option Addr) = some a → a.block ≠ g) (hl : l.length ≤ 150000000000000) (hB : B ≤ w.heap.size) (hu : ∀ x ∈ l, 0 ≤ x ∧ x ≤ 255) (hi : i < l.length)
    (A' : Option Addr) (c' : Nat) (hc' : l.length - (i + 1) ≤ c') (hA : i + 1 < l.length → A' = some ⟨b, off + (i + 1), none⟩) (hA' : ∃ o, A' = some ⟨b, o, none⟩) :
    Rd (w.setCell ⟨g, 1, none⟩ (.slice A' (l.length - (i + 1)) c')) g B (l.drop (i + 1)) 0 := by
  have hlen : (l.drop (i + 1)).length = l.length - (i + 1) := List.length_drop
  have hne' : b ≠ g := hne _ rfl
  refine ⟨A', c', ?_, ?_, ?_, by omega, by omega, by simpa [World.setCell] using hB, fun x hx => hu x (List.mem_of_mem_drop hx)⟩
  · rw [hlen]; exact hblk.put 1 _
  · rw [hlen, ← ints_drop]
    have h1 := hrow.only ((Only.refl g w).put 1 (.slice A' (l.length - (i + 1)) c')) hB (fun b' off' e => hne _ e)
    refine h1.cut (c := l.length) (by omega) (Nat.le_refl _) A' ?_
    intro b' off' e hk
    injection e with e
    injection e with e1 e2
    subst e1; subst e2
    exact hA hk
  · intro a e
    obtain ⟨o, ho⟩ := hA'
    rw [ho] at e
    injection e with e
    subst e
    exact hne'

set_option maxRecDepth 100000 in
theorem RU_big (g B i : Nat) (l : List Int) (w : World) (h : Rd w g B l 0) (hn : endAt l = some i) (h8 : i < 8) (hz : ¬ (0 < i ∧ l[i]? = some 0)) (hi : i < l.length) (hbig : 18014398509481982 < val (l.take (i + 1))) :
    Calls Tryd.prog 34 #[.pointer (some ⟨g, 0, none⟩)] w (RdPost g B w 0 [] 4) := by
  obtain ⟨A, c, hblk, hrow, hne, hl, hlc, hB, hb⟩ := h
  have c1 : w.cell? ⟨g, 1, none⟩ = some (.slice A l.length c) := hblk.cell 1
  have f1 := hblk.frozen 1
  have hI := Index_any A c B l w hrow hl
  rw [show endInt l = i by simp [endInt, hn]] at hI
  obtain ⟨b, off, rfl, hbB, hc⟩ := hrow.2 (by omega)
  obtain ⟨z, hzc, hzl, _, hzm⟩ := ints_at .u8 l i hi
  have ci : w.cell? ⟨b, off + i, none⟩ = some (.int .u8 z) := (hc i hi).trans hzc
  have hzz : 0 < i → (z == 0) = false := by
    intro h1
    have : z ≠ 0 := by
      rintro rfl
      exact hz ⟨h1, hzl⟩
    simpa using this
  have HI := Lib.hid hI
  have HB := Lib.hid hblk
  have HC := Lib.hid hc
  have HL := Lib.hid hb
  have HNE := Lib.hid hne
  have d8 : decide ((8 : Int) < (i : Int) + 1) = false := by simp; omega
  generalize hV : val (l.take (i + 1)) = V
  have HV := Lib.hid hV
  rw [hV] at hbig
  have HBIG := Lib.hid hbig
  clear hI hblk hn hc hz hzl hzc hb hV hne hbig
  rcases Nat.eq_zero_or_pos i with h0 | h0
  case' inl => have d1 : decide ((1 : Int) < (i : Int) + 1) = false := by simp; omega
  case' inr => have d1 : decide ((1 : Int) < (i : Int) + 1) = true := by simp; omega
  case' inr => have hz0 := hzz h0
  all_goals
    clear hzz
    have H0 := Lib.hid h0
    clear h0
    go_enter Tryd.func34, Tryd.ntmps34
    go_wp2_with fail
    refine (Err_made g _ _ _ HB.out).mono ?_
    rintro e w' ⟨rfl, rfl⟩
    go_wp2_with fail
    refine HI.out.mono ?_
    rintro e w' ⟨rfl, rfl⟩
    go_wp2_with fail
    clear d1 d8
    go_loop [4, 51] (fun n j => ∃ k : Nat, k ≤ i + 1 ∧ j = .int .i64 k ∧ n = .int .i64 (val (l.take k))) (fun _ j => i + 1 - (intOf j).toNat)
    case atStart => exact ⟨0, Nat.zero_le _, rfl, rfl⟩
    case round =>
      obtain ⟨k, hk, rfl, rfl⟩ := hrel
      by_cases hlt : k < i + 1
      · obtain ⟨y, hyc, hyl, hyt, hym⟩ := ints_at .u8 l k (by omega)
        have ck : w.cell? ⟨b, off + k, none⟩ = some (.int .u8 y) := (HC.out k (by omega)).trans hyc
        obtain ⟨hy0, hy1⟩ := HL.out y hym
        have hlk : (l.take k).length = k := by simp; omega
        have hvl := val_lt (l.take k)
        rw [hlk] at hvl
        have hv' := val_snoc (l.take k) y
        rw [hlk, ← hyt] at hv'
        have HS : Hid (bits .or .i64 (val (l.take k)) (wrap64 (wrap64 (bits .andNot .u8 y 128) * 2 ^ (k * 7))) = val (l.take (k + 1))) := by
          rw [hv']
          exact or_step (by omega) (val_nonneg _) hvl hy0 hy1
        clear hyc hyl hyt hvl hv' hlk
        go_wp2
        go_round
        case rel => exact ⟨k + 1, by omega, by go_num, by rw [HS.out]⟩
        case measure => simp [intOf]; omega
      · obtain rfl : k = i + 1 := by omega
        rw [HV.out]
        have hbig := HBIG.out
        go_wp2_with fail
        refine (fail_made g _ _ _ _ _ HB.out).mono ?_
        rintro e w1 ⟨rfl, ho, hb1⟩
        go_wp2
        go_ret
        exact ⟨rfl, Rd.failed (Nat.le_trans hB ho.size) hb1, ho⟩

set_option maxRecDepth 100000 in
theorem RU_good (g B i : Nat) (l : List Int) (w : World) (h : Rd w g B l 0) (hn : endAt l = some i) (h8 : i < 8) (hz : ¬ (0 < i ∧ l[i]? = some 0)) (hi : i < l.length) (hbig : ¬ 18014398509481982 < val (l.take (i + 1))) :
    Calls Tryd.prog 34 #[.pointer (some ⟨g, 0, none⟩)] w (RdPost g B w (val (l.take (i + 1))) (l.drop (i + 1)) 0) := by
  obtain ⟨A, c, hblk, hrow, hne, hl, hlc, hB, hb⟩ := h
  have c1 : w.cell? ⟨g, 1, none⟩ = some (.slice A l.length c) := hblk.cell 1
  have f1 := hblk.frozen 1
  have hI := Index_any A c B l w hrow hl
  rw [show endInt l = i by simp [endInt, hn]] at hI
  obtain ⟨b, off, rfl, hbB, hc⟩ := hrow.2 (by omega)
  obtain ⟨z, hzc, hzl, _, hzm⟩ := ints_at .u8 l i hi
  have ci : w.cell? ⟨b, off + i, none⟩ = some (.int .u8 z) := (hc i hi).trans hzc
  have hzz : 0 < i → (z == 0) = false := by
    intro h1
    have : z ≠ 0 := by
      rintro rfl
      exact hz ⟨h1, hzl⟩
    simpa using this
  have HI := Lib.hid hI
  have HB := Lib.hid hblk
  have HC := Lib.hid hc
  have HL := Lib.hid hb
  have HNE := Lib.hid hne
  have d8 : decide ((8 : Int) < (i : Int) + 1) = false := by simp; omega
  generalize hV : val (l.take (i + 1)) = V
  have HV := Lib.hid hV
  rw [hV] at hbig
  have HBIG := Lib.hid hbig
  clear hI hblk hn hc hz hzl hzc hb hV hne hbig
  rcases Nat.eq_zero_or_pos i with h0 | h0
  case' inl => have d1 : decide ((1 : Int) < (i : Int) + 1) = false := by simp; omega
  case' inr => have d1 : decide ((1 : Int) < (i : Int) + 1) = true := by simp; omega
  case' inr => have hz0 := hzz h0
  all_goals
    clear hzz
    have H0 := Lib.hid h0
    clear h0
    go_enter Tryd.func34, Tryd.ntmps34
    go_wp2_with fail
    refine (Err_made g _ _ _ HB.out).mono ?_
    rintro e w' ⟨rfl, rfl⟩
    go_wp2_with fail
    refine HI.out.mono ?_
    rintro e w' ⟨rfl, rfl⟩
    go_wp2_with fail
    clear d1 d8
    go_loop [4, 51] (fun n j => ∃ k : Nat, k ≤ i + 1 ∧ j = .int .i64 k ∧ n = .int .i64 (val (l.take k))) (fun _ j => i + 1 - (intOf j).toNat)
    case atStart => exact ⟨0, Nat.zero_le _, rfl, rfl⟩
    case round =>
      obtain ⟨k, hk, rfl, rfl⟩ := hrel
      by_cases hlt : k < i + 1
      · obtain ⟨y, hyc, hyl, hyt, hym⟩ := ints_at .u8 l k (by omega)
        have ck : w.cell? ⟨b, off + k, none⟩ = some (.int .u8 y) := (HC.out k (by omega)).trans hyc
        obtain ⟨hy0, hy1⟩ := HL.out y hym
        have hlk : (l.take k).length = k := by simp; omega
        have hvl := val_lt (l.take k)
        rw [hlk] at hvl
        have hv' := val_snoc (l.take k) y
        rw [hlk, ← hyt] at hv'
        have HS : Hid (bits .or .i64 (val (l.take k)) (wrap64 (wrap64 (bits .andNot .u8 y 128) * 2 ^ (k * 7))) = val (l.take (k + 1))) := by
          rw [hv']
          exact or_step (by omega) (val_nonneg _) hvl hy0 hy1
        clear hyc hyl hyt hvl hv' hlk
        go_wp2
        go_round
        case rel => exact ⟨k + 1, by omega, by go_num, by rw [HS.out]⟩
        case measure => simp [intOf]; omega
      · obtain rfl : k = i + 1 := by omega
        rw [HV.out]
        have hbig := HBIG.out
        go_wp2
        · have hci : c = i + 1 := by assumption
          go_ret
          exact ⟨rfl, Rd.cut HB.out hrow HNE.out hl hB HL.out hi _ _ (by omega) (fun h => by omega) ⟨_, rfl⟩, (Only.refl _ _).put _ _⟩
        · go_ret
          exact ⟨rfl, Rd.cut HB.out hrow HNE.out hl hB HL.out hi _ _ (by omega) (fun _ => rfl) ⟨_, rfl⟩, (Only.refl _ _).put _ _⟩

theorem ret_bool {a b : Bool} (h : a = b) : Ending.returned (.bool a) = .returned (.bool b) := by rw [h]
theorem take_succ_eq {xs ys : List Int} {k : Nat} (h : xs.take k = ys.take k) (hx : k < xs.length) (hy : k < ys.length) (he : xs.getD k 0 = ys.getD k 0) : xs.take (k + 1) = ys.take (k + 1) := by
  rw [List.take_add_one, List.take_add_one, h]
  simp only [List.getD_eq_getElem?_getD, List.getElem?_eq_getElem hx, List.getElem?_eq_getElem hy, Option.getD_some] at he
  rw [List.getElem?_eq_getElem hx, List.getElem?_eq_getElem hy, he]

theorem eq_len (A A' : Option Addr) (n m cap cap' : Nat) (w : World) (hne : n ≠ m) :
    Calls Tryd.prog 13 #[.slice A n cap, .slice A' m cap'] w fun e w' => e = .returned (.bool false) ∧ w = w' := by
  have h1 : ((n : Int) == (m : Int)) = false := beq_eq_false_iff_ne.2 (by omega)
  have h2 : ((n : Int) != (m : Int)) = true := by simp [bne, h1]
  go_enter Tryd.func13, Tryd.ntmps13
  go_wp2
  go_ret
  exact ⟨rfl, rfl⟩

set_option maxHeartbeats 400000 in
theorem eq_walk (b b' off off' n cap cap' : Nat) (xs ys : List Int) (w : World) (hx : xs.length = n) (hy : ys.length = n) (hn : n ≤ 9223372036854775807)
    (hcx : ∀ j, j < n → w.cell? ⟨b, off + j, none⟩ = some (.int .u8 (xs.getD j 0))) (hcy : ∀ j, j < n → w.cell? ⟨b', off' + j, none⟩ = some (.int .u8 (ys.getD j 0))) :
    Calls Tryd.prog 13 #[.slice (some ⟨b, off, none⟩) n cap, .slice (some ⟨b', off', none⟩) n cap'] w fun e w' => e = .returned (.bool (decide (xs = ys))) ∧ ∃ k, w' = w.drewN k := by
  go_enter Tryd.func13, Tryd.ntmps13
  go_wp2
  go_loopw [5] (fun i wr => ∃ k q : Nat, k ≤ n ∧ i = .int .i64 k ∧ xs.take k = ys.take k ∧ wr = w.drewN q) (fun i _ => n - (intOf i).toNat)
  case atStart => exact ⟨0, 0, Nat.zero_le _, rfl, rfl, rfl⟩
  case round =>
    obtain ⟨k, q, hk, rfl, ht, rfl⟩ := hrel
    by_cases hlt : k < n
    · have gx := hcx k hlt
      have hlx : k < xs.length := by omega
      have hly : k < ys.length := by omega
      have gy := hcy k hlt
      have hlt' : (k : Int) < (n : Int) := by omega
      have HT := Lib.hid ht
      clear ht hcx hcy
      go_wp2_with fail
      go_quiet (fail)
      go_wp2
      · have hne : (xs[k] != ys[k]) = true := by assumption
        go_ret
        refine ⟨ret_bool ?_, _, World.drewN_drewN _ _ _⟩
        simp only [Bool.false_eq, decide_eq_false_iff_not]
        rintro rfl
        simp at hne
      · have he : (xs[k] != ys[k]) = false := by assumption
        go_roundw
        case rel => exact ⟨k + 1, q + _, by omega, by go_num, take_succ_eq HT.out (by omega) (by omega) (by simpa [hlx, hly] using he), rfl⟩
        case measure => simp [intOf]; omega
    · have hkn : k = n := by omega
      have hxy : xs = ys := by
        subst hkn
        rw [List.take_of_length_le (by omega), List.take_of_length_le (by omega)] at ht
        exact ht
      have HT := Lib.hid hxy
      clear ht hxy hcx hcy hkn
      go_wp2
      go_ret
      exact ⟨ret_bool (by simp [HT.out]), _, rfl⟩

/-- R.EqBytes: the two slices, whatever they lie in. -/
theorem eq_any (A A' : Option Addr) (n m cap cap' B B' : Nat) (xs ys : List Int) (w : World) (hx : Row w B A n (ints .u8 xs)) (hy : Row w B' A' m (ints .u8 ys)) (hn : n ≤ 9223372036854775807) :
    Calls Tryd.prog 13 #[.slice A n cap, .slice A' m cap'] w fun e w' => e = .returned (.bool (decide (xs = ys))) ∧ Below w.heap.size w w' := by
  have lx : xs.length = n := by simpa [ints] using hx.1
  have ly : ys.length = m := by simpa [ints] using hy.1
  by_cases hne : n = m
  · subst hne
    by_cases h0 : n = 0
    · subst h0
      have e1 : xs = [] := List.eq_nil_of_length_eq_zero lx
      have e2 : ys = [] := List.eq_nil_of_length_eq_zero ly
      subst e1; subst e2
      go_enter Tryd.func13, Tryd.ntmps13
      go_wp2
      refine wp_loop_rounds 1 ?_
      rw [rounds_succ]
      go_wp2
      go_ret
      exact ⟨rfl, Below.refl _ _⟩
    · obtain ⟨b, off, rfl, _, hc⟩ := hx.2 (by omega)
      obtain ⟨b', off', rfl, _, hc'⟩ := hy.2 (by omega)
      refine (eq_walk b b' off off' n cap cap' xs ys w lx ly hn (fun j hj => (hc j hj).trans (ints_get _ _ _ (by omega))) (fun j hj => (hc' j hj).trans (ints_get _ _ _ (by omega)))).mono ?_
      rintro e w' ⟨rfl, k, rfl⟩
      exact ⟨rfl, ⟨rfl, rfl, rfl, Nat.le_refl _, fun _ _ => rfl⟩⟩
  · refine (eq_len A A' n m cap cap' w hne).mono ?_
    rintro e w' ⟨rfl, rfl⟩
    refine ⟨ret_bool ?_, Below.refl _ _⟩
    simp only [Bool.false_eq, decide_eq_false_iff_not]
    rintro rfl
    omega

theorem RU_all (g B : Nat) (l : List Int) (w : World) (h : Rd w g B l 0) :
    Calls Tryd.prog 34 #[.pointer (some ⟨g, 0, none⟩)] w (RdPost g B w (rdU l).1 (rdU l).2.1 (rdU l).2.2) := by
  cases he : endAt l with
  | none =>
    have := RU_none g B l w h he
    simp only [rdU, he]
    split <;> simp_all
  | some i =>
    obtain ⟨z, hz, _, _⟩ := endAt_some he
    have hi : i < l.length := (List.getElem?_eq_some_iff.1 hz).1
    simp only [rdU, he]
    by_cases h8 : 8 ≤ i
    · simp only [if_pos h8]
      exact RU_long g B i l w h he h8 hi
    · simp only [if_neg h8]
      by_cases h0 : 0 < i ∧ l[i]? = some 0
      · simp only [if_pos h0]
        exact RU_zero g B i l w h he (by omega) h0.1 h0.2 hi
      · simp only [if_neg h0]
        by_cases hb : 18014398509481982 < val (l.take (i + 1))
        · simp only [if_pos hb]
          exact RU_big g B i l w h he (by omega) h0 hi hb
        · simp only [if_neg hb]
          exact RU_good g B i l w h he (by omega) h0 hi hb

theorem S_yes (n : Int) (l : List Int) (w : World) (h : sErr n = 0 ∧ sOut n = l) : Calls Tryd.prog 26 #[.int .i64 n] w (Out w l 0) := by
  have := S_any n w
  rwa [h.1, h.2] at this
theorem eq_yes (A A' : Option Addr) (cap cap' B B' : Nat) (xs : List Int) (w : World) (hx : Row w B A xs.length (ints .u8 xs)) (hy : Row w B' A' xs.length (ints .u8 xs)) (hn : xs.length ≤ 9223372036854775807) :
    Calls Tryd.prog 13 #[.slice A xs.length cap, .slice A' xs.length cap'] w fun e w' => e = .returned (.bool true) ∧ Below w.heap.size w w' := by
  have := eq_any A A' xs.length xs.length cap cap' B B' xs xs w hx hy hn
  rwa [show decide (xs = xs) = true by simp] at this

theorem leb0 : leb 0 = [0] := leb_small (by omega)
theorem leb1 : leb 1 = [1] := leb_small (by omega)
theorem leb2 : leb 2 = [2] := leb_small (by omega)
theorem leb127 : leb 127 = [127] := leb_small (by omega)
theorem leb128 : leb 128 = [128, 1] := by rw [leb_big (by omega), show 128 / 128 = 1 from rfl, leb1]; rfl
theorem leb300 : leb 300 = [172, 2] := by rw [leb_big (by omega), show 300 / 128 = 2 from rfl, leb2]; rfl
theorem s_m1 : sErr (-1) = 0 ∧ sOut (-1) = [1] := ⟨rfl, by rw [sOut, if_pos (by decide)]; exact leb1⟩
theorem s_p1 : sErr 1 = 0 ∧ sOut 1 = [2] := ⟨rfl, by rw [sOut, if_pos (by decide)]; exact leb2⟩
theorem puts_ex : putErr [-1, 64] = 0 ∧ putOut [-1, 64] = [1, 128, 1] := by
  have h : putOk [-1, 64] = true := by decide
  have h1 : sOut (-1) = [1] := by rw [sOut, if_pos (by decide)]; exact leb1
  have h2 : sOut 64 = [128, 1] := by rw [sOut, if_pos (by decide)]; exact leb128
  refine ⟨by simp [putErr, h], ?_⟩
  rw [putOut, if_pos h, List.flatMap_cons, List.flatMap_cons, h1, h2]
  rfl
end Go.Proofs.YtpeepolmbcakbaaDoor
