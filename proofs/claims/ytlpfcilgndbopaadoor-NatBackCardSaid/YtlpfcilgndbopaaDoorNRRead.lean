/- The document's Read. -/
import Derived.Test.YtlpfcilgndbopaaDoorNBackMath
namespace Go.Proofs.YtlpfcilgndbopaaDoor
open Go.RowKit

theorem not_num_nil : isNum [] = false := rfl
theorem not_num_zero {l : List UInt8} (h : 1 < l.length) (h0 : l.getD 0 0 = 48) : isNum l = false := by
  rw [isNum, h0, beq_eq_false_iff_ne.2 (show l.length ≠ 1 by omega)]; simp
theorem not_num_at {l : List UInt8} {k : Nat} (hk : k < l.length) (h : digit (l.getD k 0) = false) : isNum l = false := by
  rw [isNum, all_no hk h]; rfl
theorem dec_all_lt {l : List UInt8} : ∀ k, k ≤ l.length → (l.take k).all digit = true → decV (l.take k) < 4294967296 ^ k
  | 0, _, _ => by rw [List.take_zero]; decide
  | k + 1, hk, h => by
    rw [List.take_succ_eq_append_getElem hk, List.all_append, Bool.and_eq_true] at h
    have ih := dec_all_lt k (by omega) h.1
    have hd := h.2
    simp [digit] at hd
    rw [decV_succ (by omega), Nat.pow_succ, List.getD_eq_getElem?_getD, List.getElem?_eq_getElem (by omega), Option.getD_some]
    omega
theorem loop_ne (bs : ByteArray) : ∀ (n i : Nat) (r : List UInt8), bs.size - i = n → r ≠ [] → ByteArray.toList.loop bs i r ≠ []
  | 0, i, r, h, hr => by
    rw [ByteArray.toList.loop, if_neg (by omega)]
    simpa using hr
  | n + 1, i, r, h, _ => by
    rw [ByteArray.toList.loop, if_pos (by omega)]
    exact loop_ne bs n (i + 1) _ (by omega) (by simp)
theorem Below.undrew {B : Nat} {w a : World} (k : Below B w.drew a) : Below B w a := ⟨k.os, k.tape, k.output, k.size, k.block⟩
theorem str_ne {s : ByteArray} (h : 0 < s.size) : ¬ s.toList = [] ∧ s.toList.isEmpty = false := by
  have hse : ¬ s.toList = [] := by
    unfold ByteArray.toList
    rw [ByteArray.toList.loop, if_pos h]
    exact loop_ne s _ _ _ rfl (by simp)
  exact ⟨hse, by simp [hse]⟩
set_option maxRecDepth 100000 in
set_option maxHeartbeats 2000000 in
theorem rRead_loop (s : ByteArray) (l : List UInt8) (hl : s.data.toList = l) (w : World) (hlen : ¬ 600 < s.size) (h0 : l.length = 1 ∨ 1 < l.length ∧ l.getD 0 0 ≠ 48) :
    Calls Tryd.prog 37 #[.string s] w (AddOut w (readL l) (readE l)) := by
  have hsz : l.length = s.size := by rw [← hl]; exact Array.length_toList
  have hS := str_at hl
  have HN := Lib.hid h0
  have HE : Hid (readE l = if isNum l then 0 else 4) := Lib.hid (by rw [readE, hsz, if_neg hlen])
  obtain ⟨z0, hz0⟩ : ∃ z, l.getD 0 0 = z := ⟨_, rfl⟩
  have hs0 := hS 0 (by omega)
  rw [hz0] at hs0
  have hlen' : ¬ (600 : Int) < (s.size : Int) := by omega
  have hsp : 0 < s.size := by omega
  have hse : ¬ s.toList = [] := by
    unfold ByteArray.toList
    rw [ByteArray.toList.loop, if_pos hsp]
    exact loop_ne s _ _ _ rfl (by simp)
  have hls : l.length = s.size := hsz
  have hse2 : s.toList.isEmpty = false := by simp [hse]
  clear hl
  have d : (¬ (1 : Int) < (s.size : Int)) ∨ ((1 : Int) < (s.size : Int) ∧ ∀ h : 0 < s.size, (((s[0]'h).toNat : Int) == 48) = false) := by
    rcases h0 with h1 | ⟨h1, h2⟩
    · left; omega
    · right
      refine ⟨by omega, fun h => beq_eq_false_iff_ne.2 fun h' => h2 (UInt8.toNat.inj ?_)⟩
      have h3 : s[0]'h = z0 := by rw [Array.getElem?_eq_getElem h] at hs0; injection hs0
      rw [h3] at h'
      rw [hz0]; simp; omega
  clear h0 hz0
  rcases d with d1 | ⟨d1, d2⟩
  all_goals
    go_enter Tryd.func37, Tryd.ntmps37
    go_wp2_with fail
    go_loopw [4, 5] (fun a i wr => ∃ (k v m d : Nat) (B : Option Addr), k ≤ s.size ∧ i = .int .i64 k ∧ a = .slice B m d ∧ decV (l.take k) = v ∧ (l.take k).all digit = true ∧ Got wr v m B ∧ wr.ownsRow w.heap.size 34 1 (.slice B m d) m (ints .u32 (limbs v)) ∧ Below w.heap.size w wr) (fun _ i _ => s.size - (intOf i).toNat)
    case atStart => exact ⟨0, 0, 0, 0, none, Nat.zero_le _, rfl, rfl, rfl, rfl, ⟨by rw [limbs_zero]; rfl, by rw [limbs_zero]; exact Row.zero _ _ _⟩, by rw [limbs_zero]; exact World.ownsRow_nil _ _ _ _, Below.refl _ _⟩
    case round =>
      obtain ⟨k, v, m, d, B, hk, rfl, rfl, hv, hall, hg, ho, hb⟩ := hrel
      rename World => ws
      by_cases hlt : k < s.size
      · have hlt' : (k : Int) < (s.size : Int) := by omega
        have hk0 : (0 : Int) ≤ (k : Int) := by omega
        have hsk := hS k (by omega)
        obtain ⟨b, hbe⟩ : ∃ b, l.getD k 0 = b := ⟨_, rfl⟩
        rw [hbe] at hsk
        have hsb : ∀ h : k < s.size, s[k]'h = b := fun h => by
          have h3 : s.data[k]? = some (s[k]'h) := Array.getElem?_eq_getElem h
          rw [hsk] at h3
          injection h3 with h3
          exact h3.symm
        clear hsk
        have HB := Lib.hid hb
        have HOw := Lib.hid ho
        have HGo := Lib.hid hg.2
        have HAl := Lib.hid hall
        have HV := Lib.hid hv
        have HBe := Lib.hid hbe
        have hkl : k < l.length := by omega
        have hm : m ≤ 1000 := by
          have h1 := dec_all_lt k (by omega) hall
          rw [hv] at h1
          have h2 := limbs_len h1
          rw [hg.1] at h2
          omega
        have hb0 : (0 : Int) ≤ (b.toNat : Int) := by omega
        clear hv hall hg ho hb hbe
        by_cases c1 : (b.toNat : Int) < 48
        · have hD : Hid (isNum l = false) := Lib.hid (not_num_at hkl (by rw [HBe.out, digit, decide_eq_false (by omega), Bool.false_and]))
          go_wp2_with fail
          go_ret2
          rw [readL, HE.out, hD.out]
          exact ⟨none, 0, rfl, World.ownsRow_nil _ _ _ _, HB.out⟩
        · by_cases c2 : (57 : Int) < (b.toNat : Int)
          · have hD : Hid (isNum l = false) := Lib.hid (not_num_at hkl (by rw [HBe.out, digit, decide_eq_false (show ¬ b.toNat ≤ 57 by omega), Bool.and_false]))
            go_wp2_with fail
            go_ret2
            rw [readL, HE.out, hD.out]
            exact ⟨none, 0, rfl, World.ownsRow_nil _ _ _ _, HB.out⟩
          · obtain ⟨x, hx⟩ : ∃ x : Nat, b.toNat - 48 = x := ⟨_, rfl⟩
            have hx2 : (b.toNat : Int) - 48 = (x : Int) := by omega
            have hx9 : x ≤ 9 := by omega
            have HAl2 : Hid ((l.take (k + 1)).all digit = true) := Lib.hid (all_succ hkl HAl.out (by rw [HBe.out, digit, decide_eq_true (show 48 ≤ b.toNat by omega), decide_eq_true (show b.toNat ≤ 57 by omega)]; rfl))
            have HV2 : Hid (v * 10 + x = decV (l.take (k + 1))) := Lib.hid (by rw [decV_succ hkl, HV.out, HBe.out, hx]; omega)
            have hk1 : k + 1 ≤ s.size := by omega
            go_wp2_with fail
            obtain ⟨M, hM⟩ : ∃ M, v * 10 = M := ⟨_, rfl⟩
            have hlM : (limbs M).length ≤ 1000000000 := by
              have h1 := dec_all_lt (l := l) (k + 1) hkl HAl2.out
              rw [← HV2.out, hM] at h1
              have h2 := limbs_len (Nat.lt_of_le_of_lt (Nat.le_add_right M x) h1)
              omega
            have hlx : (limbs x).length ≤ 1000000000 := Nat.le_trans (limbs_len (k := 1) (by omega)) (by decide)
            obtain ⟨mx, hmx⟩ : ∃ n, (limbs x).length = n := ⟨_, rfl⟩
            obtain ⟨mM, hmM⟩ : ∃ n, (limbs M).length = n := ⟨_, rfl⟩
            have HOF := Lib.hid (fun (w' : World) => newK (l := limbs x) mx (rOf_any (x : Int) w' (by omega) (by omega)) hmx)
            have HMU := Lib.hid (fun (w' : World) (A' : Option Addr) (c' : Nat) (h : Row w' w'.heap.size B m (ints .u32 (limbs v))) (h' : Row w' w'.heap.size A' 1 (ints .u32 [10])) => newK (l := limbs M) mM (by
              have h3 := rmul_any B A' m d 1 c' (limbs v) [10] w' h h' (lim_limbs _) (Lim.one (by decide) (by decide)) (by omega) (by omega)
              rwa [val_limbs, show val [10] = 10 from rfl, hM] at h3) hmM)
            have HAD := Lib.hid (fun (w' : World) (A' : Option Addr) (c' : Nat) (A'' : Option Addr) (c'' : Nat) (h : Row w' w'.heap.size A' mM (ints .u32 (limbs M))) (h' : Row w' w'.heap.size A'' mx (ints .u32 (limbs x))) => (by
              have h3 := radd_any A' A'' mM c' mx c'' (limbs M) (limbs x) w' h h' (lim_limbs _) (lim_limbs _) (by omega) (by omega)
              rwa [val_limbs, val_limbs, ← hM, HV2.out] at h3 : Calls Tryd.prog 47 #[.slice A' mM c', .slice A'' mx c''] w' (New w' (limbs (decV (l.take (k + 1)))))))
            clear hM hlM hlx hmx hmM
            have hwx : IntKind.u8.wrap (x : Int) = (x : Int) := by unfold IntKind.wrap; simp [IntKind.bits]; omega
            have hwx2 : IntKind.u64.wrap (x : Int) = (x : Int) := by unfold IntKind.wrap; simp [IntKind.bits]; omega
            go_region_with (first
              | (go_at_call 23
                 with_reducible refine (HOF.out _).mono ?_
                 rintro e w1 ⟨A1, c1, rfl, r1, b1⟩)
              | (go_at_call 53
                 with_reducible refine (HMU.out _ _ _ ?_ ?_).mono ?_
                 · first
                   | exact HGo.out.grew _
                   | exact Row.grew (HGo.out.on (Below.undrew b1)) _
                   | exact (Row.grew HGo.out _).on (Below.undrew b1)
                 · first
                   | exact Row.lits _ _ _ 1 _ rfl rfl
                   | exact (Row.lits ws _ _ 1 _ rfl rfl).on (Below.undrew b1)
                 rintro e w2 ⟨A2, c2, rfl, r2, b2⟩)
              | (go_at_call 47
                 with_reducible refine (HAD.out _ _ _ _ _ ?_ ?_).mono ?_
                 · first
                   | exact r2
                   | exact r2.on b1
                 · first
                   | exact r1
                   | exact on_alloc r1 b2
                   | exact r1.on b2
                 rintro e w3 ⟨A3, c3, rfl, o3, b3⟩))
            all_goals
              have hb3 : Below w.heap.size w w3 := by
                first
                | exact next (next (nextA HB.out (Below.undrew b2)) b1) b3
                | exact next (next_alloc (next HB.out (Below.undrew b1)) b2) b3
                | exact next (next (nextA HB.out (Below.undrew b1)) b2) b3
              have ho3 := own_low o3 (base' := w.heap.size) (by have h1 := HB.out.size; first | (have h2 := b1.size; have h3 := b2.size; simp at h2 h3; omega))
              have HF := Lib.hid (And.intro (Row.own o3) (And.intro ho3 hb3))
              clear hb3 ho3 o3 b3 b1 b2 r1 r2
              go_wp2_with fail
              refine ⟨⟨k + 1, _, _, c3, A3, hk1, by go_num, rfl, rfl, HAl2.out, ⟨rfl, HF.out.1⟩, HF.out.2.1, HF.out.2.2⟩, ?_⟩
              simp [intOf]
              omega
      · have hks : k = s.size := by omega
        have hE0 : readE l = 0 := by
          rw [List.take_of_length_le (by omega)] at hall
          rw [HE.out, is_num hall HN.out]; rfl
        rw [List.take_of_length_le (by omega)] at hv
        have hF : AddOut w (readL l) (readE l) (.returned (.tuple #[.slice B m d, .int .i64 0])) ws := by
          rw [readL, hE0, if_pos rfl, hv]
          have h1 := hg.1
          subst h1
          exact ⟨B, d, rfl, ho, hb⟩
        have HF := Lib.hid hF
        clear hF hv hall hg ho hb hE0
        go_wp2_with fail
        go_ret2
        exact HF.out
theorem rRead_any (s : ByteArray) (l : List UInt8) (hl : s.data.toList = l) (w : World) :
    Calls Tryd.prog 37 #[.string s] w (AddOut w (readL l) (readE l)) := by
  have hsz : l.length = s.size := by rw [← hl]; exact Array.length_toList
  by_cases hlong : 600 < s.size
  · have hE : readE l = 5 := by rw [readE, hsz, if_pos hlong]
    have hL : readL l = [] := by rw [readL, hE]; rfl
    rw [hE, hL]
    have hlong' : (600 : Int) < (s.size : Int) := by omega
    go_enter Tryd.func37, Tryd.ntmps37
    go_wp2
    go_ret2
    exact ⟨none, 0, rfl, World.ownsRow_nil _ _ _ _, Below.refl _ _⟩
  · by_cases h0 : l.length = 1 ∨ 1 < l.length ∧ l.getD 0 0 ≠ 48
    · exact rRead_loop s l hl w hlong h0
    · have hlen' : ¬ (600 : Int) < (s.size : Int) := by omega
      by_cases hz : s.size = 0
      · have hE : readE l = 4 := by
          obtain rfl : l = [] := List.eq_nil_of_length_eq_zero (by omega)
          rfl
        have hL : readL l = [] := by rw [readL, hE]; rfl
        rw [hE, hL]
        have hs : s.toList = [] := by
          unfold ByteArray.toList
          rw [ByteArray.toList.loop, if_neg (by omega)]; rfl
        have hs2 : s.toList.isEmpty = true := by rw [hs]; rfl
        clear h0 hE hL hl hsz hlong
        go_enter Tryd.func37, Tryd.ntmps37
        go_wp2
        go_ret2
        exact ⟨none, 0, rfl, World.ownsRow_nil _ _ _ _, Below.refl _ _⟩
      · have h1 : 1 < l.length := by omega
        have hz0 : l.getD 0 0 = 48 := Decidable.byContradiction fun h => h0 (.inr ⟨h1, h⟩)
        have hE : readE l = 4 := by rw [readE, hsz, if_neg hlong, not_num_zero h1 hz0]; rfl
        have hL : readL l = [] := by rw [readL, hE]; rfl
        rw [hE, hL]
        have hS := str_at hl 0 (by omega)
        rw [hz0] at hS
        obtain ⟨hse, hse2⟩ := str_ne (s := s) (by omega)
        have h1' : (1 : Int) < (s.size : Int) := by omega
        have hb : ∀ h : 0 < s.size, s[0]'h = 48 := fun h => by
          have h3 : s.data[0]? = some (s[0]'h) := Array.getElem?_eq_getElem h
          rw [hS] at h3
          injection h3 with h3
          exact h3.symm
        have hsp : 0 < s.size := by omega
        have hb2 : ∀ h : 0 < s.size, (((s[0]'h).toNat : Int) == 48) = true := fun h => by rw [hb h]; rfl
        clear h0 hE hL hl hsz hlong hz0 hS h1 hb
        go_enter Tryd.func37, Tryd.ntmps37
        go_wp2
        go_ret2
        exact ⟨none, 0, rfl, World.ownsRow_nil _ _ _ _, Below.refl _ _⟩
end Go.Proofs.YtlpfcilgndbopaaDoor
