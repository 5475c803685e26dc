/- Entries in memory; block.Check, the document's. -/
import Derived.Test.YtpeepolmbcakbaaDoorBMath
import Derived.Test.YtpeepolmbcakbaaDoorSealA
namespace Go.Proofs.YtpeepolmbcakbaaDoor
open Go.RowKit

/-- A slice of entries, as it reads. -/
def RowE (w : World) (B : Nat) (A : Option Addr) (n : Nat) (es : List (Int × ByteArray)) : Prop :=
  es.length = n ∧ (0 < n → ∃ b off, A = some ⟨b, off, none⟩ ∧ b < B ∧ ∀ j, j < n → w.cell? ⟨b, off + j * 2, none⟩ = some (.int .i64 (es.getD j (0, ByteArray.empty)).1) ∧ w.cell? ⟨b, off + j * 2 + 1, none⟩ = some (.string (es.getD j (0, ByteArray.empty)).2))
theorem ret_int {k : IntKind} {a b : Int} (h : a = b) : Ending.returned (.int k a) = .returned (.int k b) := by rw [h]
theorem Below.dn {B : Nat} {w a : World} (h : Below B w a) (n : Nat) : Below B w (a.drewN n) := ⟨h.os, h.tape, h.output, h.size, h.block⟩
theorem RowE.on {w w' : World} {A : Option Addr} {n : Nat} {es : List (Int × ByteArray)} (h : RowE w w.heap.size A n es) (hb : Below w.heap.size w w') : RowE w' w'.heap.size A n es :=
  ⟨h.1, fun h0 => by
    obtain ⟨b, off, e, hb', hc⟩ := h.2 h0
    exact ⟨b, off, e, Nat.lt_of_lt_of_le hb' hb.size, fun j hj => ⟨(hb.cell (p := ⟨b, off + j * 2, none⟩) hb').trans (hc j hj).1, (hb.cell (p := ⟨b, off + j * 2 + 1, none⟩) hb').trans (hc j hj).2⟩⟩⟩
/-- The entries with their lines' bytes. -/
def mm (es : List (Int × ByteArray)) : List (Int × List Int) := es.map fun e => (e.1, nums e.2)
theorem mm_len (es : List (Int × ByteArray)) : (mm es).length = es.length := by simp [mm]
theorem mm_drop {es : List (Int × ByteArray)} {k : Nat} (h : k < es.length) : (mm es).drop k = ((es.getD k (0, ByteArray.empty)).1, nums (es.getD k (0, ByteArray.empty)).2) :: (mm es).drop (k + 1) := by
  rw [List.drop_eq_getElem_cons (by rw [mm_len]; exact h)]
  simp [mm, List.getD_eq_getElem?_getD, h]
def prevT (es : List (Int × ByteArray)) : Nat → Option Int
  | 0 => none
  | k + 1 => some (es.getD k (0, ByteArray.empty)).1
theorem chkL_step {es : List (Int × ByteArray)} {k : Nat} (h : k < es.length) {t : Int} {s : ByteArray} (ht : (es.getD k (0, ByteArray.empty)).1 = t) (hs : (es.getD k (0, ByteArray.empty)).2 = s) :
    chkL (prevT es k) ((mm es).drop k) = if t < -9007199254740991 ∨ 9007199254740991 < t then 9 else if (prevT es k).any (fun q => decide (t < q)) = true then 140 else if 4096 < s.size then 141 else chkL (prevT es (k + 1)) ((mm es).drop (k + 1)) := by
  rw [mm_drop h, chkL, ht, hs, nums_len, prevT, ht]

set_option maxRecDepth 100000 in
set_option maxHeartbeats 2000000 in
theorem Check_any (A : Option Addr) (n c : Nat) (es : List (Int × ByteArray)) (w : World) (hr : RowE w w.heap.size A n es) (hn : n ≤ 9223372036854775807) :
    Calls Tryd.prog 14 #[.slice A n c] w fun e w' => e = .returned (.int .i64 (chkB (mm es))) ∧ Below w.heap.size w w' := by
  have hl := hr.1
  by_cases h1 : n < 1
  · have HC : Hid (chkB (mm es) = 2) := Lib.hid (by rw [chkB, mm_len, if_pos (by omega)])
    have h1' : (n : Int) < 1 := by omega
    clear hr hl
    go_enter Tryd.func14, Tryd.ntmps14
    go_wp2
    go_ret
    exact ⟨ret_int HC.out.symm, Below.refl _ _⟩
  · by_cases h2 : 32 < n
    · have HC : Hid (chkB (mm es) = 2) := Lib.hid (by rw [chkB, mm_len, if_pos (by omega)])
      have h1' : ¬ (n : Int) < 1 := by omega
      have h2' : 32 < (n : Int) := by omega
      clear hr hl
      go_enter Tryd.func14, Tryd.ntmps14
      go_wp2
      go_ret
      exact ⟨ret_int HC.out.symm, Below.refl _ _⟩
    · have HC : Hid (chkB (mm es) = chkL none (mm es)) := Lib.hid (by rw [chkB, mm_len, if_neg (by omega)])
      have h1' : ¬ (n : Int) < 1 := by omega
      have h2' : ¬ 32 < (n : Int) := by omega
      obtain ⟨b, off, rfl, hb0, hcl⟩ := hr.2 (by omega)
      have HCl := Lib.hid hcl
      have HL := Lib.hid hl
      have hn32 : n ≤ 32 := by omega
      clear hr hl hcl
      go_enter Tryd.func14, Tryd.ntmps14
      go_wp2_with fail
      go_loopw [15] (fun s15 wr => ∃ k : Nat, k ≤ n ∧ s15 = .int .i64 k ∧ Hid (chkL (prevT es k) ((mm es).drop k) = chkL none (mm es)) ∧ Below w.heap.size w wr) (fun i _ => n - (intOf i).toNat)
      case atStart => exact ⟨0, Nat.zero_le _, rfl, Lib.hid rfl, Below.refl _ _⟩
      case round =>
        obtain ⟨k, hk, rfl, HK, hb⟩ := hrel
        rename World => wr
        by_cases hlt : k < n
        · have hlt' : (k : Int) < (n : Int) := by omega
          obtain ⟨c1, c2⟩ := HCl.out k hlt
          obtain ⟨t, ht⟩ : ∃ t, (es.getD k (0, ByteArray.empty)).1 = t := ⟨_, rfl⟩
          obtain ⟨s, hs⟩ : ∃ s, (es.getD k (0, ByteArray.empty)).2 = s := ⟨_, rfl⟩
          have HS := Lib.hid (chkL_step (es := es) (k := k) (by rw [HL.out]; exact hlt) ht hs)
          rw [ht] at c1
          rw [hs] at c2
          replace c1 := (hb.cell (p := ⟨b, off + k * 2, none⟩) hb0).trans c1
          replace c2 := (hb.cell (p := ⟨b, off + k * 2 + 1, none⟩) hb0).trans c2
          have HB := Lib.hid hb
          clear ht hs hb
          have hk1 : k + 1 ≤ n := hlt
          have hk0 : (0 : Int) ≤ (k : Int) := by omega
          by_cases e1 : t < -9007199254740991
          · have HE : Hid (chkB (mm es) = 9) := Lib.hid (by rw [HC.out, ← HK.out, HS.out, if_pos (.inl e1)])
            go_wp2_with fail
            go_ret
            exact ⟨ret_int HE.out.symm, HB.out.alloc HB.out.size _⟩
          · by_cases e2 : 9007199254740991 < t
            · have HE : Hid (chkB (mm es) = 9) := Lib.hid (by rw [HC.out, ← HK.out, HS.out, if_pos (.inr e2)])
              go_wp2_with fail
              go_ret
              exact ⟨ret_int HE.out.symm, HB.out.alloc HB.out.size _⟩
            · replace HS := Lib.hid (HS.out.trans (if_neg (by omega)))
              by_cases k0 : k = 0
              · subst k0
                replace HS := Lib.hid (HS.out.trans (if_neg (by simp [prevT])))
                rw [Nat.zero_mul, Nat.add_zero] at c1 c2
                by_cases e4 : 4096 < s.size
                · have HE : Hid (chkB (mm es) = 141) := Lib.hid (by rw [HC.out, ← HK.out, HS.out, if_pos e4])
                  have e4' : 4096 < (s.size : Int) := by omega
                  clear e4
                  go_wp2_with fail
                  go_quiet (fail)
                  go_wp2
                  go_ret
                  exact ⟨ret_int HE.out.symm, Below.dn (HB.out.alloc HB.out.size _) _⟩
                · have HN := Lib.hid (HS.out.symm.trans HK.out |> fun h => (HS.out.trans (if_neg e4)).symm.trans HK.out)
                  have e4' : ¬ 4096 < (s.size : Int) := by omega
                  clear e4
                  go_wp2_with fail
                  go_quiet (fail)
                  go_wp2
                  refine ⟨⟨0 + 1, hk1, by go_num, HN, Below.dn (HB.out.alloc HB.out.size _) _⟩, ?_⟩
                  simp [intOf]
                  omega
              · obtain ⟨q, hqk⟩ : ∃ q, k - 1 = q := ⟨_, rfl⟩
                obtain ⟨p, hp⟩ : ∃ p, (es.getD q (0, ByteArray.empty)).1 = p := ⟨_, rfl⟩
                have hpk : prevT es k = some p := by rw [show k = q + 1 by omega, prevT, hp]
                obtain ⟨d1, _⟩ := HCl.out q (by omega)
                rw [hp] at d1
                replace d1 := (HB.out.cell (p := ⟨b, off + q * 2, none⟩) hb0).trans d1
                have d2 : (wr.alloc (.cells #[.int .i64 t, .string s] 43)).cell? ⟨b, off + q * 2, none⟩ = some (.int .i64 p) := by
                  rw [World.cell?_alloc_lt _ _ _ (by have := HB.out.size; show b < wr.heap.size; omega)]; exact d1
                have hkp : 0 < k := by omega
                have hkp1 : decide (0 < k) = true := decide_eq_true hkp
                have hq : (k : Int) - 1 = (q : Int) := by omega
                have hq0 : (0 : Int) ≤ (q : Int) := by omega
                have hqn : (q : Int) < (n : Int) := by omega
                have hwq : IntKind.i64.wrap (q : Int) = (q : Int) := IntWalk.i64_in _ (by omega)
                by_cases e3 : t < p
                · replace HS := Lib.hid (HS.out.trans (if_pos (by simp [hpk, e3])))
                  have HE : Hid (chkB (mm es) = 140) := Lib.hid (by rw [HC.out, ← HK.out, HS.out])
                  clear hp hpk hqk k0
                  go_wp2_with fail
                  go_quiet (fail)
                  go_wp2
                  go_ret
                  exact ⟨ret_int HE.out.symm, Below.dn (HB.out.alloc HB.out.size _) _⟩
                · replace HS := Lib.hid (HS.out.trans (if_neg (by simp [hpk]; omega)))
                  clear hp hpk hqk k0
                  by_cases e4 : 4096 < s.size
                  · have HE : Hid (chkB (mm es) = 141) := Lib.hid (by rw [HC.out, ← HK.out, HS.out, if_pos e4])
                    have e4' : 4096 < (s.size : Int) := by omega
                    clear e4
                    go_wp2_with fail
                    go_quiet (fail)
                    go_wp2
                    go_ret
                    exact ⟨ret_int HE.out.symm, Below.dn (HB.out.alloc HB.out.size _) _⟩
                  · have HN := Lib.hid ((HS.out.trans (if_neg e4)).symm.trans HK.out)
                    have e4' : ¬ 4096 < (s.size : Int) := by omega
                    clear e4
                    go_wp2_with fail
                    go_quiet (fail)
                    go_wp2
                    refine ⟨⟨k + 1, hk1, by go_num, HN, Below.dn (HB.out.alloc HB.out.size _) _⟩, ?_⟩
                    simp [intOf]
                    omega
        · have hkn : k = n := by omega
          have HE : Hid (chkB (mm es) = 0) := Lib.hid (by
            rw [HC.out, ← HK.out, hkn, List.drop_eq_nil_of_le (by rw [mm_len, HL.out]; omega), chkL])
          have HB := Lib.hid hb
          clear hb hkn HK
          go_wp2_with fail
          go_ret
          exact ⟨ret_int HE.out.symm, HB.out⟩

set_option maxRecDepth 100000 in
set_option maxHeartbeats 2000000 in
theorem rCheck_any (A : Option Addr) (n c : Nat) (es : List (Int × ByteArray)) (w : World) (hr : RowE w w.heap.size A n es) (hn : n ≤ 9223372036854775807) :
    Calls Tryd.prog 15 #[.slice A n c] w fun e w' => e = .returned (.int .i64 (chkB (mm es))) ∧ Below w.heap.size w w' := by
  have hl := hr.1
  by_cases h1 : n < 1
  · have HC : Hid (chkB (mm es) = 2) := Lib.hid (by rw [chkB, mm_len, if_pos (by omega)])
    have h1' : (n : Int) < 1 := by omega
    clear hr hl
    go_enter Tryd.func15, Tryd.ntmps15
    go_wp2
    go_ret
    exact ⟨ret_int HC.out.symm, Below.refl _ _⟩
  · by_cases h2 : 32 < n
    · have HC : Hid (chkB (mm es) = 2) := Lib.hid (by rw [chkB, mm_len, if_pos (by omega)])
      have h1' : ¬ (n : Int) < 1 := by omega
      have h2' : 32 < (n : Int) := by omega
      clear hr hl
      go_enter Tryd.func15, Tryd.ntmps15
      go_wp2
      go_ret
      exact ⟨ret_int HC.out.symm, Below.refl _ _⟩
    · have HC : Hid (chkB (mm es) = chkL none (mm es)) := Lib.hid (by rw [chkB, mm_len, if_neg (by omega)])
      have h1' : ¬ (n : Int) < 1 := by omega
      have h2' : ¬ 32 < (n : Int) := by omega
      obtain ⟨b, off, rfl, hb0, hcl⟩ := hr.2 (by omega)
      have HCl := Lib.hid hcl
      have HL := Lib.hid hl
      have hn32 : n ≤ 32 := by omega
      clear hr hl hcl
      go_enter Tryd.func15, Tryd.ntmps15
      go_wp2_with fail
      go_loopw [3] (fun s15 wr => ∃ k : Nat, k ≤ n ∧ s15 = .int .i64 k ∧ Hid (chkL (prevT es k) ((mm es).drop k) = chkL none (mm es)) ∧ Below w.heap.size w wr) (fun i _ => n - (intOf i).toNat)
      case atStart => exact ⟨0, Nat.zero_le _, rfl, Lib.hid rfl, Below.refl _ _⟩
      case round =>
        obtain ⟨k, hk, rfl, HK, hb⟩ := hrel
        rename World => wr
        by_cases hlt : k < n
        · have hlt' : (k : Int) < (n : Int) := by omega
          obtain ⟨c1, c2⟩ := HCl.out k hlt
          obtain ⟨t, ht⟩ : ∃ t, (es.getD k (0, ByteArray.empty)).1 = t := ⟨_, rfl⟩
          obtain ⟨s, hs⟩ : ∃ s, (es.getD k (0, ByteArray.empty)).2 = s := ⟨_, rfl⟩
          have HS := Lib.hid (chkL_step (es := es) (k := k) (by rw [HL.out]; exact hlt) ht hs)
          rw [ht] at c1
          rw [hs] at c2
          replace c1 := (hb.cell (p := ⟨b, off + k * 2, none⟩) hb0).trans c1
          replace c2 := (hb.cell (p := ⟨b, off + k * 2 + 1, none⟩) hb0).trans c2
          have HB := Lib.hid hb
          clear ht hs hb
          have hk1 : k + 1 ≤ n := hlt
          have hk0 : (0 : Int) ≤ (k : Int) := by omega
          by_cases e1 : t < -9007199254740991
          · have HE : Hid (chkB (mm es) = 9) := Lib.hid (by rw [HC.out, ← HK.out, HS.out, if_pos (.inl e1)])
            go_wp2_with fail
            go_ret
            exact ⟨ret_int HE.out.symm, HB.out⟩
          · by_cases e2 : 9007199254740991 < t
            · have HE : Hid (chkB (mm es) = 9) := Lib.hid (by rw [HC.out, ← HK.out, HS.out, if_pos (.inr e2)])
              go_wp2_with fail
              go_ret
              exact ⟨ret_int HE.out.symm, HB.out⟩
            · replace HS := Lib.hid (HS.out.trans (if_neg (by omega)))
              by_cases k0 : k = 0
              · subst k0
                replace HS := Lib.hid (HS.out.trans (if_neg (by simp [prevT])))
                rw [Nat.zero_mul, Nat.add_zero] at c1 c2
                by_cases e4 : 4096 < s.size
                · have HE : Hid (chkB (mm es) = 141) := Lib.hid (by rw [HC.out, ← HK.out, HS.out, if_pos e4])
                  have e4' : 4096 < (s.size : Int) := by omega
                  clear e4
                  go_wp2_with fail
                  go_quiet (fail)
                  go_wp2
                  go_ret
                  exact ⟨ret_int HE.out.symm, Below.dn HB.out _⟩
                · have HN := Lib.hid (HS.out.symm.trans HK.out |> fun h => (HS.out.trans (if_neg e4)).symm.trans HK.out)
                  have e4' : ¬ 4096 < (s.size : Int) := by omega
                  clear e4
                  go_wp2_with fail
                  go_quiet (fail)
                  go_wp2
                  refine ⟨⟨0 + 1, hk1, by go_num, HN, Below.dn HB.out _⟩, ?_⟩
                  simp [intOf]
                  omega
              · obtain ⟨q, hqk⟩ : ∃ q, k - 1 = q := ⟨_, rfl⟩
                obtain ⟨p, hp⟩ : ∃ p, (es.getD q (0, ByteArray.empty)).1 = p := ⟨_, rfl⟩
                have hpk : prevT es k = some p := by rw [show k = q + 1 by omega, prevT, hp]
                obtain ⟨d1, _⟩ := HCl.out q (by omega)
                rw [hp] at d1
                replace d1 := (HB.out.cell (p := ⟨b, off + q * 2, none⟩) hb0).trans d1
                have hkp : 0 < k := by omega
                have hkp1 : decide (0 < k) = true := decide_eq_true hkp
                have hq : (k : Int) - 1 = (q : Int) := by omega
                have hq0 : (0 : Int) ≤ (q : Int) := by omega
                have hqn : (q : Int) < (n : Int) := by omega
                have hwq : IntKind.i64.wrap (q : Int) = (q : Int) := IntWalk.i64_in _ (by omega)
                by_cases e3 : t < p
                · replace HS := Lib.hid (HS.out.trans (if_pos (by simp [hpk, e3])))
                  have HE : Hid (chkB (mm es) = 140) := Lib.hid (by rw [HC.out, ← HK.out, HS.out])
                  clear hp hpk hqk k0
                  go_wp2_with fail
                  go_quiet (fail)
                  go_wp2
                  go_ret
                  exact ⟨ret_int HE.out.symm, Below.dn HB.out _⟩
                · replace HS := Lib.hid (HS.out.trans (if_neg (by simp [hpk]; omega)))
                  clear hp hpk hqk k0
                  by_cases e4 : 4096 < s.size
                  · have HE : Hid (chkB (mm es) = 141) := Lib.hid (by rw [HC.out, ← HK.out, HS.out, if_pos e4])
                    have e4' : 4096 < (s.size : Int) := by omega
                    clear e4
                    go_wp2_with fail
                    go_quiet (fail)
                    go_wp2
                    go_ret
                    exact ⟨ret_int HE.out.symm, Below.dn HB.out _⟩
                  · have HN := Lib.hid ((HS.out.trans (if_neg e4)).symm.trans HK.out)
                    have e4' : ¬ 4096 < (s.size : Int) := by omega
                    clear e4
                    go_wp2_with fail
                    go_quiet (fail)
                    go_wp2
                    refine ⟨⟨k + 1, hk1, by go_num, HN, Below.dn HB.out _⟩, ?_⟩
                    simp [intOf]
                    omega
        · have hkn : k = n := by omega
          have HE : Hid (chkB (mm es) = 0) := Lib.hid (by
            rw [HC.out, ← HK.out, hkn, List.drop_eq_nil_of_le (by rw [mm_len, HL.out]; omega), chkL])
          have HB := Lib.hid hb
          clear hb hkn HK
          go_wp2_with fail
          go_ret
          exact ⟨ret_int HE.out.symm, HB.out⟩
end Go.Proofs.YtpeepolmbcakbaaDoor
