/- nat.Read. -/
import Derived.Test.YtlpfcilgndbopaaDoorNNum
namespace Go.Proofs.YtlpfcilgndbopaaDoor
open Go.RowKit

/-- The number whose digits are l. -/
def decV (l : List UInt8) : Nat := l.foldl (fun v b => 10 * v + (b.toNat - 48)) 0
def readE (l : List UInt8) : Int := if 600 < l.length then 5 else if isNum l then 0 else 4
def readL (l : List UInt8) : List Int := if readE l = 0 then limbs (decV l) else []

theorem decV_succ {l : List UInt8} {k : Nat} (hk : k < l.length) : decV (l.take (k + 1)) = 10 * decV (l.take k) + ((l.getD k 0).toNat - 48) := by
  rw [decV, List.take_succ_eq_append_getElem hk, List.foldl_append, List.getD_eq_getElem?_getD, List.getElem?_eq_getElem hk]
  rfl
theorem digit_at {l : List UInt8} (h : isNum l = true) (k : Nat) (hk : k < l.length) : 48 ≤ (l.getD k 0).toNat ∧ (l.getD k 0).toNat ≤ 57 := by
  rw [isNum, Bool.and_eq_true] at h
  have := List.all_eq_true.1 h.1 l[k] (List.getElem_mem hk)
  rw [digit, Bool.and_eq_true, decide_eq_true_eq, decide_eq_true_eq] at this
  rw [List.getD_eq_getElem?_getD, List.getElem?_eq_getElem hk]
  exact this
theorem decV_lt {l : List UInt8} (h : isNum l = true) : ∀ k, k ≤ l.length → decV (l.take k) < 4294967296 ^ k
  | 0, _ => by rw [List.take_zero]; decide
  | k + 1, hk => by
    have ih := decV_lt h k (by omega)
    have hd := digit_at h k (by omega)
    rw [decV_succ (by omega), Nat.pow_succ]
    omega
theorem decV_len {l : List UInt8} (h : isNum l = true) {k : Nat} (hk : k ≤ l.length) : (limbs (decV (l.take k))).length ≤ k := by
  apply Nat.le_of_not_lt
  intro hlt
  have := limbs_long (n := decV (l.take k)) (k := k) hlt
  have := decV_lt h k hk
  omega

set_option maxRecDepth 100000 in
set_option maxHeartbeats 1000000 in
theorem Read_any (s : ByteArray) (l : List UInt8) (hl : s.data.toList = l) (w : World) :
    Calls Tryd.prog 36 #[.string s] w (AddOut w (readL l) (readE l)) := by
  have hsz : l.length = s.size := by rw [← hl]; exact Array.length_toList
  by_cases hlong : 600 < s.size
  · have hE : readE l = 5 := by rw [readE, hsz, if_pos hlong]
    have hL : readL l = [] := by rw [readL, hE]; rfl
    rw [hE, hL]
    have hlong' : (600 : Int) < (s.size : Int) := by omega
    go_enter Tryd.func36, Tryd.ntmps36
    go_wp2
    go_ret2
    exact ⟨none, 0, rfl, World.ownsRow_nil _ _ _ _, Below.refl _ _⟩
  · have HNum := Lib.hid (isNumeral_any s l hl (by omega))
    by_cases hnum : isNum l = true
    · have hE : readE l = 0 := by rw [readE, hsz, if_neg hlong, if_pos hnum]
      have hL : readL l = limbs (decV l) := by rw [readL, hE]; rfl
      rw [hE, hL]
      rw [hnum] at HNum
      have hcv := fun w s => run_bytes_of_string (P := Tryd.prog) w 9 44 5 s Tryd.underlying9 Tryd.underlying44 Tryd.underlying5
      go_enter Tryd.func36, Tryd.ntmps36
      go_wp2_with fail
      with_reducible refine (HNum.out w).mono ?_
      rintro e w1 ⟨rfl, b1⟩
      go_wp2_with fail
      have hC : ∀ j, j < l.length → ((w1.alloc (.cells (bytesRow s (grownCap w1 s.size 0 5)) 5 ((bytesRow s (grownCap w1 s.size 0 5)).size, (bytesRow s (grownCap w1 s.size 0 5)).size + 1))).drew).cell? ⟨w1.heap.size, j, none⟩ = some (.int .u8 ((l.getD j 0).toNat : Int)) := fun j hj => by
        subst hl
        exact bytes_cell w1 s (grownCap w1 s.size 0 5) j _ hj
      have hB : Below w.heap.size w ((w1.alloc (.cells (bytesRow s (grownCap w1 s.size 0 5)) 5 ((bytesRow s (grownCap w1 s.size 0 5)).size, (bytesRow s (grownCap w1 s.size 0 5)).size + 1))).drew) := (b1.alloc b1.size _).drew
      have hG : w1.heap.size < ((w1.alloc (.cells (bytesRow s (grownCap w1 s.size 0 5)) 5 ((bytesRow s (grownCap w1 s.size 0 5)).size, (bytesRow s (grownCap w1 s.size 0 5)).size + 1))).drew).heap.size := by show _ < (w1.heap.push _).size; rw [Array.size_push]; omega
      obtain ⟨g, hg⟩ : ∃ g, w1.heap.size = g := ⟨_, rfl⟩
      rw [hg] at hC hG ⊢
      obtain ⟨W, hW⟩ : ∃ W, (w1.alloc (.cells (bytesRow s (grownCap w1 s.size 0 5)) 5 ((bytesRow s (grownCap w1 s.size 0 5)).size, (bytesRow s (grownCap w1 s.size 0 5)).size + 1))).drew = W := ⟨_, rfl⟩
      rw [hW] at hB hC hG ⊢
      have hg0 : w.heap.size ≤ g := by rw [← hg]; exact b1.size
      clear hcv hW HNum b1 hg
      obtain ⟨cap, hcap⟩ : ∃ c, grownCap w1 s.size 0 5 = c := ⟨_, rfl⟩
      rw [hcap]
      clear hcap
      have HC := Lib.hid (And.intro hC hB)
      have HD := Lib.hid (fun k hk => digit_at hnum k hk)
      have HLn := Lib.hid (fun k hk => decV_len (k := k) hnum hk)
      clear hC hB hnum hE hL
      go_loopw [4, 16] (fun a i wr => ∃ (k n c v : Nat) (A : Option Addr), k ≤ s.size ∧ i = .int .i64 k ∧ a = .slice A n c ∧ decV (l.take k) = v ∧ (limbs v).length = n ∧ wr.ownsRow W.heap.size 34 1 (.slice A n c) n (ints .u32 (limbs v)) ∧ Below W.heap.size W wr) (fun _ i _ => s.size - (intOf i).toNat)
      case atStart => exact ⟨0, 0, 0, 0, none, Nat.zero_le _, rfl, rfl, rfl, by rw [limbs_zero]; rfl, by rw [limbs_zero]; exact World.ownsRow_nil _ _ _ _, Below.refl _ _⟩
      case round =>
        obtain ⟨k, n, c, v, A, hk, rfl, rfl, hv, hn, ho, hb⟩ := hrel
        rename World => ws
        by_cases hlt : k < s.size
        · have hkl : k < l.length := by omega
          have hc := (hb.cell (p := ⟨g, k, none⟩) hG).trans (HC.out.1 k hkl)
          have hlt' : (k : Int) < (s.size : Int) := by omega
          have hn6 : n ≤ 1000000 := by have := HLn.out k (by omega); rw [hv, hn] at this; omega
          have hd := HD.out k hkl
          have HV : Hid (decV (l.take (k + 1)) = 10 * v + ((l.getD k 0).toNat - 48)) := Lib.hid (by rw [decV_succ hkl, hv])
          obtain ⟨b, hbe⟩ : ∃ b, l.getD k 0 = b := ⟨_, rfl⟩
          rw [hbe] at hc hd HV
          have hw : IntKind.u8.wrap ((b.toNat : Int) - 48) = (b.toNat : Int) - 48 := by unfold IntKind.wrap; simp [IntKind.bits]; omega
          have HT := Lib.hid (tenfold_any A n c W.heap.size v ((b.toNat : Int) - 48) ws (by rw [← hn] at ho ⊢; exact ho) hb.size (by omega) hn6)
          have HB := Lib.hid hb
          clear hbe hv ho hb
          have HO : Hid (10 * v + ((b.toNat : Int) - 48).toNat = decV (l.take (k + 1))) := Lib.hid (by rw [HV.out]; omega)
          rw [HO.out] at HT
          have hk1 : k + 1 ≤ s.size := by omega
          go_wp2_with fail
          with_reducible refine HT.out.mono ?_
          rintro e w' ⟨A', c', rfl, o', b'⟩
          have hb' := HB.out.trans b'
          go_wp2
          refine ⟨⟨k + 1, _, c', _, A', hk1, by go_num, rfl, rfl, rfl, o', hb'⟩, ?_⟩
          simp [intOf]
          omega
        · have hks : k = s.size := by omega
          rw [List.take_of_length_le (by omega)] at hv
          have hfin : AddOut w (limbs (decV l)) 0 (.returned (.tuple #[.slice A n c, .int .i64 0])) ws := by
            rw [hv, ← hn]
            rw [← hn] at ho
            exact ⟨A, c, rfl, own_low ho HC.out.2.size, next HC.out.2 hb⟩
          have HF := Lib.hid hfin
          clear hfin hv hn ho hb
          go_wp2
          go_ret2
          exact HF.out
    · have hE : readE l = 4 := by rw [readE, hsz, if_neg hlong, if_neg hnum]
      have hL : readL l = [] := by rw [readL, hE]; rfl
      rw [hE, hL]
      rw [show isNum l = false by simpa using hnum] at HNum
      go_enter Tryd.func36, Tryd.ntmps36
      go_wp2_with fail
      with_reducible refine (HNum.out w).mono ?_
      rintro e w1 ⟨rfl, b1⟩
      go_wp2
      go_ret2
      exact ⟨none, 0, rfl, World.ownsRow_nil _ _ _ _, b1⟩
end Go.Proofs.YtlpfcilgndbopaaDoor
