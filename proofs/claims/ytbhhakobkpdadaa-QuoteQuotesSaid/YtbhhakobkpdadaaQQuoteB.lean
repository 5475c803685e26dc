/- Quote: the region that writes a byte by its number. -/
import Derived.Test.YtbhhakobkpdadaaQQuoteA
namespace Go.Proofs.Ytbhhakobkpdadaa
open Go.RowKit Go.Shelf

attribute [local go_sem] Oper.semAt_some

def regOf (k : Nat) : Code → Option Code
  | .region id ops d => if id = k then some (.region id ops d) else none
  | .seq a b => (regOf k a).orElse fun _ => regOf k b
  | .cond _ a b => (regOf k a).orElse fun _ => regOf k b
  | .block _ c => regOf k c
  | .loop c => regOf k c
  | .rangeFunc _ _ a b => (regOf k a).orElse fun _ => regOf k b
  | .scope c => regOf k c
  | _ => none

set_option maxRecDepth 100000 in
set_option maxHeartbeats 8000000 in
theorem hex_region (l n b c : Nat) (p : ByteArray) (W : World) (C : Code) (hC : Try.f20.body.bind (regOf 16) = some C) (Q : Exit → Act → World → Prop)
    (h1 : 1 ≤ p.size) (hp0 : (p[0]'(by omega)).toNat = c) (R : ByteArray → World → Prop)
    (HWX : Hid (∀ (C : Array Value) (S : ByteArray) (_ : S.size ≤ 1000000), Calls Try.prog 35 #[.pointer (some ⟨b, 0, none⟩), .string S] (W.alloc (.cells C 5)).drew fun e W2 => e = .returned (.tuple #[.int .i64 S.size, .nilIface]) ∧ R S W2))
    (HQ : ∀ a S W2, bl S = [92, 120, hx (c / 16), hx (c % 16)] → R S W2 → Q .normal a W2) (z0 z1 z2 z5 z6 z7 z8 z9 z10 z11 z12 z13 z14 z15 z16 z17 z18 z19 z20 z21 z22 z23 z24 z25 z26 z27 z28 z29 z30 z31 z32 z33 z34 z35 z36 z37 z38 z39 z40 z41 z42 z43 z44 z45 z46 z47 z48 z49 z50 z51 z52 z53 z54 z55 z56 z57 z58 z59 z60 z61 z62 z63 z64 : Value) :
    C.wpIn (Fence.wide.inRound l) n Try.prog Q { tmps := #[z0, z1, z2, .pointer (some ⟨b, 0, none⟩), .string p, z5, z6, z7, z8, z9, z10, z11, z12, z13, z14, z15, z16, z17, z18, z19, z20, z21, z22, z23, z24, z25, z26, z27, z28, z29, z30, z31, z32, z33, z34, z35, z36, z37, z38, z39, z40, z41, z42, z43, z44, z45, z46, z47, z48, z49, z50, z51, z52, z53, z54, z55, z56, z57, z58, z59, z60, z61, z62, z63, z64], defers := [] } W := by
  have hc8 : c < 256 := by rw [← hp0]; exact (p[0]'(by omega)).toNat_lt
  have hps : (0 : Int) < (p.size : Int) := by omega
  obtain ⟨m, hm⟩ : ∃ m, c / 16 = m := ⟨_, rfl⟩
  obtain ⟨k, hk⟩ : ∃ k, c % 16 = k := ⟨_, rfl⟩
  have q1 : (c : Int) / 16 = (m : Int) := by omega
  have q2 : bits .and .u8 (c : Int) 15 = (k : Int) := by rw [and15 c hc8, hk]
  have hI1 := hex_run m (by omega)
  have hI2 := hex_run k (by omega)
  have hx1 := hx_lt (show m < 16 by omega)
  have hx2' := hx_lt (show k < 16 by omega)
  rw [hm, hk] at HQ
  obtain ⟨u, hu⟩ : ∃ u, hx m = u := ⟨_, rfl⟩
  obtain ⟨v, hv⟩ : ∃ v, hx k = v := ⟨_, rfl⟩
  rw [hu] at hI1 hx1
  rw [hv] at hI2 hx2'
  rw [hu, hv] at HQ
  have hmx : Try.prog.follows .mixedOrders = true := by kernel_rfl
  have kc := fun (W : World) => cv_row W #[.int .u8 (u : Int), .int .u8 (v : Int)] [(u : Int), (v : Int)] 2 2 rfl rfl
  have kd := fun (W : World) => cv_drew W #[.int .u8 (u : Int), .int .u8 (v : Int)] [(u : Int), (v : Int)] 2 2 rfl rfl
  have hT : bl (strOfNums [(u : Int), (v : Int)]) = [u, v] := bl_str rfl (Byt.cons hx1 (Byt.cons hx2' Byt.nil))
  obtain ⟨T, hTe⟩ : ∃ T, strOfNums [(u : Int), (v : Int)] = T := ⟨_, rfl⟩
  rw [hTe] at hT
  simp only [hTe] at kc kd
  have hTs : T.size = 2 := by rw [← bl_len, hT]; rfl
  have hadd : ∀ w, Sem.run Try.prog (Op.stringOp .add ⟨#[92, 120]⟩ T) w = Result.ok (.string (⟨#[92, 120]⟩ ++ T)) w := fun w => run_string_add_sum w ⟨#[92, 120]⟩ T (by have : (⟨#[92, 120]⟩ : ByteArray).size = 2 := rfl; omega)
  obtain ⟨S, hS⟩ : ∃ S, (⟨#[92, 120]⟩ : ByteArray) ++ T = S := ⟨_, rfl⟩
  rw [hS] at hadd
  have HS : Hid (bl S = [92, 120, u, v] ∧ S.size ≤ 1000000) := Lib.hid (by
    have h := bl_append ⟨#[92, 120]⟩ T
    rw [hS, hT] at h
    have h' := bl_len S
    rw [h] at h'
    exact ⟨h, by have : (bl ⟨#[92, 120]⟩ ++ [u, v]).length = 4 := rfl; omega⟩)
  have HQ' : Hid (∀ a W2, R S W2 → Q .normal a W2) := Lib.hid (fun a W2 h => HQ a S W2 HS.out.1 h)
  clear hm hk hu hv hc8 hTe hT hTs hS hx1 hx2' HQ
  cases hC
  dsimp only
  gi_region_with_o (refine ⟨trivial, fun h => (by cases h), ?_⟩; gi_at_call 35; refine (CallsIn.inRound l (callsIn_wide.2 (HWX.out _ S HS.out.2))).mono ?_; rintro e W2 ⟨rfl, hW2⟩)
  all_goals exact HQ'.out _ W2 hW2
end Go.Proofs.Ytbhhakobkpdadaa
