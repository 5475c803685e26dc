/- The document's Key. -/
import Derived.Test.YtdmflofdchmfhaaGreatDoorLZName
import Derived.Test.YtdmflofdchmfhaaGreatDoorLKey
import Derived.Test.YtdmflofdchmfhaaGreatDoorNatA
namespace Go.Proofs.YtdmflofdchmfhaaGreatDoor
open Go.RowKit Go.Shelf Go.Lib

theorem add_runZ (a b S : ByteArray) (h : a ++ b = S) (hs : a.size + b.size ≤ 1000000000) : ∀ w, Sem.run Tryz.prog (Op.stringOp .add a b) w = Result.ok (.string S) w := fun w => by
  rw [run_string_add_sum w a b (by omega), h]
theorem decZ_len (n : Nat) (h : n ≤ 2000000) : (Lib.decDigits n).length ≤ 7 := by
  have one : ∀ m, m < 10 → (Lib.decDigits m).length = 1 := fun m hm => by rw [Lib.decDigits, dif_pos hm]; rfl
  have step : ∀ m k, (Lib.decDigits (m / 10)).length ≤ k → (Lib.decDigits m).length ≤ k + 1 := fun m k hk => by
    by_cases hm : m < 10
    · rw [one m hm]; omega
    · rw [Lib.decDigits, dif_neg hm, List.length_append]
      simpa using hk
  refine step n 6 (step _ 5 (step _ 4 (step _ 3 (step _ 2 (step _ 1 ?_)))))
  rw [one _ (by omega)]
  omega
set_option maxRecDepth 100000 in
set_option maxHeartbeats 4000000 in
theorem counted_any (s : ByteArray) (hs : s.size ≤ 2000000) (w : World) : Calls Tryz.prog 49 #[.string s] w fun e w' => e = .returned (.string (partS s)) ∧ Below w.heap.size w w' := by
  obtain ⟨n, hn⟩ : ∃ n, s.size = n := ⟨_, rfl⟩
  have hlm : (limbs n).length ≤ 2 := limbs_len (by omega)
  have hck : chk (limbs n) = 0 := chk_limbs (by omega)
  obtain ⟨m, hm⟩ : ∃ m, (limbs n).length = m := ⟨_, rfl⟩
  have HO := Lib.hid (newK m (show Calls Tryz.prog 67 #[.int .u64 (n : Int)] w (New w (limbs n)) from by have k := rOf_any (n : Int) w (by omega) (by omega); rwa [Int.toNat_natCast] at k) hm)
  have HT : Hid (rTextL (limbs n) = Lib.decDigits n) := Lib.hid (by rw [rTextL, if_pos hck, val_limbs])
  have HC := Lib.hid hck
  obtain ⟨d, hd⟩ : ∃ d : ByteArray, (⟨(Lib.decDigits n).toArray⟩ : ByteArray) = d := ⟨_, rfl⟩
  have hd7 : d.size ≤ 7 := by rw [← hd]; show (Lib.decDigits n).toArray.size ≤ 7; rw [List.size_toArray]; exact decZ_len n (by omega)
  obtain ⟨d2, hd2⟩ : ∃ d2, d ++ ⟨#[58]⟩ = d2 := ⟨_, rfl⟩
  have hd8 : d2.size ≤ 8 := by rw [← hd2, ByteArray.size_append]; have : (ByteArray.mk #[58]).size = 1 := rfl; omega
  obtain ⟨p, hp⟩ : ∃ p, partS s = p := ⟨_, rfl⟩
  have a1 := add_runZ d ⟨#[58]⟩ d2 hd2 (by have : (ByteArray.mk #[58]).size = 1 := rfl; omega)
  have a2 := add_runZ d2 s p (by rw [← hp, ← hd2, ← hd, ← hn]; rfl) (by omega)
  have HDd := Lib.hid hd
  have wu : IntKind.u64.wrap (n : Int) = (n : Int) := by simp [IntKind.wrap, IntKind.signed, IntKind.bits]; omega
  rw [hp]
  clear hlm hck hm hd hd2 hp hd7 hd8
  go_enter Tryz.func49, Tryz.ntmps49
  go_wp2_with fail
  with_reducible refine HO.out.mono ?_
  rintro e w1 ⟨A, c, rfl, r, b⟩
  have HB := Lib.hid b
  have C := rText_any A m c (limbs n) w1 r (lim_limbs n)
  rw [HT.out, HDd.out, HC.out] at C
  replace C := Lib.hid C
  clear r b
  go_wp2_with fail
  with_reducible refine C.out.mono ?_
  rintro e w2 ⟨rfl, b⟩
  have HB2 := Lib.hid (next HB.out b)
  clear b C
  go_wp2_with fail
  go_ret
  exact ⟨rfl, HB2.out⟩
end Go.Proofs.YtdmflofdchmfhaaGreatDoor
