/- The chapter's examples: works. -/
import Derived.Test.YtlpfcilgndbopaaDoorNWorksMath
import Derived.Deep.RegionHeld3
namespace Go.Proofs.YtlpfcilgndbopaaDoor
open Go.RowKit

theorem newK {f : Nat} {args : Array Value} {w : World} {l : List Int} (m : Nat) (h : Calls Tryd.prog f args w (New w l)) (hm : l.length = m) :
    Calls Tryd.prog f args w fun e w' => ∃ A c, e = .returned (.slice A m c) ∧ Row w' w'.heap.size A m (ints .u32 l) ∧ Below w.heap.size w w' := by
  subst hm
  refine h.mono ?_
  rintro e w' ⟨A, c, rfl, o, b⟩
  exact ⟨A, c, rfl, Row.own o, b⟩
theorem outK {f : Nat} {args : Array Value} {w : World} {l l' : List Int} {x x' : Int} (m : Nat) (hx : x' = x ∧ l' = l) (h : Calls Tryd.prog f args w (AddOut w l' x')) (hm : l.length = m) :
    Calls Tryd.prog f args w fun e w' => ∃ A c, e = .returned (.tuple #[.slice A m c, .int .i64 x]) ∧ Row w' w'.heap.size A m (ints .u32 l) ∧ Below w.heap.size w w' := by
  obtain ⟨rfl, rfl⟩ := hx
  subst hm
  refine h.mono ?_
  rintro e w' ⟨A, c, rfl, o, b⟩
  exact ⟨A, c, rfl, Row.own o, b⟩
theorem divK {f : Nat} {args : Array Value} {w : World} {q r q' r' : List Int} {x x' : Int} (m k : Nat) (hx : x' = x ∧ q' = q ∧ r' = r) (h : Calls Tryd.prog f args w (DivOut w q' r' x')) (hm : q.length = m) (hk : r.length = k) :
    Calls Tryd.prog f args w fun e w' => ∃ A c A' c', e = .returned (.tuple #[.slice A m c, .slice A' k c', .int .i64 x]) ∧ Row w' w'.heap.size A m (ints .u32 q) ∧ Row w' w'.heap.size A' k (ints .u32 r) ∧ Below w.heap.size w w' := by
  obtain ⟨rfl, rfl, rfl⟩ := hx
  subst hm hk
  refine h.mono ?_
  rintro e w' ⟨A, c, A', c', rfl, o, o', b⟩
  exact ⟨A, c, A', c', rfl, Row.own o, Row.own o', b⟩
theorem ofK (n : Int) (l : List Int) (m : Nat) (w : World) (hl : limbs n.toNat = l) (hm : l.length = m) (h0 : 0 ≤ n) (h1 : n ≤ 18446744073709551615) :
    Calls Tryd.prog 22 #[.int .u64 n] w fun e w' => ∃ A c, e = .returned (.slice A m c) ∧ Row w' w'.heap.size A m (ints .u32 l) ∧ Below w.heap.size w w' := by
  subst hl
  exact newK m (Of_any n w h0 h1) hm
theorem Row.grew {w : World} {A : Option Addr} {n : Nat} {xs : List Value} (h : Row w w.heap.size A n xs) (o : Obj) : Row (w.alloc o) (w.alloc o).heap.size A n xs := h.on ((Below.refl _ w).alloc (Nat.le_refl _) o)
theorem Row.lits (w : World) (e : TypeId) (C : Array Value) (n : Nat) (xs : List Value) (hC : C.toList = xs) (hn : xs.length = n) : Row (w.alloc (.cells C e)) (w.alloc (.cells C e)).heap.size (some ⟨w.heap.size, 0, none⟩) n xs := by
  subst hC hn
  refine ⟨rfl, fun _ => ⟨w.heap.size, 0, rfl, by show _ < (w.heap.push _).size; rw [Array.size_push]; omega, fun j hj => ?_⟩⟩
  rw [World.cell?_alloc_at _ _ _ _ (by simp), Nat.zero_add, Array.getElem?_toList]
theorem next_alloc {w a b : World} {o : Obj} (h : Below w.heap.size w a) (k : Below (a.alloc o).heap.size (a.alloc o) b) : Below w.heap.size w b := next (h.alloc h.size o) k
theorem on_alloc {w a : World} {A : Option Addr} {n : Nat} {xs : List Value} {o : Obj} (h : Row w w.heap.size A n xs) (k : Below (w.alloc o).heap.size (w.alloc o) a) : Row a a.heap.size A n xs := (h.grew o).on k
theorem limK {n : Int} {l : List Int} (hl : limbs n.toNat = l) : Lim l := hl ▸ lim_limbs _
theorem l1 : limbs (1 : Int).toNat = [1] := limbs_small (by decide) (by decide)
theorem l2 : limbs (2 : Int).toNat = [2] := limbs_small (by decide) (by decide)
theorem l7 : limbs (7 : Int).toNat = [7] := limbs_small (by decide) (by decide)
theorem l12 : limbs (12 : Int).toNat = [12] := limbs_small (by decide) (by decide)
theorem l18 : limbs (18 : Int).toNat = [18] := limbs_small (by decide) (by decide)
theorem l100 : limbs (100 : Int).toNat = [100] := limbs_small (by decide) (by decide)
theorem lbig : limbs (4294967296 : Int).toNat = [0, 1] := limbs_big
theorem l0 : limbs (0 : Int).toNat = [] := limbs_zero

set_option maxRecDepth 100000 in
set_option maxHeartbeats 2000000 in
theorem works_any (w : World) (ht : Tab w) :
    Calls Tryd.prog 29 #[] w fun e w' => e = .returned (.bool true) ∧ Below w.heap.size w w' := by
  have HT := Lib.hid ht
  clear ht
  go_enter Tryd.func29, Tryd.ntmps29
  go_wp2_with fail
  with_reducible refine (ofK 1 [1] 1 w l1 rfl (by decide) (by decide)).mono ?_
  rintro e w1 ⟨A1, c1, rfl, r1, b1⟩
  go_wp2_with fail
  with_reducible refine (ofK 4294967296 [0, 1] 2 w1 lbig rfl (by decide) (by decide)).mono ?_
  rintro e w2 ⟨A2, c2, rfl, r2, b2⟩
  replace r1 := r1.on b2
  replace b2 := next b1 b2
  have hT := Text_any A2 2 c2 [0, 1] w2 r2 (limK lbig) (HT.out.below b2)
  rw [text_big, show chk [0, 1] = 0 by decide] at hT
  have HTx := Lib.hid hT
  clear hT
  go_wp2_with fail
  with_reducible refine HTx.out.mono ?_
  rintro e w3 ⟨rfl, b3⟩
  replace r1 := r1.on b3
  replace r2 := r2.on b3
  replace b3 := next b2 b3
  go_wp2_with fail
  with_reducible refine (outK 1 sub_big (Sub_any A2 A1 2 c2 1 c1 [0, 1] [1] w3 r2 r1 (limK lbig) (limK l1)) rfl).mono ?_
  rintro e w4 ⟨A4, c4, rfl, r4, b4⟩
  replace r1 := r1.on b4
  replace r2 := r2.on b4
  replace b4 := next b3 b4
  go_wp2_with fail
  with_reducible refine (ofK 100 [100] 1 w4 l100 rfl (by decide) (by decide)).mono ?_
  rintro e w5 ⟨A5, c5, rfl, r5, b5⟩
  replace r1 := r1.on b5
  replace r2 := r2.on b5
  replace r4 := r4.on b5
  replace b5 := next b4 b5
  go_wp2_with fail
  with_reducible refine (ofK 7 [7] 1 w5 l7 rfl (by decide) (by decide)).mono ?_
  rintro e w6 ⟨A6, c6, rfl, r6, b6⟩
  replace r1 := r1.on b6
  replace r2 := r2.on b6
  replace r4 := r4.on b6
  replace r5 := r5.on b6
  replace b6 := next b5 b6
  go_wp2_with fail
  with_reducible refine (divK 1 1 div_hundred (Div_any A5 A6 1 c5 1 c6 [100] [7] w6 r5 r6 (limK l100) (limK l7)) rfl rfl).mono ?_
  rintro e w7 ⟨A7, c7, A8, c8, rfl, r7, r8, b7⟩
  replace r1 := r1.on b7
  replace r2 := r2.on b7
  replace r4 := r4.on b7
  replace b7 := next b6 b7
  go_wp2_with fail
  clear r5 r6
  with_reducible refine (ofK 12 [12] 1 w7 l12 rfl (by decide) (by decide)).mono ?_
  rintro e w8 ⟨A9, c9, rfl, r9, b8⟩
  replace r1 := r1.on b8
  replace r2 := r2.on b8
  replace r4 := r4.on b8
  replace r7 := r7.on b8
  replace r8 := r8.on b8
  replace b8 := next b7 b8
  go_wp2_with fail
  with_reducible refine (ofK 18 [18] 1 w8 l18 rfl (by decide) (by decide)).mono ?_
  rintro e w9 ⟨A10, c10, rfl, r10, b9⟩
  replace r1 := r1.on b9
  replace r2 := r2.on b9
  replace r4 := r4.on b9
  replace r7 := r7.on b9
  replace r8 := r8.on b9
  replace r9 := r9.on b9
  replace b9 := next b8 b9
  go_wp2_with fail
  with_reducible refine (outK 1 gcd_twelve (Gcd_any A9 A10 1 c9 1 c10 [12] [18] w9 r9 r10 (limK l12) (limK l18)) rfl).mono ?_
  rintro e w10 ⟨A11, c11, rfl, r11, b10⟩
  replace r1 := r1.on b10
  replace r2 := r2.on b10
  replace r4 := r4.on b10
  replace r7 := r7.on b10
  replace r8 := r8.on b10
  replace b10 := next b9 b10
  go_wp2_with fail
  clear r9 r10
  with_reducible refine (outK 0 read_zeros (Read_any ⟨#[48, 48, 55]⟩ [48, 48, 55] rfl w10) rfl).mono ?_
  rintro e w11 ⟨A12, c12, rfl, r12, b11⟩
  replace r1 := r1.on b11
  replace r2 := r2.on b11
  replace r4 := r4.on b11
  replace r7 := r7.on b11
  replace r8 := r8.on b11
  replace r11 := r11.on b11
  replace b11 := next b10 b11
  go_wp2_with fail
  with_reducible refine (outK 0 read_empty (Read_any ⟨#[]⟩ [] rfl w11) rfl).mono ?_
  rintro e w12 ⟨A13, c13, rfl, r13, b12⟩
  replace r1 := r1.on b12
  replace r2 := r2.on b12
  replace r4 := r4.on b12
  replace r7 := r7.on b12
  replace r8 := r8.on b12
  replace r11 := r11.on b12
  replace b12 := next b11 b12
  go_wp2_with fail
  with_reducible refine (ofK 2 [2] 1 w12 l2 rfl (by decide) (by decide)).mono ?_
  rintro e w13 ⟨A14, c14, rfl, r14, b13⟩
  replace r1 := r1.on b13
  replace r2 := r2.on b13
  replace r4 := r4.on b13
  replace r7 := r7.on b13
  replace r8 := r8.on b13
  replace r11 := r11.on b13
  replace b13 := next b12 b13
  go_wp2_with fail
  with_reducible refine (outK 0 sub_less (Sub_any A1 A14 1 c1 1 c14 [1] [2] w13 r1 r14 (limK l1) (limK l2)) rfl).mono ?_
  rintro e w14 ⟨A15, c15, rfl, r15, b14⟩
  replace r1 := r1.on b14
  replace r2 := r2.on b14
  replace r4 := r4.on b14
  replace r7 := r7.on b14
  replace r8 := r8.on b14
  replace r11 := r11.on b14
  replace b14 := next b13 b14
  go_wp2_with fail
  with_reducible refine (divK 0 0 div_nil (Div_any A1 none 1 c1 0 0 [1] [] w14 r1 (Row.zero _ _ _) (limK l1) Lim.nil) rfl rfl).mono ?_
  rintro e w15 ⟨A16, c16, A17, c17, rfl, r16, r17, b15⟩
  replace r2 := r2.on b15
  replace r4 := r4.on b15
  replace r7 := r7.on b15
  replace r8 := r8.on b15
  replace r11 := r11.on b15
  replace b15 := next b14 b15
  go_wp2_with fail
  clear r1 r12 r13 r14 r15 r16 r17 b1 b2 b3 b4 b5 b6 b7 b8 b9 b10 b11 b12 b13 b14
  with_reducible refine (ofK 0 [] 0 w15 l0 rfl (by decide) (by decide)).mono ?_
  rintro e w16 ⟨A18, c18, rfl, r18, b16⟩
  replace r2 := r2.on b16
  replace r4 := r4.on b16
  replace r7 := r7.on b16
  replace r8 := r8.on b16
  replace r11 := r11.on b16
  replace b16 := next b15 b16
  clear b15 r18
  go_wp2_with fail
  with_reducible refine (same_any A2 (some ⟨w16.heap.size, 0, none⟩) 2 2 c2 2 _ _ [0, 1] [0, 1] _ (r2.grew _) (Row.lits w16 34 #[.int .u32 0, .int .u32 1] 2 _ rfl rfl) (by decide)).mono ?_
  rintro e w17 ⟨rfl, b17⟩
  replace r4 := on_alloc r4 b17
  replace r7 := on_alloc r7 b17
  replace r8 := on_alloc r8 b17
  replace r11 := on_alloc r11 b17
  replace b17 := next_alloc b16 b17
  go_wp2_with fail
  with_reducible refine (is_ok A4 (some ⟨w17.heap.size, 0, none⟩) 1 c4 1 1 _ _ [4294967295] [4294967295] _ (r4.grew _) (Row.lits w17 34 #[.int .u32 4294967295] 1 _ rfl rfl) (by decide)).mono ?_
  rintro e w18 ⟨rfl, b18⟩
  replace r7 := on_alloc r7 b18
  replace r8 := on_alloc r8 b18
  replace r11 := on_alloc r11 b18
  replace b18 := next_alloc b17 b18
  go_wp2_with fail
  with_reducible refine (is_ok A7 (some ⟨w18.heap.size, 0, none⟩) 1 c7 1 1 _ _ [14] [14] _ (r7.grew _) (Row.lits w18 34 #[.int .u32 14] 1 _ rfl rfl) (by decide)).mono ?_
  rintro e w19 ⟨rfl, b19⟩
  replace r8 := on_alloc r8 b19
  replace r11 := on_alloc r11 b19
  replace b19 := next_alloc b18 b19
  go_wp2_with fail
  with_reducible refine (same_any A8 (some ⟨w19.heap.size, 0, none⟩) 1 1 c8 1 _ _ [2] [2] _ (r8.grew _) (Row.lits w19 34 #[.int .u32 2] 1 _ rfl rfl) (by decide)).mono ?_
  rintro e w20 ⟨rfl, b20⟩
  replace r11 := on_alloc r11 b20
  replace b20 := next_alloc b19 b20
  go_wp2_with fail
  with_reducible refine (is_ok A11 (some ⟨w20.heap.size, 0, none⟩) 1 c11 1 1 _ _ [6] [6] _ (r11.grew _) (Row.lits w20 34 #[.int .u32 6] 1 _ rfl rfl) (by decide)).mono ?_
  rintro e w21 ⟨rfl, b21⟩
  replace b21 := next_alloc b20 b21
  go_wp2_with fail
  go_ret
  exact ⟨rfl, b21⟩
end Go.Proofs.YtlpfcilgndbopaaDoor
