/- The law's awake: the chapter's examples. -/
import Derived.Test.YtjnnaafkdgoflaaRIs
namespace Go.Proofs.Ytjnnaafkdgoflaa
open Go.RowKit

theorem RowR.made (w : World) (e : TypeId) (l : List Rg) (cs : Array Value) (n : Nat) (h : cs = (cR l).toArray) (hn : l.length = n) : RowR (w.alloc (.cells cs e)) (w.alloc (.cells cs e)).heap.size (some ⟨w.heap.size, 0, none⟩) n l := by
  subst h
  refine ⟨hn, fun _ => ⟨w.heap.size, 0, rfl, by simp, fun j hj => ?_⟩⟩
  have hg := cR_get l j (by omega)
  have hs : (cR l).length = l.length * 2 := cR_len l
  constructor
  · rw [World.cell?_alloc_at _ _ _ _ (by simp), ← hg.1]
    simp
  · rw [World.cell?_alloc_at _ _ _ _ (by simp), ← hg.2]
    simp
/-- A set that is known, in new memory. -/
def LitOut (W : World) (n : Nat) (l : List Rg) (e : Ending) (w' : World) : Prop := ∃ A c, e = .returned (.slice A n c) ∧ RowR w' w'.heap.size A n l ∧ Below W.heap.size W w'
theorem LitOut.of {e0 : TypeId} {W W1 : World} {S : Int → Prop} {e : Ending} {w' : World} {n : Nat} {l : List Rg} (h : OutR e0 W1 S e w') (h0 : Of S l) (hn : l.length = n) (hb : Below W.heap.size W W1) : LitOut W n l e w' := by
  obtain ⟨A, c, l1, rfl, h1, o1, b1⟩ := h
  obtain rfl := Of.one h1 h0
  exact ⟨A, c, by rw [hn], by rw [← hn]; exact RowR.own o1, next hb b1⟩
theorem new_below (W : World) (o : Obj) : Below W.heap.size W (W.alloc o) := (Below.refl _ W).alloc (Nat.le_refl _) _
theorem is_lit (W : World) (A : Option Addr) (n m c : Nat) (s : List Rg) (hr : RowR W W.heap.size A n s) (cs : Array Value) (h : cs = (ints .i64 (flatZ s)).toArray) (hm : (flatZ s).length = m) (hn : n ≤ 1000) :
    Calls Try.prog 35 #[.slice A n c, .slice (some ⟨W.heap.size, 0, none⟩) m m] (W.alloc (.cells cs 3)) fun e w' => e = .returned (.bool true) ∧ Below W.heap.size W w' := by
  subst h
  refine (is_any A _ n m c m s (W.alloc (.cells (ints .i64 (flatZ s)).toArray 3)) (hr.on (new_below W _)) ?_ (by omega)).mono fun e w' ⟨h1, h2⟩ => ⟨h1, next (new_below W _) h2⟩
  have := Row.lit W .i64 (flatZ s) 3
  rw [hm] at this
  rw [World.size_alloc]
  exact this
theorem RowR.nil (W : World) : RowR W W.heap.size none 0 [] := ⟨rfl, fun h => by omega⟩
theorem lit1 : Of (has [(5, 7), (1, 2), (3, 4), (9, 8)]) [(1, 7)] := ⟨⟨by simp, by simp⟩, fun n => by simp [inR, has, isRn]; omega⟩
theorem aw1 (W : World) : Calls Try.prog 12 #[.slice (some ⟨W.heap.size, 0, none⟩) 4 4] (W.alloc (.cells #[.int .i64 5, .int .i64 7, .int .i64 1, .int .i64 2, .int .i64 3, .int .i64 4, .int .i64 9, .int .i64 8] 47)) (LitOut W 1 [(1, 7)]) :=
  (Of_any _ 4 4 [(5, 7), (1, 2), (3, 4), (9, 8)] _ (RowR.made W 47 _ _ _ rfl rfl) (by omega)).mono fun e w' h => LitOut.of h lit1 rfl (new_below W _)
theorem lit2 : Of (fun r => isRn r ∧ ¬ has [(0, 9)] r) [(10, 1114111)] := ⟨⟨by simp, by simp⟩, fun n => by simp [inR, has, isRn]; omega⟩
theorem aw2 (W : World) : Calls Try.prog 14 #[.slice (some ⟨W.heap.size, 0, none⟩) 1 1] (W.alloc (.cells #[.int .i64 0, .int .i64 9] 47)) (LitOut W 1 [(10, 1114111)]) :=
  (Not_any _ 1 1 [(0, 9)] _ (RowR.made W 47 _ _ _ rfl rfl) (by omega)).mono fun e w' h => LitOut.of h lit2 rfl (new_below W _)
theorem lit3 : Of (fun r => isRn r ∧ ¬ has [] r) [(0, 1114111)] := ⟨⟨by simp, by simp⟩, fun n => by simp [inR, has, isRn]⟩
theorem aw3 (W : World) : Calls Try.prog 14 #[.slice none 0 0] W (LitOut W 1 [(0, 1114111)]) :=
  (Not_any none 0 0 [] W (RowR.nil W) (by omega)).mono fun e w' h => LitOut.of h lit3 rfl (Below.refl _ _)
theorem lit4 : Of (fun r => isRn r ∧ ¬ has [(5, 1114111)] r) [(0, 4)] := ⟨⟨by simp, by simp⟩, fun n => by simp [inR, has, isRn]; omega⟩
theorem aw4 (W : World) : Calls Try.prog 14 #[.slice (some ⟨W.heap.size, 0, none⟩) 1 1] (W.alloc (.cells #[.int .i64 5, .int .i64 1114111] 47)) (LitOut W 1 [(0, 4)]) :=
  (Not_any _ 1 1 [(5, 1114111)] _ (RowR.made W 47 _ _ _ rfl rfl) (by omega)).mono fun e w' h => LitOut.of h lit4 rfl (new_below W _)
theorem lit5 : Of (fun r => has [(1, 5), (7, 9)] r ∧ has [(4, 8)] r) [(4, 5), (7, 8)] := ⟨⟨by simp, by simp⟩, fun n => by simp [inR, has, isRn]; omega⟩
theorem aw5 (W : World) : Calls Try.prog 24 #[.slice (some ⟨W.heap.size, 0, none⟩) 2 2, .slice (some ⟨W.heap.size + 1, 0, none⟩) 1 1] ((W.alloc (.cells #[.int .i64 1, .int .i64 5, .int .i64 7, .int .i64 9] 47)).alloc (.cells #[.int .i64 4, .int .i64 8] 47)) (LitOut W 2 [(4, 5), (7, 8)]) := by
  have h1 := RowR.made W 47 [(1, 5), (7, 9)] #[.int .i64 1, .int .i64 5, .int .i64 7, .int .i64 9] 2 rfl rfl
  have h2 := RowR.made (W.alloc (.cells #[.int .i64 1, .int .i64 5, .int .i64 7, .int .i64 9] 47)) 47 [(4, 8)] #[.int .i64 4, .int .i64 8] 1 rfl rfl
  have hs : (W.alloc (.cells #[.int .i64 1, .int .i64 5, .int .i64 7, .int .i64 9] 47)).heap.size = W.heap.size + 1 := World.size_alloc _ _
  rw [show (some ⟨(W.alloc (.cells #[.int .i64 1, .int .i64 5, .int .i64 7, .int .i64 9] 47)).heap.size, 0, none⟩ : Option Addr) = some ⟨W.heap.size + 1, 0, none⟩ by rw [hs]] at h2
  exact (Both_any _ _ 2 1 2 1 [(1, 5), (7, 9)] [(4, 8)] _ (h1.on (new_below _ _)) h2 (by omega) (by omega)).mono fun e w' h => LitOut.of h lit5 rfl (next (new_below W _) (new_below _ _))
theorem lit6 : Of (has ([[(1, 2)], [(4, 4)], [(3, 3)]] : List (List Rg)).flatten) [(1, 4)] := ⟨⟨by simp, by simp⟩, fun n => by simp [inR, has, isRn]; omega⟩
theorem aw6 (W : World) : Calls Try.prog 23 #[.slice (some ⟨W.heap.size + 1 + 1 + 1, 0, none⟩) 3 3] ((((W.alloc (.cells #[.int .i64 1, .int .i64 2] 47)).alloc (.cells #[.int .i64 4, .int .i64 4] 47)).alloc (.cells #[.int .i64 3, .int .i64 3] 47)).alloc (.cells #[.slice (some ⟨W.heap.size, 0, none⟩) 1 1, .slice (some ⟨W.heap.size + 1, 0, none⟩) 1 1, .slice (some ⟨W.heap.size + 1 + 1, 0, none⟩) 1 1] 24)) (LitOut W 1 [(1, 4)]) := by
  have h1 := RowR.made W 47 [(1, 2)] #[.int .i64 1, .int .i64 2] 1 rfl rfl
  have h2 := RowR.made (W.alloc (.cells #[.int .i64 1, .int .i64 2] 47)) 47 [(4, 4)] #[.int .i64 4, .int .i64 4] 1 rfl rfl
  have h3 := RowR.made ((W.alloc (.cells #[.int .i64 1, .int .i64 2] 47)).alloc (.cells #[.int .i64 4, .int .i64 4] 47)) 47 [(3, 3)] #[.int .i64 3, .int .i64 3] 1 rfl rfl
  have s1 : (W.alloc (.cells #[.int .i64 1, .int .i64 2] 47)).heap.size = W.heap.size + 1 := World.size_alloc _ _
  have s2 : ((W.alloc (.cells #[.int .i64 1, .int .i64 2] 47)).alloc (.cells #[.int .i64 4, .int .i64 4] 47)).heap.size = W.heap.size + 1 + 1 := by rw [World.size_alloc, s1]
  have s3 : (((W.alloc (.cells #[.int .i64 1, .int .i64 2] 47)).alloc (.cells #[.int .i64 4, .int .i64 4] 47)).alloc (.cells #[.int .i64 3, .int .i64 3] 47)).heap.size = W.heap.size + 1 + 1 + 1 := by rw [World.size_alloc, s2]
  have b1 := new_below W (.cells #[.int .i64 1, .int .i64 2] 47)
  have b2 := new_below (W.alloc (.cells #[.int .i64 1, .int .i64 2] 47)) (.cells #[.int .i64 4, .int .i64 4] 47)
  have b3 := new_below ((W.alloc (.cells #[.int .i64 1, .int .i64 2] 47)).alloc (.cells #[.int .i64 4, .int .i64 4] 47)) (.cells #[.int .i64 3, .int .i64 3] 47)
  generalize W.alloc (.cells #[.int .i64 1, .int .i64 2] 47) = W1 at *
  generalize W1.alloc (.cells #[.int .i64 4, .int .i64 4] 47) = W2 at *
  generalize W2.alloc (.cells #[.int .i64 3, .int .i64 3] 47) = W3 at *
  rw [s1] at h2
  rw [s2] at h3
  have h1' := (h1.on b2).on b3
  have h2' := h2.on b3
  rw [← s3]
  have hb := new_below W3 (.cells #[.slice (some ⟨W.heap.size, 0, none⟩) 1 1, .slice (some ⟨W.heap.size + 1, 0, none⟩) 1 1, .slice (some ⟨W.heap.size + 1 + 1, 0, none⟩) 1 1] 24)
  have hs : SetsR (W3.alloc (.cells #[.slice (some ⟨W.heap.size, 0, none⟩) 1 1, .slice (some ⟨W.heap.size + 1, 0, none⟩) 1 1, .slice (some ⟨W.heap.size + 1 + 1, 0, none⟩) 1 1] 24)) (W3.alloc (.cells #[.slice (some ⟨W.heap.size, 0, none⟩) 1 1, .slice (some ⟨W.heap.size + 1, 0, none⟩) 1 1, .slice (some ⟨W.heap.size + 1 + 1, 0, none⟩) 1 1] 24)).heap.size (some ⟨W3.heap.size, 0, none⟩) 3 [[(1, 2)], [(4, 4)], [(3, 3)]] := by
    refine ⟨rfl, fun _ => ⟨W3.heap.size, 0, rfl, by simp, fun j hj => ?_⟩⟩
    match j, hj with
    | 0, _ => exact ⟨_, 1, 1, by rw [World.cell?_alloc_at _ _ _ _ (by simp)]; rfl, h1'.on hb⟩
    | 1, _ => exact ⟨_, 1, 1, by rw [World.cell?_alloc_at _ _ _ _ (by simp)]; rfl, h2'.on hb⟩
    | 2, _ => exact ⟨_, 1, 1, by rw [World.cell?_alloc_at _ _ _ _ (by simp)]; rfl, h3.on hb⟩
  exact (Join_any _ 3 3 _ _ hs (by omega) (by simp)).mono fun e w' h => LitOut.of h lit6 rfl (next (next (next b1 b2) b3) hb)
set_option maxRecDepth 100000 in
set_option maxHeartbeats 4000000 in
theorem awake_any (w : World) : Calls Try.prog 22 #[] w fun e w' => e = .returned (.bool true) ∧ Below w.heap.size w w' := by
  have HB0 : Hid (Below w.heap.size w w) := Lib.hid (Below.refl _ _)
  go_enter Try.func22, Try.ntmps22
  go_wp2_with fail
  with_reducible refine (aw1 w).mono ?_
  rintro e v1 ⟨A1, c1, rfl, hr1, b1⟩
  have HI1 := Lib.hid (is_lit v1 A1 1 2 c1 [(1, 7)] hr1 #[.int .i64 1, .int .i64 7] rfl rfl (by omega))
  have HV1 := Lib.hid (next HB0.out b1)
  clear hr1 b1 HB0
  go_wp2_with fail
  with_reducible refine HI1.out.mono ?_
  rintro e w1 ⟨rfl, b1⟩
  have HB1 := Lib.hid (next HV1.out b1)
  clear b1 HV1 HI1
  go_wp2_with fail
  with_reducible refine (aw2 w1).mono ?_
  rintro e v2 ⟨A2, c2, rfl, hr2, b2⟩
  have HI2 := Lib.hid (is_lit v2 A2 1 2 c2 [(10, 1114111)] hr2 #[.int .i64 10, .int .i64 1114111] rfl rfl (by omega))
  have HV2 := Lib.hid (next HB1.out b2)
  clear hr2 b2 HB1
  go_wp2_with fail
  with_reducible refine HI2.out.mono ?_
  rintro e w2 ⟨rfl, b2⟩
  have HB2 := Lib.hid (next HV2.out b2)
  clear b2 HV2 HI2
  go_wp2_with fail
  with_reducible refine (aw3 w2).mono ?_
  rintro e v3 ⟨A3, c3, rfl, hr3, b3⟩
  have HI3 := Lib.hid (is_lit v3 A3 1 2 c3 [(0, 1114111)] hr3 #[.int .i64 0, .int .i64 1114111] rfl rfl (by omega))
  have HV3 := Lib.hid (next HB2.out b3)
  clear hr3 b3 HB2
  go_wp2_with fail
  with_reducible refine HI3.out.mono ?_
  rintro e w3 ⟨rfl, b3⟩
  have HB3 := Lib.hid (next HV3.out b3)
  clear b3 HV3 HI3
  go_wp2_with fail
  with_reducible refine (aw4 w3).mono ?_
  rintro e v4 ⟨A4, c4, rfl, hr4, b4⟩
  have HI4 := Lib.hid (is_lit v4 A4 1 2 c4 [(0, 4)] hr4 #[.int .i64 0, .int .i64 4] rfl rfl (by omega))
  have HV4 := Lib.hid (next HB3.out b4)
  clear hr4 b4 HB3
  go_wp2_with fail
  with_reducible refine HI4.out.mono ?_
  rintro e w4 ⟨rfl, b4⟩
  have HB4 := Lib.hid (next HV4.out b4)
  clear b4 HV4 HI4
  go_wp2_with fail
  with_reducible refine (aw5 w4).mono ?_
  rintro e v5 ⟨A5, c5, rfl, hr5, b5⟩
  have HI5 := Lib.hid (is_lit v5 A5 2 4 c5 [(4, 5), (7, 8)] hr5 #[.int .i64 4, .int .i64 5, .int .i64 7, .int .i64 8] rfl rfl (by omega))
  have HV5 := Lib.hid (next HB4.out b5)
  clear hr5 b5 HB4
  go_wp2_with fail
  with_reducible refine HI5.out.mono ?_
  rintro e w5 ⟨rfl, b5⟩
  have HB5 := Lib.hid (next HV5.out b5)
  clear b5 HV5 HI5
  go_wp2_with fail
  with_reducible refine (aw6 w5).mono ?_
  rintro e v6 ⟨A6, c6, rfl, hr6, b6⟩
  have HI6 := Lib.hid (is_lit v6 A6 1 2 c6 [(1, 4)] hr6 #[.int .i64 1, .int .i64 4] rfl rfl (by omega))
  have HV6 := Lib.hid (next HB5.out b6)
  clear hr6 b6 HB5
  go_wp2_with fail
  with_reducible refine HI6.out.mono ?_
  rintro e w6 ⟨rfl, b6⟩
  have HB6 := Lib.hid (next HV6.out b6)
  clear b6 HV6 HI6
  go_wp2_with fail
  go_ret
  exact ⟨rfl, HB6.out⟩
end Go.Proofs.Ytjnnaafkdgoflaa
