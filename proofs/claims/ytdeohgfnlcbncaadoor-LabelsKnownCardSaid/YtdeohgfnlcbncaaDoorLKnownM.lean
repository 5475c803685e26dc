/- LabelsKnown: the mathematics. -/
import Derived.Test.YtdeohgfnlcbncaaDoorLPartM
namespace Go.Proofs.YtdeohgfnlcbncaaDoor
open Go.RowKit Go.Shelf Go.Lib

def repB (c : UInt8) (z : Nat) : ByteArray := ⟨(List.replicate z c).toArray⟩
theorem repB_eq (c : UInt8) (z : Nat) : (⟨(Lib.repeatL (ByteArray.mk #[c]).data.toList z).toArray⟩ : ByteArray) = repB c z := by
  unfold repB
  refine congrArg (fun l : List UInt8 => ByteArray.mk l.toArray) ?_
  induction z with
  | zero => rfl
  | succ n ih => rw [Lib.repeatL, ih, List.replicate_succ]; rfl
theorem repB_size (c : UInt8) (z : Nat) : (repB c z).size = z := by
  show (List.replicate z c).toArray.size = z
  simp
theorem repeat_any (c : UInt8) (z : Nat) (Z : Int) (h : (z : Int) = Z) (hz : z ≤ 100000) (W : World) : Calls Tryd.prog 29 #[.string ⟨#[c]⟩, .int .i64 Z] W fun e w' => e = .returned (.string (repB c z)) ∧ Below W.heap.size W w' := by
  have k := Tryd.strings_Repeat ⟨#[c]⟩ z W (by omega) (by show 1 * z ≤ _; omega)
  rwa [repB_eq, h] at k
theorem isn (s : ByteArray) (q : Bool) (h : nmS s = q) (W : World) : Calls Tryd.prog 32 #[.string s] W fun e w' => e = .returned (.bool q) ∧ Below W.heap.size W w' := by
  have k := IsName_any s W
  rwa [h] at k
theorem add_runL (a b S : ByteArray) (h : a ++ b = S) (hs : a.size + b.size ≤ 1000000) : ∀ w, Sem.run Tryd.prog (Op.stringOp .add a b) w = Result.ok (.string S) w := fun w => by
  rw [run_string_add_sum w a b (by omega), h]
theorem repB_bl (c : UInt8) (z : Nat) : bl (repB c z) = List.replicate z c.toNat := by
  unfold repB bl
  simp
/-! Names. -/
theorem n64 : nmS (repB 110 64) = true := by unfold nmS; rw [repB_bl]; rfl
theorem add65 : repB 110 64 ++ ⟨#[110]⟩ = repB 110 65 := bl_inj (by rw [bl_append, repB_bl, repB_bl]; rfl)
theorem n65 : nmS (repB 110 65) = false := by unfold nmS; rw [repB_bl]; rfl
theorem n9Z : nmS ⟨#[95, 57, 90]⟩ = true := by rfl
theorem n9 : nmS ⟨#[57]⟩ = false := by rfl
theorem n0 : nmS ⟨#[]⟩ = false := by rfl
theorem nab : nmS ⟨#[97, 45, 98]⟩ = false := by rfl
theorem ne9 : nmS ⟨#[195, 169]⟩ = false := by rfl
theorem nadb : nmS ⟨#[97, 46, 98]⟩ = false := by rfl
/-! The full set. -/
def XV : ByteArray := repB 120 256
def fullTo (k : Nat) : List Lb := (List.range k).map fun i => (nmI i, XV)
theorem full_len (k : Nat) : (fullTo k).length = k := by simp [fullTo]
theorem full_snoc (k : Nat) : fullTo (k + 1) = fullTo k ++ [(nmI k, XV)] := by simp [fullTo, List.range_succ]
theorem full_take : (fullTo 17).take 16 = fullTo 16 := by rfl
theorem nmI_lt2 {i j : Nat} (h : i < j) (hj : j < 100) : lt (nmI i) (nmI j) := by
  rw [lt_data]
  unfold nmI ofl
  simp only [List.map_cons, List.map_nil]
  refine List.cons_lt_cons_iff.2 (.inl ?_)
  rw [UInt8.lt_iff_toNat_lt, UInt8.toNat_ofNat', UInt8.toNat_ofNat', Nat.mod_eq_of_lt (by omega), Nat.mod_eq_of_lt (by omega)]
  omega
theorem xv_ne : XV ≠ ByteArray.empty := fun e => by
  have h := repB_size 120 256
  rw [show repB 120 256 = ByteArray.empty from e] at h
  exact absurd h (by decide)
theorem full_ord : ∀ k, k ≤ 17 → Ord (fullTo k)
  | 0, _ => Ord.nil
  | k + 1, hk => by
    rw [full_snoc]
    refine (full_ord k (by omega)).snoc xv_ne fun y hy => ?_
    obtain ⟨i, hi, rfl⟩ := List.mem_map.1 hy
    exact nmI_lt2 (List.mem_range.1 hi) (by omega)
theorem nm_low {i : Nat} (h : i < 26) : nmS (nmI i) = true := by
  unfold nmS nmI
  rw [bl_ofl (Byt.cons (by omega) Byt.nil)]
  unfold nameB
  simp only [List.headD_cons, List.all_cons, List.all_nil, List.length_cons, List.length_nil, Bool.and_true]
  unfold digC prtC digC
  simp
  omega
theorem full_chk : chkL nmS (fullTo 16) = 0 := by
  refine chk_of (by rw [full_len]; omega) (full_ord 16 (by omega)) fun x hx => ?_
  obtain ⟨i, hi, rfl⟩ := List.mem_map.1 hx
  have := List.mem_range.1 hi
  exact ⟨nm_low (by omega), by show (repB 120 256).size ≤ 256; rw [repB_size]; omega⟩
theorem chk17 : chkL nmS (fullTo 17) = 50 := chkL_bad fun h => by have := h.1; rw [full_len] at this; omega
theorem ord_dup {l : List Lb} (h : Ord l) : noDup l := by
  unfold noDup
  refine List.pairwise_map.2 (h.2.imp fun k => lt_ne k)
theorem ord_sort {l : List Lb} (h : Ord l) : sortL l = l := (sortL_one (ord_dup h) h.2 fun x => ⟨fun k => ⟨k, h.1 x k⟩, fun k => k.1⟩).symm
theorem of17 : ofL nmS (fullTo 17) = ([], 50) := by
  unfold ofL
  rw [if_pos (ord_dup (full_ord 17 (by omega))), ord_sort (full_ord 17 (by omega)), chk17]
  rfl
theorem of16 : ofL nmS (fullTo 16) = (fullTo 16, 0) := by
  unfold ofL
  rw [if_pos (ord_dup (full_ord 16 (by omega))), ord_sort (full_ord 16 (by omega)), full_chk]
  rfl
/-! What may not be. -/
def b9 : ByteArray := ⟨#[57]⟩
theorem kset1 : setLs ⟨#[98, 49, 97, 49]⟩ = [(bB, b1), (bA, b1)] := by rfl
theorem kset2 : setLs ⟨#[97, 49, 97, 49]⟩ = [(bA, b1), (bA, b1)] := by rfl
theorem kset3 : setLs ⟨#[97, 45]⟩ = [(bA, ByteArray.empty)] := by rfl
theorem kset4 : setLs ⟨#[97, 45, 97, 49]⟩ = [(bA, ByteArray.empty), (bA, b1)] := by rfl
theorem kset5 : setLs ⟨#[97, 49, 98, 49]⟩ = [(bA, b1), (bB, b1)] := by rfl
theorem kset6 : setLs ⟨#[97, 50]⟩ = [(bA, b2)] := by rfl
theorem kset7 : setLs ⟨#[98, 49]⟩ = [(bB, b1)] := by rfl
theorem no1 : ¬ Ord [(bB, b1), (bA, b1)] := fun h => nBA ((List.pairwise_cons.1 h.2).1 (bA, b1) (by simp))
theorem no2 (x y : ByteArray) : ¬ Ord [(bA, x), (bA, y)] := fun h => lt_irrefl bA ((List.pairwise_cons.1 h.2).1 (bA, y) (by simp))
theorem no3 : ¬ Ord [(bA, ByteArray.empty)] := fun h => h.1 (bA, ByteArray.empty) (by simp) rfl
theorem kc1 : chkL nmS [(bB, b1), (bA, b1)] = 50 := chkL_bad fun h => no1 h.2.1
theorem kc2 : chkL nmS [(bA, b1), (bA, b1)] = 50 := chkL_bad fun h => no2 _ _ h.2.1
theorem kc3 : chkL nmS [(bA, ByteArray.empty)] = 50 := chkL_bad fun h => no3 h.2.1
theorem kc4 : chkL nmS [(b9, b1)] = 50 := chkL_bad fun h => by have := (h.2.2 _ (List.mem_singleton.2 rfl)).1; exact absurd this (by decide)
theorem kc5 : chkL nmS [(bA, repB 120 257)] = 50 := chkL_bad fun h => by have := (h.2.2 _ (List.mem_singleton.2 rfl)).2; rw [repB_size] at this; omega
theorem kof3 : ofL nmS [(bA, ByteArray.empty), (bA, b1)] = ([], 50) := by
  unfold ofL
  exact if_neg (by unfold noDup; simp)
theorem kof4 : ofL nmS [(b9, b1)] = ([], 50) := by
  unfold ofL
  rw [if_pos (by simp [noDup]), show sortL [(b9, b1)] = [(b9, b1)] from ord_sort ⟨fun x hx => by rw [List.mem_singleton.1 hx]; exact ne1, by simp⟩, kc4]
  rfl
theorem kof5 : ofL nmS [(b9, ByteArray.empty)] = ([], 0) := by
  unfold ofL
  rw [if_pos (by simp [noDup]), show sortL [(b9, ByteArray.empty)] = [] by simp [sortL]]
  exact if_pos (chk_of (by simp) Ord.nil (fun x hx => by cases hx))
theorem ks1 (n v : ByteArray) : setL [(bB, b1), (bA, b1)] n v = [] := by rw [setL, if_neg no1]
theorem ks2 (p : ByteArray → Bool) : pickL [(bA, ByteArray.empty)] p = [] := by rw [pickL, if_neg no3]
theorem ks3 (p : ByteArray → Bool) : pickL [(bB, b1), (bA, b1)] p = [] := by rw [pickL, if_neg no1]
theorem ks4 (p : ByteArray → Bool) : pickL [(bA, b1), (bA, b2)] p = [] := by rw [pickL, if_neg (no2 _ _)]
theorem kg1 : getL [(bA, b1), (bA, b2)] bA = b1 := by rw [getL, if_pos rfl]
theorem kcm1 : cmpL [] [(bA, b1)] = -1 := by rfl
theorem kcm2 : cmpL [(bA, b1), (bB, b1)] [(bA, b1)] = 1 := by rw [cmpL_t _ _ rfl rfl]; rfl
theorem kcm3 : cmpL [(bA, b2)] [(bB, b1)] = -1 := cmpL_n1 _ _ ltAB
theorem kcm4 : cmpL [(bA, b1)] [(bA, b2)] = -1 := cmpL_v1 _ _ rfl ((lt_data _ _).2 (by decide))
theorem kcl1 : ofl (cleanB (bl ⟨#[]⟩)) = ⟨#[95]⟩ := by rfl
theorem kcl2 : ofl (cleanB (bl ⟨#[195, 169]⟩)) = ⟨#[95, 95]⟩ := by rfl
/-- 9 and the long name; the long name and x. -/
def L9 : ByteArray := ofl (57 :: List.replicate 64 110)
def L9c : ByteArray := ofl (95 :: 57 :: List.replicate 62 110)
def Lx : ByteArray := ofl (List.replicate 64 110 ++ [120])
theorem byt110 (z : Nat) : Byt (List.replicate z 110) := fun x hx => by rw [List.eq_of_mem_replicate hx]; omega
theorem add9 : (⟨#[57]⟩ : ByteArray) ++ repB 110 64 = L9 := bl_inj (by rw [bl_append, repB_bl, L9, bl_ofl (Byt.cons (by omega) (byt110 _))]; rfl)
theorem addx : repB 110 64 ++ ⟨#[120]⟩ = Lx := bl_inj (by rw [bl_append, repB_bl, Lx, bl_ofl ((byt110 _).app (Byt.cons (by omega) Byt.nil))]; rfl)
theorem cut62 : (repB 110 64).extract 0 62 = repB 110 62 := bl_inj (by rw [bl_extract, repB_bl, repB_bl]; rfl)
theorem add9c : (⟨#[95, 57]⟩ : ByteArray) ++ repB 110 62 = L9c := bl_inj (by rw [bl_append, repB_bl, L9c, bl_ofl (Byt.cons (by omega) (Byt.cons (by omega) (byt110 _)))]; rfl)
theorem kcl3 : ofl (cleanB (bl L9)) = L9c := by
  unfold L9 L9c
  rw [bl_ofl (Byt.cons (by omega) (byt110 _))]
  rfl
theorem kcl4 : ofl (cleanB (bl Lx)) = repB 110 64 := by
  unfold Lx
  rw [bl_ofl ((byt110 _).app (Byt.cons (by omega) Byt.nil))]
  refine bl_inj ?_
  rw [repB_bl, bl_ofl (by
    intro x hx
    have : (cleanB (List.replicate 64 110 ++ [120])) = List.replicate 64 110 := by rfl
    rw [this] at hx
    exact byt110 64 x hx)]
  rfl
theorem ktx : textS [] = ⟨#[123, 125]⟩ := by rfl
theorem kky : ofl (keyL []) = ⟨#[]⟩ := by rfl
theorem kch : chkL nmS [] = 0 := chk_of (by simp) Ord.nil (fun x hx => by cases hx)
theorem ks5 (n : ByteArray) : setL [] n b1 = [(n, b1)] := by
  rw [setL, if_pos Ord.nil, if_neg ne1]
  rfl
end Go.Proofs.YtdeohgfnlcbncaaDoor
