/- Short Text Back Math2 RefU RefReader States: taken over. -/
import Derived.Test.YtpeepolmbcakbaaDoorVaryA
import Derived.Deep.RegionWith
import Derived.StillTailTactics
namespace Go.Proofs.YtpeepolmbcakbaaDoor
open Go.RowKit

theorem Row.take {w : World} {B n k : Nat} {A : Option Addr} {k0 : IntKind} {zs : List Int} (h : Row w B A n (ints k0 zs)) (hk : k ≤ n) : Row w B A k (ints k0 (zs.take k)) := by
  have hl := h.1
  rw [ints_len] at hl
  refine ⟨by rw [ints_len, List.length_take]; omega, fun hn => ?_⟩
  obtain ⟨b, off, e, hb, hcell⟩ := h.2 (by omega)
  refine ⟨b, off, e, hb, fun j hj => ?_⟩
  rw [hcell j (by omega), ← ints_take, List.getElem?_take, if_pos hj]

theorem neq_int (a b : Int) (h : a ≠ b) : (a == b) = false := by simpa using h

/-- A text's bytes, as numbers. -/
def nums (s : ByteArray) : List Int := s.data.toList.map fun b => (b.toNat : Int)
theorem nums_len (s : ByteArray) : (nums s).length = s.size := by
  simp only [nums, List.length_map, Array.length_toList]
  rfl
theorem nums_cells (s : ByteArray) : Lib.strCells s = ints .u8 (nums s) := by
  simp [Lib.strCells, ints, nums, List.map_map, Function.comp_def]
theorem nums_byte (s : ByteArray) : ∀ x ∈ nums s, 0 ≤ x ∧ x ≤ 255 := by
  intro x hx
  simp only [nums, List.mem_map] at hx
  obtain ⟨b, _, rfl⟩ := hx
  have := b.toNat_lt
  omega
theorem ofNums_nums (s : ByteArray) : strOfNums (nums s) = s := by
  have h : s.data.toList.map (fun b => UInt8.ofNat (b.toNat : Int).toNat) = s.data.toList := by
    conv => rhs; rw [← List.map_id s.data.toList]
    apply List.map_congr_left
    intro b _
    simp
  simp only [strOfNums, nums, List.map_map, Function.comp_def]
  rw [h]

def tErr (s : ByteArray) : Int := if 65535 < s.size then 5 else 0
def tOut (s : ByteArray) : List Int := if 65535 < s.size then [] else leb s.size ++ nums s

theorem Text_any (s : ByteArray) (w : World) (hs : s.size ≤ 150000000000000) : Calls Tryd.prog 27 #[.string s] w (Out w (tOut s) (tErr s)) := by
  obtain ⟨i0, hi, hz0, hz1, hz2⟩ := info_parts u8_info
  by_cases h : 65535 < s.size
  · simp only [tErr, tOut, if_pos h]
    have hd : decide ((65535 : Int) < (s.size : Int)) = true := by simp; omega
    go_enter Tryd.func27, Tryd.ntmps27
    go_wp2
    go_ret2
    exact Out.nil _ _
  · have hd : decide ((65535 : Int) < (s.size : Int)) = false := by simp; omega
    have hU := U_any s.size w
    rw [show uErr s.size = 0 by rw [uErr, if_neg (by omega)], show uOut s.size = leb s.size by rw [uOut, if_neg (by omega)]; simp] at hU
    have HU := Lib.hid hU
    have hl := leb_len8 (n := s.size) (by omega)
    simp only [tErr, tOut, if_neg h]
    have hn := nums_cells s
    have hn2 := nums_len s
    have HN := Lib.hid hn
    have HN2 := Lib.hid hn2
    clear hU hn hn2
    generalize leb s.size = x at *
    go_enter Tryd.func27, Tryd.ntmps27
    go_wp2_with fail
    refine HU.out.mono ?_
    rintro e w1 ⟨A1, c1, rfl, hown, hb⟩
    go_wp2_with (at_builtin; refine Lib.wpList_append_own_string _ rfl (.tmp 15) (.tmp 16) 24 9 rfl w.heap.size 5 i0 Tryd.underlying24 Tryd.underlying9 hi hz0 hz1 hz2 _ _ _ rfl hown s rfl (by unfold maxLen; omega) (by omega) hb.size ?_)
    intro v' w2 hown2 hg _
    obtain ⟨A2, c2, rfl⟩ := own_slice hown2
    have hb2 : Below w.heap.size w w2 := hb.grown hg hb.size (fun k hk => (hown.lt k hk).1)
    go_wp2
    go_ret2
    have e1 : x.length + s.size = (x ++ nums s).length := by rw [List.length_append, HN2.out]
    rw [HN.out, ← ints_append, e1] at hown2
    rw [e1]
    exact ⟨A2, c2, rfl, hown2, hb2⟩

def unzz (n : Int) : Int := if n % 2 = 1 then -((n + 1) / 2) else n / 2
theorem and64 (a b : Nat) (ha : a < 9223372036854775808) (hb : b < 9223372036854775808) : bits .and .i64 (a : Int) (b : Int) = ((a &&& b : Nat) : Int) := by
  have hx : a &&& b < 2 ^ 63 := Nat.and_lt_two_pow _ (by omega)
  show IntKind.i64.wrap ((BitVec.ofInt 64 (a : Int) &&& BitVec.ofInt 64 (b : Int)).toNat : Int) = _
  rw [BitVec.toNat_and, ofInt64 a ha, ofInt64 b hb, IntKind.wrap_i64]
  omega
theorem and_one {n : Int} (h0 : 0 ≤ n) (h1 : n ≤ 9223372036854775807) : bits .and .i64 n 1 = n % 2 := by
  obtain ⟨m, rfl⟩ := Int.eq_ofNat_of_zero_le h0
  have := and64 m 1 (by omega) (by omega)
  rw [Nat.and_one_is_mod] at this
  simpa using this
theorem rdU_bd (l : List Int) : 0 ≤ (rdU l).1 ∧ (rdU l).1 ≤ 18014398509481982 := by
  unfold rdU
  cases endAt l with
  | none => simp only []; split <;> simp
  | some i =>
    simp only []
    have := val_nonneg (l.take (i + 1))
    repeat' split
    all_goals (simp only []; omega)

set_option maxRecDepth 100000 in
theorem RS_all (g B : Nat) (l : List Int) (w : World) (h : Rd w g B l 0) :
    Calls Tryd.prog 35 #[.pointer (some ⟨g, 0, none⟩)] w (RdPost g B w (unzz (rdU l).1) (rdU l).2.1 (rdU l).2.2) := by
  have hU := RU_all g B l w h
  obtain ⟨b1, b2⟩ := rdU_bd l
  generalize (rdU l).1 = v at *
  generalize (rdU l).2.1 = l' at *
  generalize (rdU l).2.2 = x at *
  have HU := Lib.hid hU
  have ha := and_one b1 (by omega)
  clear hU
  by_cases hodd : v % 2 = 1
  case' pos => rw [hodd] at ha
  case' pos => have HV : Hid (unzz v = wrap64 (-((v + 1).tdiv 2))) := by
                unfold Hid unzz
                rw [if_pos hodd, Int.tdiv_eq_ediv_of_nonneg (by omega), IntWalk.wrap64_in _ (by omega)]
  case' neg => rw [show v % 2 = 0 by omega] at ha
  case' neg => have HV : Hid (unzz v = v / 2) := by
                unfold Hid unzz
                rw [if_neg hodd]
  all_goals
    clear hodd
    go_enter Tryd.func35, Tryd.ntmps35
    go_wp2_with fail
    refine HU.out.mono ?_
    rintro e w1 ⟨rfl, hrd, ho⟩
    go_wp2
    go_ret
    exact ⟨by rw [HV.out]; rfl, hrd, ho⟩

/-- What reading a text comes to: the bytes, what is left, the error. -/
def rdT (l : List Int) (most : Int) : List Int × List Int × Int :=
  if (rdU l).2.2 ≠ 0 then ([], (rdU l).2.1, (rdU l).2.2)
  else if most < (rdU l).1 then ([], [], 5)
  else if ((rdU l).2.1.length : Int) < (rdU l).1 then ([], [], 3)
  else ((rdU l).2.1.take (rdU l).1.toNat, (rdU l).2.1.drop (rdU l).1.toNat, 0)

/-- A conversion of bytes that are known to a string, be the slice nil, empty or neither. -/
theorem conv_row {P : Program} {w : World} {B n : Nat} {A : Option Addr} {zs : List Int} (h : Row w B A n (ints .u8 zs)) (src dst e : TypeId) (hs : P.underlying src = some (.slice e)) (he : P.underlying e = some (.int .u8)) (hd : P.underlying dst = some .string) (c : Nat) :
    (convert src dst (.slice A n c)).run P w = .ok (.string (strOfNums zs)) w := by
  have hl := h.1
  rw [ints_len] at hl
  by_cases h0 : n = 0
  · subst h0
    have e0 : zs = [] := List.eq_nil_of_length_eq_zero hl
    subst e0
    rcases A with _ | a
    · exact run_convert_bytes_nil w src e hs he 0 c dst hd
    · rw [run_convert_bytes_string w src dst e _ 0 c hs he hd, run_bytesToString w a 0 c [] (by simp [loadCells, loadCellsFrom])]
      rfl
  · obtain ⟨b, off, rfl, _, hc⟩ := h.2 (by omega)
    exact run_convert_bytes_arg w src e hs he b off n c zs hl (fun i hi => by rw [hc i hi, ints_get _ _ _ (by omega)]) dst hd

set_option maxRecDepth 100000 in
theorem RT_err (g B : Nat) (most : Int) (l : List Int) (w : World) (h : Rd w g B l 0) (hx : (rdU l).2.2 ≠ 0) :
    Calls Tryd.prog 36 #[.pointer (some ⟨g, 0, none⟩), .int .i64 most] w fun e w' => e = .returned (.string ByteArray.empty) ∧ Rd w' g B (rdU l).2.1 (rdU l).2.2 ∧ Only g w w' := by
  have HU := Lib.hid (RU_all g B l w h)
  generalize (rdU l).1 = v at *
  generalize (rdU l).2.1 = l' at *
  generalize (rdU l).2.2 = x at *
  have hd : (x != 0) = true := by simpa using hx
  clear hx
  go_enter Tryd.func36, Tryd.ntmps36
  go_wp2_with fail
  refine HU.out.mono ?_
  rintro e w1 ⟨rfl, hrd, ho⟩
  have hrd' := hrd
  obtain ⟨A1, c1, hblk, _⟩ := hrd'
  go_wp2_with fail
  refine (Err_made g _ _ _ hblk).mono ?_
  rintro e w' ⟨rfl, rfl⟩
  go_wp2
  go_ret
  exact ⟨rfl, hrd, ho⟩

theorem RT_much (g B : Nat) (most : Int) (l : List Int) (w : World) (h : Rd w g B l 0) (hx : (rdU l).2.2 = 0) (hm : most < (rdU l).1) :
    Calls Tryd.prog 36 #[.pointer (some ⟨g, 0, none⟩), .int .i64 most] w fun e w' => e = .returned (.string ByteArray.empty) ∧ Rd w' g B [] 5 ∧ Only g w w' := by
  have hU := RU_all g B l w h
  rw [hx] at hU
  have HU := Lib.hid hU
  clear hU hx
  generalize (rdU l).1 = v at *
  generalize (rdU l).2.1 = l' at *
  go_enter Tryd.func36, Tryd.ntmps36
  go_wp2_with fail
  refine HU.out.mono ?_
  rintro e w1 ⟨rfl, hrd, ho⟩
  obtain ⟨A1, c1, hblk, _, _, _, _, hB, _⟩ := hrd
  go_wp2_with fail
  refine (Err_made g _ _ _ hblk).mono ?_
  rintro e w' ⟨rfl, rfl⟩
  go_wp2_with fail
  refine (fail_made g _ _ _ _ _ hblk).mono ?_
  rintro e w2 ⟨rfl, ho2, hb2⟩
  go_wp2
  go_ret
  exact ⟨rfl, Rd.failed (Nat.le_trans hB ho2.size) hb2, ho.trans ho2⟩

theorem RT_few (g B : Nat) (most : Int) (l : List Int) (w : World) (h : Rd w g B l 0) (hx : (rdU l).2.2 = 0) (hm : ¬ most < (rdU l).1) (hl : ((rdU l).2.1.length : Int) < (rdU l).1) :
    Calls Tryd.prog 36 #[.pointer (some ⟨g, 0, none⟩), .int .i64 most] w fun e w' => e = .returned (.string ByteArray.empty) ∧ Rd w' g B [] 3 ∧ Only g w w' := by
  have hU := RU_all g B l w h
  rw [hx] at hU
  have HU := Lib.hid hU
  clear hU hx
  generalize (rdU l).1 = v at *
  generalize (rdU l).2.1 = l' at *
  go_enter Tryd.func36, Tryd.ntmps36
  go_wp2_with fail
  refine HU.out.mono ?_
  rintro e w1 ⟨rfl, hrd, ho⟩
  obtain ⟨A1, c1, hblk, _, _, _, _, hB, _⟩ := hrd
  have k1 : w1.cell? ⟨g, 1, none⟩ = some (.slice A1 l'.length c1) := hblk.cell 1
  go_wp2_with fail
  refine (Err_made g _ _ _ hblk).mono ?_
  rintro e w' ⟨rfl, rfl⟩
  go_wp2_with fail
  refine (fail_made g _ _ _ _ _ hblk).mono ?_
  rintro e w2 ⟨rfl, ho2, hb2⟩
  go_wp2
  go_ret
  exact ⟨rfl, Rd.failed (Nat.le_trans hB ho2.size) hb2, ho.trans ho2⟩

theorem add_block (a : Addr) (n : Nat) : (a.add n).block = a.block := by
  unfold Addr.add
  split <;> rfl

theorem Rd.drop {w : World} {g B c k : Nat} {l : List Int} {A : Option Addr} (hblk : Blk w g 77 [.bool true, .slice A l.length c, .int .i64 0]) (hrow : Row w B A l.length (ints .u8 l))
    (hne : ∀ a, A = some a → a.block ≠ g) (hl : l.length ≤ 150000000000000) (hB : B ≤ w.heap.size) (hu : ∀ x ∈ l, 0 ≤ x ∧ x ≤ 255) (hk : k ≤ l.length) (hlc : l.length ≤ c)
    (A' : Option Addr) (c' : Nat) (hc' : c' = c - k) (hA : A' = A ∧ c = k ∨ A' = A.map (·.add k)) :
    Rd (w.setCell ⟨g, 1, none⟩ (.slice A' (l.length - k) c')) g B (l.drop k) 0 := by
  have hlen : (l.drop k).length = l.length - k := List.length_drop
  refine ⟨A', c', ?_, ?_, ?_, by omega, by omega, by simpa [World.setCell] using hB, fun x hx => hu x (List.mem_of_mem_drop hx)⟩
  · rw [hlen]; exact hblk.put 1 _
  · rw [hlen, ← ints_drop]
    have h1 := hrow.only ((Only.refl g w).put 1 (.slice A' (l.length - k) c')) hB (fun b off e => hne _ e)
    refine h1.cut (c := l.length) (by omega) (Nat.le_refl _) A' ?_
    intro b off e hkl
    rcases hA with ⟨h2, h3⟩ | h2
    · omega
    · rw [h2, e]
      simp only [Option.map_some, Option.some.injEq]
      unfold Addr.add
      split <;> simp_all
  · intro a e
    rcases hA with ⟨h2, _⟩ | h2
    · exact hne a (by rw [← h2, e])
    · rw [h2] at e
      rcases A with _ | a0
      · cases e
      · injection e with e
        rw [← e, add_block]
        exact hne a0 rfl

theorem RT_good (g B n : Nat) (most : Int) (l l' : List Int) (w : World) (h : Rd w g B l 0) (hx : rdU l = ((n : Int), l', 0)) (hm : (n : Int) ≤ most) (hl : n ≤ l'.length) :
    Calls Tryd.prog 36 #[.pointer (some ⟨g, 0, none⟩), .int .i64 most] w fun e w' => e = .returned (.string (strOfNums (l'.take n))) ∧ Rd w' g B (l'.drop n) 0 ∧ Only g w w' := by
  have hU := RU_all g B l w h
  rw [hx] at hU
  have HU := Lib.hid hU
  clear hU hx
  go_enter Tryd.func36, Tryd.ntmps36
  go_wp2_with fail
  refine HU.out.mono ?_
  rintro e w1 ⟨rfl, hrd, ho⟩
  obtain ⟨A1, c1, hblk, hrow, hne, hlm, hlc, hB, hu⟩ := hrd
  have k1 : w1.cell? ⟨g, 1, none⟩ = some (.slice A1 l'.length c1) := hblk.cell 1
  have f1 := hblk.frozen 1
  go_wp2_with fail
  refine (Err_made g _ _ _ hblk).mono ?_
  rintro e w' ⟨rfl, rfl⟩
  have hcv := fun c => conv_row (P := Tryd.prog) (hrow.take hl) 24 9 5 Tryd.underlying24 Tryd.underlying5 Tryd.underlying9 c
  have hnc : n ≤ c1 := by omega
  go_wp2
  · have hc : c1 = n := by assumption
    go_ret
    exact ⟨rfl, Rd.drop hblk hrow hne hlm hB hu hl hlc _ _ (by omega) (.inl ⟨rfl, hc⟩), ho.trans ((Only.refl _ _).put _ _)⟩
  · go_ret
    exact ⟨rfl, Rd.drop hblk hrow hne hlm hB hu hl hlc _ _ rfl (.inr rfl), ho.trans ((Only.refl _ _).put _ _)⟩

theorem unzz_zz {n : Int} (h : sOk n) : unzz (zz n) = n := by
  unfold sOk at h
  unfold zz unzz
  by_cases h0 : n < 0
  · rw [if_pos h0, Int.toNat_of_nonneg (by omega), if_pos (by omega)]; omega
  · rw [if_neg h0, Int.toNat_of_nonneg (by omega), if_neg (by omega)]; omega

/-- Reading one number off the bytes that it was put in. -/
theorem RU_back (g B : Nat) (n : Nat) (rest : List Int) (w : World) (hn : n ≤ 18014398509481982) (h : Rd w g B (leb n ++ rest) 0) :
    Calls Tryd.prog 34 #[.pointer (some ⟨g, 0, none⟩)] w (RdPost g B w n rest 0) := by
  have := RU_all g B _ w h
  rwa [rdU_leb hn] at this
theorem RS_back (g B : Nat) (n : Int) (rest : List Int) (w : World) (hn : sOk n) (h : Rd w g B (leb (zz n) ++ rest) 0) :
    Calls Tryd.prog 35 #[.pointer (some ⟨g, 0, none⟩)] w (RdPost g B w n rest 0) := by
  have := RS_all g B _ w h
  rw [rdU_leb (zz_le hn)] at this
  simp only [unzz_zz hn] at this
  exact this
theorem RT_back (g B : Nat) (s : ByteArray) (rest : List Int) (w : World) (hs : s.size ≤ 65535) (h : Rd w g B (leb s.size ++ nums s ++ rest) 0) :
    Calls Tryd.prog 36 #[.pointer (some ⟨g, 0, none⟩), .int .i64 65535] w fun e w' => e = .returned (.string s) ∧ Rd w' g B rest 0 ∧ Only g w w' := by
  have hn := nums_len s
  have := RT_good g B s.size 65535 _ (nums s ++ rest) w h (by rw [List.append_assoc, rdU_leb (by omega)]) (by omega) (by rw [List.length_append]; omega)
  rw [List.take_left' hn, List.drop_left' hn, ofNums_nums] at this
  exact this

theorem New_len (A : Option Addr) (n c B : Nat) (l : List Int) (w : World) (hn : l.length = n) (hr : Row w B A n (ints .u8 l)) (hB : B ≤ w.heap.size) (hl : n ≤ 150000000000000) (hu : ∀ x ∈ l, 0 ≤ x ∧ x ≤ 255) :
    Calls Tryd.prog 33 #[.slice A n c] w fun e w' => ∃ g, e = .returned (.pointer (some ⟨g, 0, none⟩)) ∧ w.heap.size ≤ g ∧ Rd w' g w'.heap.size l 0 ∧ Below w.heap.size w w' := by
  subst hn
  exact New_any A c B l w hr hB hl hu

theorem leb_bytes {n : Nat} (h : n ≤ 18014398509481982) : ∀ x ∈ leb n, 0 ≤ x ∧ x ≤ 255 := leb_byte 8 n (by omega)

/-- The reader over all that was written, one behind the other. -/
theorem bytes_all {a b c d : List Int} (ha : ∀ x ∈ a, 0 ≤ x ∧ x ≤ 255) (hb : ∀ x ∈ b, 0 ≤ x ∧ x ≤ 255) (hc : ∀ x ∈ c, 0 ≤ x ∧ x ≤ 255) (hd : ∀ x ∈ d, 0 ≤ x ∧ x ≤ 255) : ∀ x ∈ a ++ (b ++ (c ++ d)), 0 ≤ x ∧ x ≤ 255 := by
  intro x hx
  rcases List.mem_append.1 hx with h | hx
  · exact ha x h
  rcases List.mem_append.1 hx with h | hx
  · exact hb x h
  rcases List.mem_append.1 hx with h | hx
  · exact hc x h
  · exact hd x hx

theorem leb_val : ∀ (ini : List Int) (last : Int), (∀ x ∈ ini, 128 ≤ x ∧ x ≤ 255) → 0 ≤ last → last < 128 → (ini ≠ [] → last ≠ 0) → leb (val (ini ++ [last])).toNat = ini ++ [last]
  | [], last, _, h0, h1, _ => by
    have e : (val ([] ++ [last])).toNat = last.toNat := by simp [val]; omega
    rw [e, leb_small (by omega)]
    simp; omega
  | h :: t, last, hi, h0, h1, hne => by
    have hn := hne (by simp)
    obtain ⟨g0, g1⟩ := hi h (by simp)
    have ih := leb_val t last (fun x hx => hi x (by simp [hx])) h0 h1 (fun _ => hn)
    have hv := val_snoc t last
    have hp : (0 : Int) < 128 ^ t.length := Int.pow_pos (by omega)
    have hge : 1 ≤ val (t ++ [last]) := by
      have := val_nonneg t
      have hm : 1 * 128 ^ t.length ≤ last % 128 * 128 ^ t.length := Int.mul_le_mul_of_nonneg_right (by omega) (by omega)
      omega
    simp only [List.cons_append, val]
    generalize val (t ++ [last]) = V at *
    rw [leb_big (by omega)]
    have e1 : (h % 128 + 128 * V).toNat / 128 = V.toNat := by omega
    have e2 : (((h % 128 + 128 * V).toNat % 128 + 128 : Nat) : Int) = h := by omega
    rw [e1, e2, ih]

theorem rdU_inv {l : List Int} (hu : ∀ x ∈ l, 0 ≤ x ∧ x ≤ 255) (hx : (rdU l).2.2 = 0) :
    ∃ (m : Nat) (rest : List Int), m ≤ 18014398509481982 ∧ rdU l = ((m : Int), rest, 0) ∧ l = leb m ++ rest := by
  cases he : endAt l with
  | none =>
    simp only [rdU, he] at hx
    split at hx <;> simp at hx
  | some i =>
    obtain ⟨z, hz, hz1, hz2⟩ := endAt_some he
    have hil : i < l.length := (List.getElem?_eq_some_iff.1 hz).1
    simp only [rdU, he] at hx ⊢
    by_cases h8 : 8 ≤ i
    · simp [h8] at hx
    · by_cases h0 : 0 < i ∧ l[i]? = some 0
      · simp [h8, h0] at hx
      · by_cases hb : 18014398509481982 < val (l.take (i + 1))
        · simp [h8, h0, hb] at hx
        · simp only [if_neg h8, if_neg h0, if_neg hb]
          have hzb := hu z (List.mem_of_getElem? hz)
          have ht : l.take (i + 1) = l.take i ++ [z] := by
            rw [List.take_add_one, hz]; rfl
          have hv0 := val_nonneg (l.take (i + 1))
          have hl := leb_val (l.take i) z (fun x hx => ⟨hz2 x hx, (hu x (List.mem_of_mem_take hx)).2⟩) hzb.1 hz1 (fun hne h => h0 ⟨by
            rcases Nat.eq_zero_or_pos i with h1 | h1
            · subst h1; simp at hne
            · exact h1, by rw [hz, h]⟩)
          rw [← ht] at hl
          refine ⟨(val (l.take (i + 1))).toNat, l.drop (i + 1), by omega, ?_, ?_⟩
          · rw [Int.toNat_of_nonneg hv0]
          · rw [hl, List.take_append_drop]

theorem rU_no (n : Int) (w : World) (h : n < 0 ∨ 18014398509481982 < n) :
    Calls Tryd.prog 29 #[.int .i64 n] w fun e w' => e = .returned (.tuple #[.slice none 0 0, .int .i64 9]) ∧ w = w' := by
  rcases h with h | h
  all_goals
    go_enter Tryd.func29, Tryd.ntmps29
    go_wp2
    go_ret2
    exact ⟨rfl, rfl⟩

set_option maxRecDepth 100000 in
theorem rU_ok (n : Nat) (w : World) (h : n ≤ 18014398509481982) :
    Calls Tryd.prog 29 #[.int .i64 n] w fun e w' => ∃ v, e = .returned (.tuple #[v, .int .i64 0]) ∧ w'.ownsRow w.heap.size 5 1 v (leb n).length (ints .u8 (leb n)) ∧ Below w.heap.size w w' := by
  obtain ⟨i0, hi, hz0, hz1, hz2⟩ := info_parts u8_info
  have d1 : decide ((n : Int) < 0) = false := by simp
  have d2 : decide (18014398509481982 < (n : Int)) = false := by simp; omega
  go_enter Tryd.func29, Tryd.ntmps29
  go_wp2
  clear d1 d2
  have HN := Lib.hid h
  clear h
  go_loopw [0, 4] (fun x b wr => ∃ (m : Nat) (out : List Int), x = .int .i64 m ∧ Hid (m ≤ 18014398509481982) ∧ Hid (leb n = out ++ leb m) ∧ wr.ownsRow w.heap.size 5 1 b out.length (ints .u8 out) ∧ Below w.heap.size w wr) (fun x _ _ => (intOf x).toNat)
  case atStart => exact ⟨n, [], rfl, HN, Lib.hid rfl, World.ownsRow_nil _ _ _ _, Below.refl _ _⟩
  case round =>
    obtain ⟨m, out, rfl, HM, HE, hown, hb⟩ := hrel
    have hlen : out.length ≤ 7 := leb_out_len HE.out HN.out
    by_cases h128 : 128 ≤ m
    · go_wp2_with (at_builtin; refine wpList_app _ rfl (.tmp 13) (.tmp 18) 24 rfl w.heap.size 5 i0 (.int .u8 0) 1 Tryd.underlying24 hi hz0 hz1 hz2 rfl _ _ _ rfl (hown.alloc _) _ _ 1 1 _ rfl (Row.one _ _ _) (by simp [Value.oneCell']) (by unfold maxLen; omega) (by omega) (by simp; have := hb.size; omega) ?_)
      intro v' w' hown' _ hb'
      rw [show (128 + (m : Int) % 128) = ((m % 128 + 128 : Nat) : Int) from by omega] at hown'
      have hmq : (m : Int) / 128 ≤ 9223372036854775807 := by have := HM.out; omega
      have hmq0 : 0 ≤ (m : Int) / 128 := by omega
      have hstep := Lib.hid (leb_step HE.out (by omega))
      have hb2 : Below w.heap.size w w' := (hb.alloc hb.size _).trans hb'
      go_wp2
      go_roundw
      case rel => exact ⟨m / 128, out ++ [((m % 128 + 128 : Nat) : Int)], by go_num, Lib.hid (by have := HM.out; omega), hstep, by simpa [ints_append, ints] using hown', hb2⟩
      case measure => simp [intOf]; omega
    · have hs := Lib.hid (leb_small (n := m) (by omega))
      go_wp2_with (at_builtin; refine wpList_app _ rfl (.tmp 22) (.tmp 25) 24 rfl w.heap.size 5 i0 (.int .u8 0) 1 Tryd.underlying24 hi hz0 hz1 hz2 rfl _ _ _ rfl (hown.alloc _) _ _ 1 1 _ rfl (Row.one _ _ _) (by simp [Value.oneCell']) (by unfold maxLen; omega) (by omega) (by simp; have := hb.size; omega) ?_)
      intro v' w' hown' _ hb'
      have hb2 : Below w.heap.size w w' := (hb.alloc hb.size _).trans hb'
      go_wp2
      go_ret2
      exact ⟨_, rfl, by rw [HE.out, hs.out]; simpa [ints_append, ints] using hown', hb2⟩

theorem rU_any (n : Int) (w : World) : Calls Tryd.prog 29 #[.int .i64 n] w (Out w (uOut n) (uErr n)) := by
  by_cases h : n < 0 ∨ 18014398509481982 < n
  · refine (rU_no n w h).mono ?_
    rintro e w' ⟨rfl, rfl⟩
    simp only [uOut, uErr, if_pos h]
    exact Out.nil _ _
  · obtain ⟨m, rfl⟩ := Int.eq_ofNat_of_zero_le (a := n) (by omega)
    refine (rU_ok m w (by omega)).mono ?_
    rintro e w' ⟨v, rfl, hown, hb⟩
    obtain ⟨A, c, rfl⟩ := own_slice hown
    simp only [uOut, uErr, if_neg h, Int.toNat_natCast]
    exact ⟨A, c, rfl, hown, hb⟩

set_option maxRecDepth 100000 in
theorem rS_any (n : Int) (w : World) : Calls Tryd.prog 30 #[.int .i64 n] w (Out w (sOut n) (sErr n)) := by
  by_cases h1 : n < -9007199254740991
  · have hs : ¬ sOk n := by unfold sOk; omega
    simp only [sOut, sErr, if_neg hs]
    go_enter Tryd.func30, Tryd.ntmps30
    go_wp2
    go_ret2
    exact Out.nil _ _
  · by_cases h2 : 9007199254740991 < n
    · have hs : ¬ sOk n := by unfold sOk; omega
      simp only [sOut, sErr, if_neg hs]
      go_enter Tryd.func30, Tryd.ntmps30
      go_wp2
      go_ret2
      exact Out.nil _ _
    · have hs : sOk n := by unfold sOk; omega
      by_cases h0 : n < 0
      · have ho : sOut n = uOut (-2 * n - 1) := by
          simp only [sOut, if_pos hs, zz, if_pos h0, uOut]
          rw [if_neg (by omega)]
        have he : sErr n = uErr (-2 * n - 1) := by
          simp only [sErr, if_pos hs, uErr]
          rw [if_neg (by omega)]
        rw [ho, he]
        clear hs ho he
        go_enter Tryd.func30, Tryd.ntmps30
        go_wp2_with fail
        refine (rU_any _ _).mono ?_
        rintro e w' ⟨A, c, rfl, hown, hb⟩
        go_wp2
        go_ret2
        exact ⟨A, c, rfl, hown, hb⟩
      · have ho : sOut n = uOut (2 * n) := by
          simp only [sOut, if_pos hs, zz, if_neg h0, uOut]
          rw [if_neg (by omega)]
        have he : sErr n = uErr (2 * n) := by
          simp only [sErr, if_pos hs, uErr]
          rw [if_neg (by omega)]
        rw [ho, he]
        clear hs ho he
        go_enter Tryd.func30, Tryd.ntmps30
        go_wp2_with fail
        refine (rU_any _ _).mono ?_
        rintro e w' ⟨A, c, rfl, hown, hb⟩
        go_wp2
        go_ret2
        exact ⟨A, c, rfl, hown, hb⟩

theorem rText_any (s : ByteArray) (w : World) (hs : s.size ≤ 150000000000000) : Calls Tryd.prog 31 #[.string s] w (Out w (tOut s) (tErr s)) := by
  obtain ⟨i0, hi, hz0, hz1, hz2⟩ := info_parts u8_info
  by_cases h : 65535 < s.size
  · simp only [tErr, tOut, if_pos h]
    have hd : decide ((65535 : Int) < (s.size : Int)) = true := by simp; omega
    go_enter Tryd.func31, Tryd.ntmps31
    go_wp2
    go_ret2
    exact Out.nil _ _
  · have hd : decide ((65535 : Int) < (s.size : Int)) = false := by simp; omega
    have hU := rU_any s.size w
    rw [show uErr s.size = 0 by rw [uErr, if_neg (by omega)], show uOut s.size = leb s.size by rw [uOut, if_neg (by omega)]; simp] at hU
    have HU := Lib.hid hU
    have hl := leb_len8 (n := s.size) (by omega)
    simp only [tErr, tOut, if_neg h]
    have hn := nums_cells s
    have hn2 := nums_len s
    have HN := Lib.hid hn
    have HN2 := Lib.hid hn2
    clear hU hn hn2
    generalize leb s.size = x at *
    go_enter Tryd.func31, Tryd.ntmps31
    go_wp2_with fail
    refine HU.out.mono ?_
    rintro e w1 ⟨A1, c1, rfl, hown, hb⟩
    go_wp2_with (at_builtin; refine Lib.wpList_append_own_string _ rfl (.tmp 15) (.tmp 16) 24 9 rfl w.heap.size 5 i0 Tryd.underlying24 Tryd.underlying9 hi hz0 hz1 hz2 _ _ _ rfl hown s rfl (by unfold maxLen; omega) (by omega) hb.size ?_)
    intro v' w2 hown2 hg _
    obtain ⟨A2, c2, rfl⟩ := own_slice hown2
    have hb2 : Below w.heap.size w w2 := hb.grown hg hb.size (fun k hk => (hown.lt k hk).1)
    go_wp2
    go_ret2
    have e1 : x.length + s.size = (x ++ nums s).length := by rw [List.length_append, HN2.out]
    rw [HN.out, ← ints_append, e1] at hown2
    rw [e1]
    exact ⟨A2, c2, rfl, hown2, hb2⟩


theorem i64_info : (Tryd.prog.info? 3).map (fun i => (i.zero, i.size, i.bytes)) = some (some (.int .i64 0), 1, 8) := by kernel_rfl

theorem CopyBytes_any (A : Option Addr) (c B : Nat) (l : List Int) (w : World) (hr : Row w B A l.length (ints .u8 l)) (hB : B ≤ w.heap.size) (hl : l.length ≤ 140737488351232) :
    Calls Tryd.prog 18 #[.slice A l.length c] w fun e w' => ∃ A' c', e = .returned (.slice A' l.length c') ∧ w'.ownsRow w.heap.size 5 1 (.slice A' l.length c') l.length (ints .u8 l) ∧ Below w.heap.size w w' := by
  obtain ⟨i0, hi, hz0, hz1, hz2⟩ := info_parts u8_info
  go_enter Tryd.func18, Tryd.ntmps18
  go_wp2_with (at_builtin; refine wpList_app _ rfl (.tmp 4) (.tmp 5) 24 rfl w.heap.size 5 i0 (.int .u8 0) 1 Tryd.underlying24 hi hz0 hz1 hz2 rfl _ 0 [] rfl (World.ownsRow_nil _ _ _ _) _ _ _ _ _ rfl hr (ints_one _ _) (by unfold maxLen; omega) (by omega) (Nat.le_refl _) ?_)
  intro v' w' hown' _ hb'
  obtain ⟨A', c', rfl⟩ := own_slice hown'
  go_wp2
  go_ret
  exact ⟨A', c', by simp, by simpa using hown', hb'⟩

/-- The document's own reader: its block, what is left, the error. -/
def Rm (w : World) (g L B : Nat) (l : List Int) (x : Int) : Prop :=
  ∃ A c, Blk w g 64 [.slice A l.length c, .int .i64 x] ∧ Row w B A l.length (ints .u8 l) ∧ (∀ a, A = some a → a.block ≠ g ∧ L ≤ a.block) ∧ l.length ≤ 150000000000000 ∧ l.length ≤ c ∧ B ≤ w.heap.size ∧ ∀ x ∈ l, 0 ≤ x ∧ x ≤ 255

/-- What the document's own reader holds behind a reading. -/
def rest (l : List Int) (x : Int) (l' : List Int) : List Int := if x = 0 then l' else l

def RmPost (g L B : Nat) (w : World) (v : Int) (l : List Int) (x : Int) (e : Ending) (w' : World) : Prop :=
  e = .returned (.int .i64 v) ∧ Rm w' g L B l x ∧ Only g w w'

theorem Rm.err {w : World} {g L B : Nat} {l : List Int} {x y : Int} (h : Rm w g L B l x) : Rm (w.setCell ⟨g, 1, none⟩ (.int .i64 y)) g L B l y := by
  obtain ⟨A, c, hblk, hrow, hne, h1, h2, h3, h4⟩ := h
  exact ⟨A, c, hblk.put 1 _, hrow.only ((Only.refl g w).put 1 _) h3 (fun b off e => (hne _ e).1), hne, h1, h2, by simpa [World.setCell] using h3, h4⟩

theorem Rm.drop {w : World} {g L B c k : Nat} {l : List Int} {A : Option Addr} {x : Int} (hblk : Blk w g 64 [.slice A l.length c, .int .i64 x]) (hrow : Row w B A l.length (ints .u8 l))
    (hne : ∀ a, A = some a → a.block ≠ g ∧ L ≤ a.block) (hl : l.length ≤ 150000000000000) (hB : B ≤ w.heap.size) (hu : ∀ x ∈ l, 0 ≤ x ∧ x ≤ 255) (hk : k ≤ l.length) (hlc : l.length ≤ c)
    (A' : Option Addr) (c' : Nat) (hc' : c' = c - k) (hA : A' = A ∧ c = k ∨ A' = A.map (·.add k)) :
    Rm (w.setCell ⟨g, 0, none⟩ (.slice A' (l.length - k) c')) g L B (l.drop k) x := by
  have hlen : (l.drop k).length = l.length - k := List.length_drop
  refine ⟨A', c', ?_, ?_, ?_, by omega, by omega, by simpa [World.setCell] using hB, fun x hx => hu x (List.mem_of_mem_drop hx)⟩
  · rw [hlen]; exact hblk.put 0 _
  · rw [hlen, ← ints_drop]
    have h1 := hrow.only ((Only.refl g w).put 0 (.slice A' (l.length - k) c')) hB (fun b off e => (hne _ e).1)
    refine h1.cut (c := l.length) (by omega) (Nat.le_refl _) A' ?_
    intro b off e hkl
    rcases hA with ⟨h2, h3⟩ | h2
    · omega
    · rw [h2, e]
      simp only [Option.map_some, Option.some.injEq]
      unfold Addr.add
      split <;> simp_all
  · intro a e
    rcases hA with ⟨h2, _⟩ | h2
    · exact hne a (by rw [← h2, e])
    · rw [h2] at e
      rcases A with _ | a0
      · cases e
      · injection e with e
        rw [← e, add_block]
        exact hne a0 rfl

theorem MU_err (g L B : Nat) (l : List Int) (x : Int) (w : World) (h : Rm w g L B l x) (hx : x ≠ 0) :
    Calls Tryd.prog 41 #[.pointer (some ⟨g, 0, none⟩)] w fun e w' => e = .returned (.int .i64 0) ∧ w = w' := by
  obtain ⟨A, c, hblk, _⟩ := h
  have c1 : w.cell? ⟨g, 1, none⟩ = some (.int .i64 x) := hblk.cell 1
  have hd : (x != 0) = true := by simp [hx]
  go_enter Tryd.func41, Tryd.ntmps41
  go_wp2
  go_ret
  exact ⟨rfl, rfl⟩

set_option maxRecDepth 100000 in
set_option maxHeartbeats 1000000 in
theorem MU_long (g L B : Nat) (l : List Int) (w : World) (h : Rm w g L B l 0) (h8 : 8 ≤ l.length) (hall : ∀ x ∈ l.take 8, 128 ≤ x) :
    Calls Tryd.prog 41 #[.pointer (some ⟨g, 0, none⟩)] w (RmPost g L B w 0 l 4) := by
  have hrm := h
  obtain ⟨A, c, hblk, hrow, hne, hl, hlc, hB, hu⟩ := h
  have c0 : w.cell? ⟨g, 0, none⟩ = some (.slice A l.length c) := hblk.cell 0
  have c1 : w.cell? ⟨g, 1, none⟩ = some (.int .i64 0) := hblk.cell 1
  have f1 := hblk.frozen 1
  obtain ⟨b, off, rfl, _, hc⟩ := hrow.2 (by omega)
  have HC := Lib.hid hc
  have HALL := Lib.hid hall
  have HRM := Lib.hid hrm
  clear hc hall hrm hblk hne hu
  go_enter Tryd.func41, Tryd.ntmps41
  go_wp2
  go_loop [3] (fun i => ∃ k : Nat, k ≤ 8 ∧ i = .int .i64 k) (fun i => 8 - (intOf i).toNat)
  case atStart => exact ⟨0, by omega, rfl⟩
  case round =>
    obtain ⟨k, hk, rfl⟩ := hrel
    by_cases hlt : k < 8
    · have hkl : k < l.length := by omega
      obtain ⟨y, hyc, hyl, _, _⟩ := ints_at .u8 l k (by omega)
      have ck : w.cell? ⟨b, off + k, none⟩ = some (.int .u8 y) := (HC.out k (by omega)).trans hyc
      have hy : 128 ≤ y := HALL.out y (by rw [List.mem_take_iff_getElem]; exact ⟨k, by omega, by have := (List.getElem?_eq_some_iff.1 hyl).2; exact this⟩)
      clear hyc hyl
      go_wp2
      go_round
      case rel => exact ⟨k + 1, by omega, by go_num⟩
      case measure => simp [intOf]; omega
    · obtain rfl : k = 8 := by omega
      by_cases hl8 : l.length = 8
      case' pos => have d1 : decide ((8 : Int) < (l.length : Int)) = false := by simp; omega
      case' neg => have d1 : decide ((8 : Int) < (l.length : Int)) = true := by simp; omega
      all_goals
        clear hl8
        go_wp2
        go_ret
        exact ⟨rfl, HRM.out.err, (Only.refl _ _).put _ _⟩

set_option maxRecDepth 100000 in
set_option maxHeartbeats 1000000 in
theorem MU_short (g L B : Nat) (l : List Int) (w : World) (h : Rm w g L B l 0) (h8 : l.length < 8) (hall : ∀ x ∈ l, 128 ≤ x) :
    Calls Tryd.prog 41 #[.pointer (some ⟨g, 0, none⟩)] w (RmPost g L B w 0 l 3) := by
  have hrm := h
  obtain ⟨A, c, hblk, hrow, hne, hl, hlc, hB, hu⟩ := h
  have c0 : w.cell? ⟨g, 0, none⟩ = some (.slice A l.length c) := hblk.cell 0
  have c1 : w.cell? ⟨g, 1, none⟩ = some (.int .i64 0) := hblk.cell 1
  have f1 := hblk.frozen 1
  have HR := Lib.hid hrow
  have HALL := Lib.hid hall
  have HRM := Lib.hid hrm
  clear hrow hall hrm hblk hne hu
  go_enter Tryd.func41, Tryd.ntmps41
  go_wp2
  go_loop [3] (fun i => ∃ k : Nat, k ≤ l.length ∧ i = .int .i64 k) (fun i => l.length - (intOf i).toNat)
  case atStart => exact ⟨0, by omega, rfl⟩
  case round =>
    obtain ⟨k, hk, rfl⟩ := hrel
    by_cases hlt : k < l.length
    · have hk8 : k < 8 := by omega
      obtain ⟨b, off, rfl, _, hc⟩ := HR.out.2 (by omega)
      obtain ⟨y, hyc, hyl, _, hym⟩ := ints_at .u8 l k (by omega)
      have ck : w.cell? ⟨b, off + k, none⟩ = some (.int .u8 y) := (hc k (by omega)).trans hyc
      have hy : 128 ≤ y := HALL.out y hym
      clear hyc hyl hc
      go_wp2
      go_round
      case rel => exact ⟨k + 1, by omega, by go_num⟩
      case measure => simp [intOf]; omega
    · have hkl : k = l.length := by omega
      have e1 : ((k : Int) == 8) = false := by simp; omega
      have e2 : ((k : Int) == (l.length : Int)) = true := by simp; omega
      clear hkl
      go_wp2
      go_ret
      exact ⟨rfl, HRM.out.err, (Only.refl _ _).put _ _⟩

set_option maxRecDepth 100000 in
set_option maxHeartbeats 1000000 in
theorem MU_zero (g L B : Nat) (l : List Int) (w : World) (h : Rm w g L B l 0) (i : Nat) (z : Int) (hz : l[i]? = some z) (h8 : i < 8) (h128 : z < 128) (hall : ∀ x ∈ l.take i, 128 ≤ x) (h0 : 0 < i) (hz0 : z = 0) :
    Calls Tryd.prog 41 #[.pointer (some ⟨g, 0, none⟩)] w (RmPost g L B w 0 l 4) := by
  have hrm := h
  obtain ⟨A, c, hblk, hrow, hne, hl, hlc, hB, hu⟩ := h
  have c0 : w.cell? ⟨g, 0, none⟩ = some (.slice A l.length c) := hblk.cell 0
  have c1 : w.cell? ⟨g, 1, none⟩ = some (.int .i64 0) := hblk.cell 1
  have f0 := hblk.frozen 0
  have f1 := hblk.frozen 1
  have hil : i < l.length := (List.getElem?_eq_some_iff.1 hz).1
  have hzb := hu z (List.mem_of_getElem? hz)
  obtain ⟨b, off, rfl, _, hc⟩ := hrow.2 (by omega)
  have ci : w.cell? ⟨b, off + i, none⟩ = some (.int .u8 z) := (hc i hil).trans (by simp [ints, hz])
  have hlen : (l.take (i + 1)).length = i + 1 := by rw [List.length_take]; omega
  have HC := Lib.hid hc
  have HALL := Lib.hid hall
  have HRM := Lib.hid hrm
  have HR := Lib.hid hrow
  have HB := Lib.hid hblk
  have HN := Lib.hid hne
  have HU := Lib.hid hu
  have HLEN := Lib.hid hlen
  generalize hval : val (l.take (i + 1)) = V
  have HVAL := Lib.hid hval
  have dz : (z == 0) = true := by simpa using hz0
  clear hval hz0
  clear hc hall hrm hrow hblk hne hu hz hlen
  go_enter Tryd.func41, Tryd.ntmps41
  go_wp2
  go_loop [3] (fun j => ∃ k : Nat, k ≤ i ∧ j = .int .i64 k) (fun j => i - (intOf j).toNat)
  case atStart => exact ⟨0, by omega, rfl⟩
  case round =>
    obtain ⟨k, hk, rfl⟩ := hrel
    by_cases hlt : k < i
    · have hkl : k < l.length := by omega
      have hk8 : k < 8 := by omega
      obtain ⟨y, hyc, hyl, _, _⟩ := ints_at .u8 l k (by omega)
      have ck : w.cell? ⟨b, off + k, none⟩ = some (.int .u8 y) := (HC.out k (by omega)).trans hyc
      have hy : 128 ≤ y := HALL.out y (by rw [List.mem_take_iff_getElem]; exact ⟨k, by omega, by have := (List.getElem?_eq_some_iff.1 hyl).2; exact this⟩)
      clear hyc hyl
      go_wp2
      go_round
      case rel => exact ⟨k + 1, by omega, by go_num⟩
      case measure => simp [intOf]; omega
    · obtain rfl : k = i := by omega
      have e1 : ((k : Int) == 8) = false := by simp; omega
      have e2 : ((k : Int) == (l.length : Int)) = false := by simp; omega
      go_wp2
      clear e1 e2
      go_loop [4, 5] (fun n j => ∃ q : Nat, q ≤ k + 1 ∧ j = .int .i64 ((q : Int) - 1) ∧ n = .int .i64 (val ((l.take (k + 1)).drop q))) (fun _ j => (intOf j + 1).toNat)
      case atStart => exact ⟨k + 1, by omega, by go_num, by rw [List.drop_of_length_le (by rw [HLEN.out]; omega)]; rfl⟩
      case round =>
        obtain ⟨q, hq, rfl, rfl⟩ := hrel
        by_cases hq0 : 0 < q
        · obtain ⟨p, rfl⟩ : ∃ p, q = p + 1 := ⟨q - 1, by omega⟩
          have ep : (((p + 1 : Nat) : Int) - 1) = (p : Int) := by omega
          rw [ep]
          obtain ⟨y, hyc, hyl, _, hym⟩ := ints_at .u8 l p (by omega)
          have cp : w.cell? ⟨b, off + p, none⟩ = some (.int .u8 y) := (HC.out p (by omega)).trans hyc
          obtain ⟨hy0, hy1⟩ := HU.out y hym
          have hpl : p < l.length := by omega
          have hdrop : (l.take (k + 1)).drop p = y :: (l.take (k + 1)).drop (p + 1) := by
            have hp' : p < (l.take (k + 1)).length := by rw [HLEN.out]; omega
            rw [List.drop_eq_getElem_cons hp']
            congr 1
            rw [List.getElem_take]
            exact (List.getElem?_eq_some_iff.1 hyl).2
          have HV : Hid (val ((l.take (k + 1)).drop p) = 128 * val ((l.take (k + 1)).drop (p + 1)) + y % 128) := by
            unfold Hid
            rw [hdrop, Int.add_comm]
            rfl
          have hv0 := val_nonneg ((l.take (k + 1)).drop (p + 1))
          have hv1 := val_lt ((l.take (k + 1)).drop (p + 1))
          have hle : ((l.take (k + 1)).drop (p + 1)).length ≤ 7 := by rw [List.length_drop, HLEN.out]; omega
          have hv2 : val ((l.take (k + 1)).drop (p + 1)) ≤ 562949953421312 := by
            have h3 : (128 : Nat) ^ ((l.take (k + 1)).drop (p + 1)).length ≤ 128 ^ 7 := Nat.pow_le_pow_right (by omega) hle
            have h4 : ((128 ^ ((l.take (k + 1)).drop (p + 1)).length : Nat) : Int) = (128 : Int) ^ ((l.take (k + 1)).drop (p + 1)).length := by simp
            omega
          clear hyc hyl hdrop ep hv1 hle
          generalize val ((l.take (k + 1)).drop (p + 1)) = V at *
          go_wp2
          go_round
          case rel => exact ⟨p, by omega, by go_num, by rw [HV.out]⟩
          case measure => simp [intOf]
        · obtain rfl : q = 0 := by omega
          rw [List.drop_zero, HVAL.out]
          go_wp2
          go_ret
          exact ⟨rfl, HRM.out.err, (Only.refl _ _).put _ _⟩

set_option maxRecDepth 100000 in
set_option maxHeartbeats 1000000 in
theorem MU_one_big (g L B : Nat) (l : List Int) (w : World) (h : Rm w g L B l 0) (i : Nat) (z : Int) (hz : l[i]? = some z) (h8 : i < 8) (h128 : z < 128) (hall : ∀ x ∈ l.take i, 128 ≤ x) (h0 : i = 0) (hbig : 18014398509481982 < val (l.take (i + 1))) :
    Calls Tryd.prog 41 #[.pointer (some ⟨g, 0, none⟩)] w (RmPost g L B w 0 l 4) := by
  have hrm := h
  obtain ⟨A, c, hblk, hrow, hne, hl, hlc, hB, hu⟩ := h
  have c0 : w.cell? ⟨g, 0, none⟩ = some (.slice A l.length c) := hblk.cell 0
  have c1 : w.cell? ⟨g, 1, none⟩ = some (.int .i64 0) := hblk.cell 1
  have f0 := hblk.frozen 0
  have f1 := hblk.frozen 1
  have hil : i < l.length := (List.getElem?_eq_some_iff.1 hz).1
  have hzb := hu z (List.mem_of_getElem? hz)
  obtain ⟨b, off, rfl, _, hc⟩ := hrow.2 (by omega)
  have ci : w.cell? ⟨b, off + i, none⟩ = some (.int .u8 z) := (hc i hil).trans (by simp [ints, hz])
  have hlen : (l.take (i + 1)).length = i + 1 := by rw [List.length_take]; omega
  have HC := Lib.hid hc
  have HALL := Lib.hid hall
  have HRM := Lib.hid hrm
  have HR := Lib.hid hrow
  have HB := Lib.hid hblk
  have HN := Lib.hid hne
  have HU := Lib.hid hu
  have HLEN := Lib.hid hlen
  generalize hval : val (l.take (i + 1)) = V
  rw [hval] at hbig
  have HVAL := Lib.hid hval
  have dbig : decide (18014398509481982 < V) = true := by simpa using hbig
  clear hval
  have d0 : decide (0 < i) = false := by simp; omega
  have H0 := Lib.hid h0
  clear h0
  clear hc hall hrm hrow hblk hne hu hz hlen
  go_enter Tryd.func41, Tryd.ntmps41
  go_wp2
  go_loop [3] (fun j => ∃ k : Nat, k ≤ i ∧ j = .int .i64 k) (fun j => i - (intOf j).toNat)
  case atStart => exact ⟨0, by omega, rfl⟩
  case round =>
    obtain ⟨k, hk, rfl⟩ := hrel
    by_cases hlt : k < i
    · have hkl : k < l.length := by omega
      have hk8 : k < 8 := by omega
      obtain ⟨y, hyc, hyl, _, _⟩ := ints_at .u8 l k (by omega)
      have ck : w.cell? ⟨b, off + k, none⟩ = some (.int .u8 y) := (HC.out k (by omega)).trans hyc
      have hy : 128 ≤ y := HALL.out y (by rw [List.mem_take_iff_getElem]; exact ⟨k, by omega, by have := (List.getElem?_eq_some_iff.1 hyl).2; exact this⟩)
      clear hyc hyl
      go_wp2
      go_round
      case rel => exact ⟨k + 1, by omega, by go_num⟩
      case measure => simp [intOf]; omega
    · obtain rfl : k = i := by omega
      have e1 : ((k : Int) == 8) = false := by simp; omega
      have e2 : ((k : Int) == (l.length : Int)) = false := by simp; omega
      go_wp2
      clear e1 e2
      go_loop [4, 5] (fun n j => ∃ q : Nat, q ≤ k + 1 ∧ j = .int .i64 ((q : Int) - 1) ∧ n = .int .i64 (val ((l.take (k + 1)).drop q))) (fun _ j => (intOf j + 1).toNat)
      case atStart => exact ⟨k + 1, by omega, by go_num, by rw [List.drop_of_length_le (by rw [HLEN.out]; omega)]; rfl⟩
      case round =>
        obtain ⟨q, hq, rfl, rfl⟩ := hrel
        by_cases hq0 : 0 < q
        · obtain ⟨p, rfl⟩ : ∃ p, q = p + 1 := ⟨q - 1, by omega⟩
          have ep : (((p + 1 : Nat) : Int) - 1) = (p : Int) := by omega
          rw [ep]
          obtain ⟨y, hyc, hyl, _, hym⟩ := ints_at .u8 l p (by omega)
          have cp : w.cell? ⟨b, off + p, none⟩ = some (.int .u8 y) := (HC.out p (by omega)).trans hyc
          obtain ⟨hy0, hy1⟩ := HU.out y hym
          have hpl : p < l.length := by omega
          have hdrop : (l.take (k + 1)).drop p = y :: (l.take (k + 1)).drop (p + 1) := by
            have hp' : p < (l.take (k + 1)).length := by rw [HLEN.out]; omega
            rw [List.drop_eq_getElem_cons hp']
            congr 1
            rw [List.getElem_take]
            exact (List.getElem?_eq_some_iff.1 hyl).2
          have HV : Hid (val ((l.take (k + 1)).drop p) = 128 * val ((l.take (k + 1)).drop (p + 1)) + y % 128) := by
            unfold Hid
            rw [hdrop, Int.add_comm]
            rfl
          have hv0 := val_nonneg ((l.take (k + 1)).drop (p + 1))
          have hv1 := val_lt ((l.take (k + 1)).drop (p + 1))
          have hle : ((l.take (k + 1)).drop (p + 1)).length ≤ 7 := by rw [List.length_drop, HLEN.out]; omega
          have hv2 : val ((l.take (k + 1)).drop (p + 1)) ≤ 562949953421312 := by
            have h3 : (128 : Nat) ^ ((l.take (k + 1)).drop (p + 1)).length ≤ 128 ^ 7 := Nat.pow_le_pow_right (by omega) hle
            have h4 : ((128 ^ ((l.take (k + 1)).drop (p + 1)).length : Nat) : Int) = (128 : Int) ^ ((l.take (k + 1)).drop (p + 1)).length := by simp
            omega
          clear hyc hyl hdrop ep hv1 hle
          generalize val ((l.take (k + 1)).drop (p + 1)) = V at *
          go_wp2
          go_round
          case rel => exact ⟨p, by omega, by go_num, by rw [HV.out]⟩
          case measure => simp [intOf]
        · obtain rfl : q = 0 := by omega
          rw [List.drop_zero, HVAL.out]
          go_wp2
          go_ret
          exact ⟨rfl, HRM.out.err, (Only.refl _ _).put _ _⟩

set_option maxRecDepth 100000 in
set_option maxHeartbeats 1000000 in
theorem MU_one_good (g L B : Nat) (l : List Int) (w : World) (h : Rm w g L B l 0) (i : Nat) (z : Int) (hz : l[i]? = some z) (h8 : i < 8) (h128 : z < 128) (hall : ∀ x ∈ l.take i, 128 ≤ x) (h0 : i = 0) (hbig : ¬ 18014398509481982 < val (l.take (i + 1))) :
    Calls Tryd.prog 41 #[.pointer (some ⟨g, 0, none⟩)] w (RmPost g L B w (val (l.take (i + 1))) (l.drop (i + 1)) 0) := by
  have hrm := h
  obtain ⟨A, c, hblk, hrow, hne, hl, hlc, hB, hu⟩ := h
  have c0 : w.cell? ⟨g, 0, none⟩ = some (.slice A l.length c) := hblk.cell 0
  have c1 : w.cell? ⟨g, 1, none⟩ = some (.int .i64 0) := hblk.cell 1
  have f0 := hblk.frozen 0
  have f1 := hblk.frozen 1
  have hil : i < l.length := (List.getElem?_eq_some_iff.1 hz).1
  have hzb := hu z (List.mem_of_getElem? hz)
  obtain ⟨b, off, rfl, _, hc⟩ := hrow.2 (by omega)
  have ci : w.cell? ⟨b, off + i, none⟩ = some (.int .u8 z) := (hc i hil).trans (by simp [ints, hz])
  have hlen : (l.take (i + 1)).length = i + 1 := by rw [List.length_take]; omega
  have HC := Lib.hid hc
  have HALL := Lib.hid hall
  have HRM := Lib.hid hrm
  have HR := Lib.hid hrow
  have HB := Lib.hid hblk
  have HN := Lib.hid hne
  have HU := Lib.hid hu
  have HLEN := Lib.hid hlen
  generalize hval : val (l.take (i + 1)) = V
  rw [hval] at hbig
  have HVAL := Lib.hid hval
  have dbig : decide (18014398509481982 < V) = false := by simpa using hbig
  clear hval
  have d0 : decide (0 < i) = false := by simp; omega
  have H0 := Lib.hid h0
  clear h0
  clear hc hall hrm hrow hblk hne hu hz hlen
  go_enter Tryd.func41, Tryd.ntmps41
  go_wp2
  go_loop [3] (fun j => ∃ k : Nat, k ≤ i ∧ j = .int .i64 k) (fun j => i - (intOf j).toNat)
  case atStart => exact ⟨0, by omega, rfl⟩
  case round =>
    obtain ⟨k, hk, rfl⟩ := hrel
    by_cases hlt : k < i
    · have hkl : k < l.length := by omega
      have hk8 : k < 8 := by omega
      obtain ⟨y, hyc, hyl, _, _⟩ := ints_at .u8 l k (by omega)
      have ck : w.cell? ⟨b, off + k, none⟩ = some (.int .u8 y) := (HC.out k (by omega)).trans hyc
      have hy : 128 ≤ y := HALL.out y (by rw [List.mem_take_iff_getElem]; exact ⟨k, by omega, by have := (List.getElem?_eq_some_iff.1 hyl).2; exact this⟩)
      clear hyc hyl
      go_wp2
      go_round
      case rel => exact ⟨k + 1, by omega, by go_num⟩
      case measure => simp [intOf]; omega
    · obtain rfl : k = i := by omega
      have e1 : ((k : Int) == 8) = false := by simp; omega
      have e2 : ((k : Int) == (l.length : Int)) = false := by simp; omega
      go_wp2
      clear e1 e2
      go_loop [4, 5] (fun n j => ∃ q : Nat, q ≤ k + 1 ∧ j = .int .i64 ((q : Int) - 1) ∧ n = .int .i64 (val ((l.take (k + 1)).drop q))) (fun _ j => (intOf j + 1).toNat)
      case atStart => exact ⟨k + 1, by omega, by go_num, by rw [List.drop_of_length_le (by rw [HLEN.out]; omega)]; rfl⟩
      case round =>
        obtain ⟨q, hq, rfl, rfl⟩ := hrel
        by_cases hq0 : 0 < q
        · obtain ⟨p, rfl⟩ : ∃ p, q = p + 1 := ⟨q - 1, by omega⟩
          have ep : (((p + 1 : Nat) : Int) - 1) = (p : Int) := by omega
          rw [ep]
          obtain ⟨y, hyc, hyl, _, hym⟩ := ints_at .u8 l p (by omega)
          have cp : w.cell? ⟨b, off + p, none⟩ = some (.int .u8 y) := (HC.out p (by omega)).trans hyc
          obtain ⟨hy0, hy1⟩ := HU.out y hym
          have hpl : p < l.length := by omega
          have hdrop : (l.take (k + 1)).drop p = y :: (l.take (k + 1)).drop (p + 1) := by
            have hp' : p < (l.take (k + 1)).length := by rw [HLEN.out]; omega
            rw [List.drop_eq_getElem_cons hp']
            congr 1
            rw [List.getElem_take]
            exact (List.getElem?_eq_some_iff.1 hyl).2
          have HV : Hid (val ((l.take (k + 1)).drop p) = 128 * val ((l.take (k + 1)).drop (p + 1)) + y % 128) := by
            unfold Hid
            rw [hdrop, Int.add_comm]
            rfl
          have hv0 := val_nonneg ((l.take (k + 1)).drop (p + 1))
          have hv1 := val_lt ((l.take (k + 1)).drop (p + 1))
          have hle : ((l.take (k + 1)).drop (p + 1)).length ≤ 7 := by rw [List.length_drop, HLEN.out]; omega
          have hv2 : val ((l.take (k + 1)).drop (p + 1)) ≤ 562949953421312 := by
            have h3 : (128 : Nat) ^ ((l.take (k + 1)).drop (p + 1)).length ≤ 128 ^ 7 := Nat.pow_le_pow_right (by omega) hle
            have h4 : ((128 ^ ((l.take (k + 1)).drop (p + 1)).length : Nat) : Int) = (128 : Int) ^ ((l.take (k + 1)).drop (p + 1)).length := by simp
            omega
          clear hyc hyl hdrop ep hv1 hle
          generalize val ((l.take (k + 1)).drop (p + 1)) = V at *
          go_wp2
          go_round
          case rel => exact ⟨p, by omega, by go_num, by rw [HV.out]⟩
          case measure => simp [intOf]
        · obtain rfl : q = 0 := by omega
          rw [List.drop_zero, HVAL.out]
          go_wp2
          · have hci : c = k + 1 := by assumption
            go_ret
            exact ⟨rfl, Rm.drop HB.out HR.out HN.out hl hB HU.out (by omega) hlc _ _ (by omega) (.inl ⟨rfl, hci⟩), (Only.refl _ _).put _ _⟩
          · go_ret
            exact ⟨rfl, Rm.drop HB.out HR.out HN.out hl hB HU.out (by omega) hlc _ _ rfl (.inr (by simp [Addr.add])), (Only.refl _ _).put _ _⟩

set_option maxRecDepth 100000 in
set_option maxHeartbeats 1000000 in
theorem MU_more_big (g L B : Nat) (l : List Int) (w : World) (h : Rm w g L B l 0) (i : Nat) (z : Int) (hz : l[i]? = some z) (h8 : i < 8) (h128 : z < 128) (hall : ∀ x ∈ l.take i, 128 ≤ x) (h0 : 0 < i) (hz0 : (z == 0) = false) (hbig : 18014398509481982 < val (l.take (i + 1))) :
    Calls Tryd.prog 41 #[.pointer (some ⟨g, 0, none⟩)] w (RmPost g L B w 0 l 4) := by
  have hrm := h
  obtain ⟨A, c, hblk, hrow, hne, hl, hlc, hB, hu⟩ := h
  have c0 : w.cell? ⟨g, 0, none⟩ = some (.slice A l.length c) := hblk.cell 0
  have c1 : w.cell? ⟨g, 1, none⟩ = some (.int .i64 0) := hblk.cell 1
  have f0 := hblk.frozen 0
  have f1 := hblk.frozen 1
  have hil : i < l.length := (List.getElem?_eq_some_iff.1 hz).1
  have hzb := hu z (List.mem_of_getElem? hz)
  obtain ⟨b, off, rfl, _, hc⟩ := hrow.2 (by omega)
  have ci : w.cell? ⟨b, off + i, none⟩ = some (.int .u8 z) := (hc i hil).trans (by simp [ints, hz])
  have hlen : (l.take (i + 1)).length = i + 1 := by rw [List.length_take]; omega
  have HC := Lib.hid hc
  have HALL := Lib.hid hall
  have HRM := Lib.hid hrm
  have HR := Lib.hid hrow
  have HB := Lib.hid hblk
  have HN := Lib.hid hne
  have HU := Lib.hid hu
  have HLEN := Lib.hid hlen
  generalize hval : val (l.take (i + 1)) = V
  rw [hval] at hbig
  have HVAL := Lib.hid hval
  have dbig : decide (18014398509481982 < V) = true := by simpa using hbig
  clear hval
  have d0 : decide ((0 : Int) < (i : Int)) = true := by simp; omega
  clear hc hall hrm hrow hblk hne hu hz hlen
  go_enter Tryd.func41, Tryd.ntmps41
  go_wp2
  go_loop [3] (fun j => ∃ k : Nat, k ≤ i ∧ j = .int .i64 k) (fun j => i - (intOf j).toNat)
  case atStart => exact ⟨0, by omega, rfl⟩
  case round =>
    obtain ⟨k, hk, rfl⟩ := hrel
    by_cases hlt : k < i
    · have hkl : k < l.length := by omega
      have hk8 : k < 8 := by omega
      obtain ⟨y, hyc, hyl, _, _⟩ := ints_at .u8 l k (by omega)
      have ck : w.cell? ⟨b, off + k, none⟩ = some (.int .u8 y) := (HC.out k (by omega)).trans hyc
      have hy : 128 ≤ y := HALL.out y (by rw [List.mem_take_iff_getElem]; exact ⟨k, by omega, by have := (List.getElem?_eq_some_iff.1 hyl).2; exact this⟩)
      clear hyc hyl
      go_wp2
      go_round
      case rel => exact ⟨k + 1, by omega, by go_num⟩
      case measure => simp [intOf]; omega
    · obtain rfl : k = i := by omega
      have e1 : ((k : Int) == 8) = false := by simp; omega
      have e2 : ((k : Int) == (l.length : Int)) = false := by simp; omega
      go_wp2
      clear e1 e2
      go_loop [4, 5] (fun n j => ∃ q : Nat, q ≤ k + 1 ∧ j = .int .i64 ((q : Int) - 1) ∧ n = .int .i64 (val ((l.take (k + 1)).drop q))) (fun _ j => (intOf j + 1).toNat)
      case atStart => exact ⟨k + 1, by omega, by go_num, by rw [List.drop_of_length_le (by rw [HLEN.out]; omega)]; rfl⟩
      case round =>
        obtain ⟨q, hq, rfl, rfl⟩ := hrel
        by_cases hq0 : 0 < q
        · obtain ⟨p, rfl⟩ : ∃ p, q = p + 1 := ⟨q - 1, by omega⟩
          have ep : (((p + 1 : Nat) : Int) - 1) = (p : Int) := by omega
          rw [ep]
          obtain ⟨y, hyc, hyl, _, hym⟩ := ints_at .u8 l p (by omega)
          have cp : w.cell? ⟨b, off + p, none⟩ = some (.int .u8 y) := (HC.out p (by omega)).trans hyc
          obtain ⟨hy0, hy1⟩ := HU.out y hym
          have hpl : p < l.length := by omega
          have hdrop : (l.take (k + 1)).drop p = y :: (l.take (k + 1)).drop (p + 1) := by
            have hp' : p < (l.take (k + 1)).length := by rw [HLEN.out]; omega
            rw [List.drop_eq_getElem_cons hp']
            congr 1
            rw [List.getElem_take]
            exact (List.getElem?_eq_some_iff.1 hyl).2
          have HV : Hid (val ((l.take (k + 1)).drop p) = 128 * val ((l.take (k + 1)).drop (p + 1)) + y % 128) := by
            unfold Hid
            rw [hdrop, Int.add_comm]
            rfl
          have hv0 := val_nonneg ((l.take (k + 1)).drop (p + 1))
          have hv1 := val_lt ((l.take (k + 1)).drop (p + 1))
          have hle : ((l.take (k + 1)).drop (p + 1)).length ≤ 7 := by rw [List.length_drop, HLEN.out]; omega
          have hv2 : val ((l.take (k + 1)).drop (p + 1)) ≤ 562949953421312 := by
            have h3 : (128 : Nat) ^ ((l.take (k + 1)).drop (p + 1)).length ≤ 128 ^ 7 := Nat.pow_le_pow_right (by omega) hle
            have h4 : ((128 ^ ((l.take (k + 1)).drop (p + 1)).length : Nat) : Int) = (128 : Int) ^ ((l.take (k + 1)).drop (p + 1)).length := by simp
            omega
          clear hyc hyl hdrop ep hv1 hle
          generalize val ((l.take (k + 1)).drop (p + 1)) = V at *
          go_wp2
          go_round
          case rel => exact ⟨p, by omega, by go_num, by rw [HV.out]⟩
          case measure => simp [intOf]
        · obtain rfl : q = 0 := by omega
          rw [List.drop_zero, HVAL.out]
          go_wp2
          go_ret
          exact ⟨rfl, HRM.out.err, (Only.refl _ _).put _ _⟩

set_option maxRecDepth 100000 in
set_option maxHeartbeats 1000000 in
theorem MU_more_good (g L B : Nat) (l : List Int) (w : World) (h : Rm w g L B l 0) (i : Nat) (z : Int) (hz : l[i]? = some z) (h8 : i < 8) (h128 : z < 128) (hall : ∀ x ∈ l.take i, 128 ≤ x) (h0 : 0 < i) (hz0 : (z == 0) = false) (hbig : ¬ 18014398509481982 < val (l.take (i + 1))) :
    Calls Tryd.prog 41 #[.pointer (some ⟨g, 0, none⟩)] w (RmPost g L B w (val (l.take (i + 1))) (l.drop (i + 1)) 0) := by
  have hrm := h
  obtain ⟨A, c, hblk, hrow, hne, hl, hlc, hB, hu⟩ := h
  have c0 : w.cell? ⟨g, 0, none⟩ = some (.slice A l.length c) := hblk.cell 0
  have c1 : w.cell? ⟨g, 1, none⟩ = some (.int .i64 0) := hblk.cell 1
  have f0 := hblk.frozen 0
  have f1 := hblk.frozen 1
  have hil : i < l.length := (List.getElem?_eq_some_iff.1 hz).1
  have hzb := hu z (List.mem_of_getElem? hz)
  obtain ⟨b, off, rfl, _, hc⟩ := hrow.2 (by omega)
  have ci : w.cell? ⟨b, off + i, none⟩ = some (.int .u8 z) := (hc i hil).trans (by simp [ints, hz])
  have hlen : (l.take (i + 1)).length = i + 1 := by rw [List.length_take]; omega
  have HC := Lib.hid hc
  have HALL := Lib.hid hall
  have HRM := Lib.hid hrm
  have HR := Lib.hid hrow
  have HB := Lib.hid hblk
  have HN := Lib.hid hne
  have HU := Lib.hid hu
  have HLEN := Lib.hid hlen
  generalize hval : val (l.take (i + 1)) = V
  rw [hval] at hbig
  have HVAL := Lib.hid hval
  have dbig : decide (18014398509481982 < V) = false := by simpa using hbig
  clear hval
  have d0 : decide ((0 : Int) < (i : Int)) = true := by simp; omega
  clear hc hall hrm hrow hblk hne hu hz hlen
  go_enter Tryd.func41, Tryd.ntmps41
  go_wp2
  go_loop [3] (fun j => ∃ k : Nat, k ≤ i ∧ j = .int .i64 k) (fun j => i - (intOf j).toNat)
  case atStart => exact ⟨0, by omega, rfl⟩
  case round =>
    obtain ⟨k, hk, rfl⟩ := hrel
    by_cases hlt : k < i
    · have hkl : k < l.length := by omega
      have hk8 : k < 8 := by omega
      obtain ⟨y, hyc, hyl, _, _⟩ := ints_at .u8 l k (by omega)
      have ck : w.cell? ⟨b, off + k, none⟩ = some (.int .u8 y) := (HC.out k (by omega)).trans hyc
      have hy : 128 ≤ y := HALL.out y (by rw [List.mem_take_iff_getElem]; exact ⟨k, by omega, by have := (List.getElem?_eq_some_iff.1 hyl).2; exact this⟩)
      clear hyc hyl
      go_wp2
      go_round
      case rel => exact ⟨k + 1, by omega, by go_num⟩
      case measure => simp [intOf]; omega
    · obtain rfl : k = i := by omega
      have e1 : ((k : Int) == 8) = false := by simp; omega
      have e2 : ((k : Int) == (l.length : Int)) = false := by simp; omega
      go_wp2
      clear e1 e2
      go_loop [4, 5] (fun n j => ∃ q : Nat, q ≤ k + 1 ∧ j = .int .i64 ((q : Int) - 1) ∧ n = .int .i64 (val ((l.take (k + 1)).drop q))) (fun _ j => (intOf j + 1).toNat)
      case atStart => exact ⟨k + 1, by omega, by go_num, by rw [List.drop_of_length_le (by rw [HLEN.out]; omega)]; rfl⟩
      case round =>
        obtain ⟨q, hq, rfl, rfl⟩ := hrel
        by_cases hq0 : 0 < q
        · obtain ⟨p, rfl⟩ : ∃ p, q = p + 1 := ⟨q - 1, by omega⟩
          have ep : (((p + 1 : Nat) : Int) - 1) = (p : Int) := by omega
          rw [ep]
          obtain ⟨y, hyc, hyl, _, hym⟩ := ints_at .u8 l p (by omega)
          have cp : w.cell? ⟨b, off + p, none⟩ = some (.int .u8 y) := (HC.out p (by omega)).trans hyc
          obtain ⟨hy0, hy1⟩ := HU.out y hym
          have hpl : p < l.length := by omega
          have hdrop : (l.take (k + 1)).drop p = y :: (l.take (k + 1)).drop (p + 1) := by
            have hp' : p < (l.take (k + 1)).length := by rw [HLEN.out]; omega
            rw [List.drop_eq_getElem_cons hp']
            congr 1
            rw [List.getElem_take]
            exact (List.getElem?_eq_some_iff.1 hyl).2
          have HV : Hid (val ((l.take (k + 1)).drop p) = 128 * val ((l.take (k + 1)).drop (p + 1)) + y % 128) := by
            unfold Hid
            rw [hdrop, Int.add_comm]
            rfl
          have hv0 := val_nonneg ((l.take (k + 1)).drop (p + 1))
          have hv1 := val_lt ((l.take (k + 1)).drop (p + 1))
          have hle : ((l.take (k + 1)).drop (p + 1)).length ≤ 7 := by rw [List.length_drop, HLEN.out]; omega
          have hv2 : val ((l.take (k + 1)).drop (p + 1)) ≤ 562949953421312 := by
            have h3 : (128 : Nat) ^ ((l.take (k + 1)).drop (p + 1)).length ≤ 128 ^ 7 := Nat.pow_le_pow_right (by omega) hle
            have h4 : ((128 ^ ((l.take (k + 1)).drop (p + 1)).length : Nat) : Int) = (128 : Int) ^ ((l.take (k + 1)).drop (p + 1)).length := by simp
            omega
          clear hyc hyl hdrop ep hv1 hle
          generalize val ((l.take (k + 1)).drop (p + 1)) = V at *
          go_wp2
          go_round
          case rel => exact ⟨p, by omega, by go_num, by rw [HV.out]⟩
          case measure => simp [intOf]
        · obtain rfl : q = 0 := by omega
          rw [List.drop_zero, HVAL.out]
          go_wp2
          · have hci : c = k + 1 := by assumption
            go_ret
            exact ⟨rfl, Rm.drop HB.out HR.out HN.out hl hB HU.out (by omega) hlc _ _ (by omega) (.inl ⟨rfl, hci⟩), (Only.refl _ _).put _ _⟩
          · go_ret
            exact ⟨rfl, Rm.drop HB.out HR.out HN.out hl hB HU.out (by omega) hlc _ _ rfl (.inr (by simp [Addr.add])), (Only.refl _ _).put _ _⟩

theorem MU_all (g L B : Nat) (l : List Int) (w : World) (h : Rm w g L B l 0) :
    Calls Tryd.prog 41 #[.pointer (some ⟨g, 0, none⟩)] w (RmPost g L B w (rdU l).1 (rest l (rdU l).2.2 (rdU l).2.1) (rdU l).2.2) := by
  cases he : endAt l with
  | none =>
    have hall : ∀ x ∈ l, 128 ≤ x := by
      unfold endAt at he
      rw [List.findIdx?_eq_none_iff] at he
      intro x hx
      simpa using he x hx
    simp only [rdU, he]
    by_cases h8 : 8 ≤ l.length
    · simp only [if_pos h8]
      exact MU_long g L B l w h h8 (fun x hx => hall x (List.mem_of_mem_take hx))
    · simp only [if_neg h8]
      exact MU_short g L B l w h (by omega) hall
  | some i =>
    obtain ⟨z, hz, h128, hall⟩ := endAt_some he
    have hi : i < l.length := (List.getElem?_eq_some_iff.1 hz).1
    simp only [rdU, he]
    by_cases h8 : 8 ≤ i
    · simp only [if_pos h8]
      exact MU_long g L B l w h (by omega) (fun x hx => hall x (List.take_subset_take_left l h8 hx))
    · simp only [if_neg h8]
      by_cases h0 : 0 < i ∧ l[i]? = some 0
      · simp only [if_pos h0]
        have hz0 : z = 0 := by rw [hz] at h0; injection h0.2
        exact MU_zero g L B l w h i z hz (by omega) h128 hall h0.1 hz0
      · simp only [if_neg h0]
        by_cases hi0 : i = 0
        · by_cases hb : 18014398509481982 < val (l.take (i + 1))
          · simp only [if_pos hb]
            exact MU_one_big g L B l w h i z hz (by omega) h128 hall hi0 hb
          · simp only [if_neg hb]
            exact MU_one_good g L B l w h i z hz (by omega) h128 hall hi0 hb
        · have hz0 : (z == 0) = false := by
            have : z ≠ 0 := fun e => h0 ⟨by omega, by rw [hz, e]⟩
            simpa using this
          by_cases hb : 18014398509481982 < val (l.take (i + 1))
          · simp only [if_pos hb]
            exact MU_more_big g L B l w h i z hz (by omega) h128 hall (by omega) hz0 hb
          · simp only [if_neg hb]
            exact MU_more_good g L B l w h i z hz (by omega) h128 hall (by omega) hz0 hb

/-! ### The states: what is left, and the error -/
def uV (l : List Int) (x : Int) : Int := if x = 0 then (rdU l).1 else 0
def uL (l : List Int) (x : Int) : List Int := if x = 0 then (rdU l).2.1 else l
def uX (l : List Int) (x : Int) : Int := if x = 0 then (rdU l).2.2 else x

theorem rdU_left (l : List Int) (h : (rdU l).2.2 ≠ 0) : (rdU l).2.1 = [] := by
  unfold rdU at *
  cases he : endAt l with
  | none => simp only [he] at h ⊢; split <;> rfl
  | some i =>
    simp only [he] at h ⊢
    repeat' split
    all_goals simp_all
theorem uL_err {l : List Int} {x : Int} (h : x ≠ 0 → l = []) : uX l x ≠ 0 → uL l x = [] := by
  unfold uX uL
  by_cases hx : x = 0
  · simp only [if_pos hx]; exact rdU_left l
  · simp only [if_neg hx]; exact h
theorem uV_bd (l : List Int) (x : Int) : 0 ≤ uV l x ∧ uV l x ≤ 18014398509481982 := by
  unfold uV
  split
  · exact rdU_bd l
  · omega

theorem RU_st (g B : Nat) (l : List Int) (x : Int) (w : World) (h : Rd w g B l x) :
    Calls Tryd.prog 34 #[.pointer (some ⟨g, 0, none⟩)] w (RdPost g B w (uV l x) (uL l x) (uX l x)) := by
  unfold uV uL uX
  by_cases hx : x = 0
  · subst hx
    simp only [if_true]
    exact RU_all g B l w h
  · simp only [if_neg hx]
    refine (RU_err g B l x w h hx).mono ?_
    rintro e w' ⟨rfl, rfl⟩
    exact ⟨rfl, h, Only.refl _ _⟩

/-- The document's own reader beside it. -/
def MPost (g L B : Nat) (w : World) (v : Int) (l : List Int) (x : Int) (e : Ending) (w' : World) : Prop :=
  ∃ l', e = .returned (.int .i64 v) ∧ Rm w' g L B l' x ∧ (x = 0 → l' = l) ∧ Only g w w'

theorem MU_st (g L B : Nat) (l l2 : List Int) (x : Int) (w : World) (h : Rm w g L B l2 x) (he : x = 0 → l2 = l) :
    Calls Tryd.prog 41 #[.pointer (some ⟨g, 0, none⟩)] w (MPost g L B w (uV l x) (uL l x) (uX l x)) := by
  unfold uV uL uX
  by_cases hx : x = 0
  · obtain rfl := he hx
    subst hx
    simp only [if_true]
    refine (MU_all g L B l2 w h).mono ?_
    rintro e w' ⟨rfl, hr, ho⟩
    exact ⟨_, rfl, hr, fun h0 => by simp [rest, h0], ho⟩
  · simp only [if_neg hx]
    refine (MU_err g L B l2 x w h hx).mono ?_
    rintro e w' ⟨rfl, rfl⟩
    exact ⟨_, rfl, h, fun h0 => absurd h0 hx, Only.refl _ _⟩

set_option maxRecDepth 100000 in
theorem RS_st (g B : Nat) (l : List Int) (x : Int) (w : World) (h : Rd w g B l x) :
    Calls Tryd.prog 35 #[.pointer (some ⟨g, 0, none⟩)] w (RdPost g B w (unzz (uV l x)) (uL l x) (uX l x)) := by
  have hU := RU_st g B l x w h
  obtain ⟨b1, b2⟩ := uV_bd l x
  generalize uV l x = v at *
  generalize uL l x = l' at *
  generalize uX l x = y at *
  have HU := Lib.hid hU
  have ha := and_one b1 (by omega)
  clear hU
  by_cases hodd : v % 2 = 1
  case' pos => rw [hodd] at ha
  case' pos => have HV : Hid (unzz v = wrap64 (-((v + 1).tdiv 2))) := by
                unfold Hid unzz
                rw [if_pos hodd, Int.tdiv_eq_ediv_of_nonneg (by omega), IntWalk.wrap64_in _ (by omega)]
  case' neg => rw [show v % 2 = 0 by omega] at ha
  case' neg => have HV : Hid (unzz v = v / 2) := by
                unfold Hid unzz
                rw [if_neg hodd]
  all_goals
    clear hodd
    go_enter Tryd.func35, Tryd.ntmps35
    go_wp2_with fail
    refine HU.out.mono ?_
    rintro e w1 ⟨rfl, hrd, ho⟩
    go_wp2
    go_ret
    exact ⟨by rw [HV.out]; rfl, hrd, ho⟩

set_option maxRecDepth 100000 in
theorem MS_st (g L B : Nat) (l l2 : List Int) (x : Int) (w : World) (h : Rm w g L B l2 x) (he : x = 0 → l2 = l) :
    Calls Tryd.prog 42 #[.pointer (some ⟨g, 0, none⟩)] w (MPost g L B w (unzz (uV l x)) (uL l x) (uX l x)) := by
  have hU := MU_st g L B l l2 x w h he
  obtain ⟨b1, b2⟩ := uV_bd l x
  generalize uV l x = v at *
  generalize uL l x = l' at *
  generalize uX l x = y at *
  have HU := Lib.hid hU
  clear hU
  by_cases hodd : v % 2 = 1
  case' pos => have ha : (v % 2 == 1) = true := by simpa using hodd
  case' pos => have HV : Hid (unzz v = wrap64 (-((v + 1).tdiv 2))) := by
                unfold Hid unzz
                rw [if_pos hodd, Int.tdiv_eq_ediv_of_nonneg (by omega), IntWalk.wrap64_in _ (by omega)]
  case' neg => have ha : (v % 2 == 1) = false := by simpa using hodd
  case' neg => have HV : Hid (unzz v = v / 2) := by
                unfold Hid unzz
                rw [if_neg hodd]
  all_goals
    clear hodd
    go_enter Tryd.func42, Tryd.ntmps42
    go_wp2_with fail
    refine HU.out.mono ?_
    rintro e w1 ⟨l3, rfl, hrd, h0, ho⟩
    go_wp2
    go_ret
    exact ⟨l3, by rw [HV.out]; rfl, hrd, h0, ho⟩

/-! ### A text -/
def tV (l : List Int) (x most : Int) : List Int := if uX l x ≠ 0 ∨ most < uV l x ∨ ((uL l x).length : Int) < uV l x then [] else (uL l x).take (uV l x).toNat
def tL (l : List Int) (x most : Int) : List Int := if uX l x ≠ 0 then uL l x else if most < uV l x ∨ ((uL l x).length : Int) < uV l x then [] else (uL l x).drop (uV l x).toNat
def tX (l : List Int) (x most : Int) : Int := if uX l x ≠ 0 then uX l x else if most < uV l x then 5 else if ((uL l x).length : Int) < uV l x then 3 else 0

theorem tL_err {l : List Int} {x most : Int} (h : x ≠ 0 → l = []) : tX l x most ≠ 0 → tL l x most = [] := by
  have h1 := uL_err h
  unfold tX tL
  by_cases h2 : uX l x ≠ 0
  · simp only [if_pos h2]; exact h1
  · simp only [if_neg h2]
    by_cases h3 : most < uV l x
    · simp [h3]
    · by_cases h4 : ((uL l x).length : Int) < uV l x
      · simp [h4]
      · simp [h3, h4]

def RtPost (g B : Nat) (w : World) (v : List Int) (l : List Int) (x : Int) (e : Ending) (w' : World) : Prop :=
  e = .returned (.string (strOfNums v)) ∧ Rd w' g B l x ∧ Only g w w'
def MtPost (g L B : Nat) (w : World) (v : List Int) (l : List Int) (x : Int) (e : Ending) (w' : World) : Prop :=
  ∃ l', e = .returned (.string (strOfNums v)) ∧ Rm w' g L B l' x ∧ (x = 0 → l' = l) ∧ Only g w w'

theorem emptyStr : (Value.string ByteArray.empty) = .string (strOfNums []) := rfl

set_option maxRecDepth 100000 in
set_option maxHeartbeats 1000000 in
theorem RT_st (g B : Nat) (most : Int) (l : List Int) (x : Int) (w : World) (h : Rd w g B l x) :
    Calls Tryd.prog 36 #[.pointer (some ⟨g, 0, none⟩), .int .i64 most] w (RtPost g B w (tV l x most) (tL l x most) (tX l x most)) := by
  have hU := RU_st g B l x w h
  obtain ⟨b1, b2⟩ := uV_bd l x
  unfold tV tL tX
  generalize uV l x = v at *
  generalize uL l x = l' at *
  generalize uX l x = y at *
  have HU := Lib.hid hU
  clear hU
  by_cases hy : y ≠ 0
  · have hy' : (y != 0) = true := by simpa using hy
    simp only [hy, true_or, if_true, ne_eq, not_false_eq_true]
    clear hy
    go_enter Tryd.func36, Tryd.ntmps36
    go_wp2_with fail
    refine HU.out.mono ?_
    rintro e w1 ⟨rfl, hrd, ho⟩
    have hrd' := hrd
    obtain ⟨A1, c1, hblk, _⟩ := hrd'
    go_wp2_with fail
    refine (Err_made g _ _ _ hblk).mono ?_
    rintro e w' ⟨rfl, rfl⟩
    go_wp2
    go_ret
    exact ⟨rfl, hrd, ho⟩
  · obtain rfl : y = 0 := by omega
    by_cases hm : most < v
    · simp only [hm, true_or, or_true, if_true, if_false, ne_eq, not_true_eq_false]
      go_enter Tryd.func36, Tryd.ntmps36
      go_wp2_with fail
      refine HU.out.mono ?_
      rintro e w1 ⟨rfl, hrd, ho⟩
      obtain ⟨A1, c1, hblk, _, _, _, _, hB, _⟩ := hrd
      go_wp2_with fail
      refine (Err_made g _ _ _ hblk).mono ?_
      rintro e w' ⟨rfl, rfl⟩
      go_wp2_with fail
      refine (fail_made g _ _ _ _ _ hblk).mono ?_
      rintro e w2 ⟨rfl, ho2, hb2⟩
      go_wp2
      go_ret
      exact ⟨rfl, Rd.failed (Nat.le_trans hB ho2.size) hb2, ho.trans ho2⟩
    · by_cases hl : (l'.length : Int) < v
      · simp only [hm, hl, true_or, or_true, if_true, if_false, ne_eq, not_true_eq_false]
        go_enter Tryd.func36, Tryd.ntmps36
        go_wp2_with fail
        refine HU.out.mono ?_
        rintro e w1 ⟨rfl, hrd, ho⟩
        obtain ⟨A1, c1, hblk, _, _, _, _, hB, _⟩ := hrd
        have k1 : w1.cell? ⟨g, 1, none⟩ = some (.slice A1 l'.length c1) := hblk.cell 1
        go_wp2_with fail
        refine (Err_made g _ _ _ hblk).mono ?_
        rintro e w' ⟨rfl, rfl⟩
        go_wp2_with fail
        refine (fail_made g _ _ _ _ _ hblk).mono ?_
        rintro e w2 ⟨rfl, ho2, hb2⟩
        go_wp2
        go_ret
        exact ⟨rfl, Rd.failed (Nat.le_trans hB ho2.size) hb2, ho.trans ho2⟩
      · simp only [hm, hl, or_false, if_false, ne_eq, not_true_eq_false]
        obtain ⟨n, rfl⟩ := Int.eq_ofNat_of_zero_le b1
        simp only [Int.toNat_natCast]
        have hln : n ≤ l'.length := by omega
        go_enter Tryd.func36, Tryd.ntmps36
        go_wp2_with fail
        refine HU.out.mono ?_
        rintro e w1 ⟨rfl, hrd, ho⟩
        obtain ⟨A1, c1, hblk, hrow, hne, hlm, hlc, hB, hu⟩ := hrd
        have k1 : w1.cell? ⟨g, 1, none⟩ = some (.slice A1 l'.length c1) := hblk.cell 1
        have f1 := hblk.frozen 1
        go_wp2_with fail
        refine (Err_made g _ _ _ hblk).mono ?_
        rintro e w' ⟨rfl, rfl⟩
        have hcv := fun c => conv_row (P := Tryd.prog) (hrow.take hln) 24 9 5 Tryd.underlying24 Tryd.underlying5 Tryd.underlying9 c
        have hnc : n ≤ c1 := by omega
        go_wp2
        · have hc : c1 = n := by assumption
          go_ret
          exact ⟨rfl, Rd.drop hblk hrow hne hlm hB hu hln hlc _ _ (by omega) (.inl ⟨rfl, hc⟩), ho.trans ((Only.refl _ _).put _ _)⟩
        · go_ret
          exact ⟨rfl, Rd.drop hblk hrow hne hlm hB hu hln hlc _ _ rfl (.inr rfl), ho.trans ((Only.refl _ _).put _ _)⟩

set_option maxRecDepth 100000 in
set_option maxHeartbeats 1000000 in
theorem MT_st (g L B : Nat) (most : Int) (l l2 : List Int) (x : Int) (w : World) (h : Rm w g L B l2 x) (he : x = 0 → l2 = l) :
    Calls Tryd.prog 43 #[.pointer (some ⟨g, 0, none⟩), .int .i64 most] w (MtPost g L B w (tV l x most) (tL l x most) (tX l x most)) := by
  have hU := MU_st g L B l l2 x w h he
  obtain ⟨b1, b2⟩ := uV_bd l x
  unfold tV tL tX
  generalize uV l x = v at *
  generalize uL l x = l' at *
  generalize uX l x = y at *
  have HU := Lib.hid hU
  clear hU
  by_cases hy : y ≠ 0
  · have hy' : (y != 0) = true := by simpa using hy
    simp only [hy, true_or, if_true, ne_eq, not_false_eq_true]
    have HY := Lib.hid hy
    clear hy
    go_enter Tryd.func43, Tryd.ntmps43
    go_wp2_with fail
    refine HU.out.mono ?_
    rintro e w1 ⟨l3, rfl, hrm, h0, ho⟩
    have hrm' := hrm
    obtain ⟨A1, c1, hblk, _⟩ := hrm'
    have k1 : w1.cell? ⟨g, 1, none⟩ = some (.int .i64 y) := hblk.cell 1
    have H0 := Lib.hid h0
    clear h0
    go_wp2
    go_ret
    exact ⟨l3, rfl, hrm, H0.out, ho⟩
  · obtain rfl : y = 0 := by omega
    by_cases hm : most < v
    · simp only [hm, true_or, or_true, if_true, if_false, ne_eq, not_true_eq_false]
      go_enter Tryd.func43, Tryd.ntmps43
      go_wp2_with fail
      refine HU.out.mono ?_
      rintro e w1 ⟨l3, rfl, hrm, _, ho⟩
      have hrm' := hrm
      obtain ⟨A1, c1, hblk, _⟩ := hrm'
      have k1 : w1.cell? ⟨g, 1, none⟩ = some (.int .i64 0) := hblk.cell 1
      have f1 := hblk.frozen 1
      go_wp2
      go_ret
      exact ⟨l3, rfl, hrm.err, (fun h => absurd h (by decide)), ho.trans ((Only.refl _ _).put _ _)⟩
    · by_cases hl : (l'.length : Int) < v
      · simp only [hm, hl, true_or, or_true, if_true, if_false, ne_eq, not_true_eq_false]
        go_enter Tryd.func43, Tryd.ntmps43
        go_wp2_with fail
        refine HU.out.mono ?_
        rintro e w1 ⟨l3, rfl, hrm, h0, ho⟩
        obtain rfl := h0 rfl
        have hrm' := hrm
        obtain ⟨A1, c1, hblk, _⟩ := hrm'
        have k0 : w1.cell? ⟨g, 0, none⟩ = some (.slice A1 l3.length c1) := hblk.cell 0
        have k1 : w1.cell? ⟨g, 1, none⟩ = some (.int .i64 0) := hblk.cell 1
        have f1 := hblk.frozen 1
        clear h0
        go_wp2
        go_ret
        exact ⟨l3, rfl, hrm.err, (fun h => absurd h (by decide)), ho.trans ((Only.refl _ _).put _ _)⟩
      · simp only [hm, hl, or_false, if_false, ne_eq, not_true_eq_false]
        obtain ⟨n, rfl⟩ := Int.eq_ofNat_of_zero_le b1
        simp only [Int.toNat_natCast]
        have hln : n ≤ l'.length := by omega
        go_enter Tryd.func43, Tryd.ntmps43
        go_wp2_with fail
        refine HU.out.mono ?_
        rintro e w1 ⟨l3, rfl, hrm, h0, ho⟩
        obtain rfl := h0 rfl
        obtain ⟨A1, c1, hblk, hrow, hne, hlm, hlc, hB, hu⟩ := hrm
        have k0 : w1.cell? ⟨g, 0, none⟩ = some (.slice A1 l3.length c1) := hblk.cell 0
        have k1 : w1.cell? ⟨g, 1, none⟩ = some (.int .i64 0) := hblk.cell 1
        have f0 := hblk.frozen 0
        have hcv := fun c => conv_row (P := Tryd.prog) (hrow.take hln) 24 9 5 Tryd.underlying24 Tryd.underlying5 Tryd.underlying9 c
        have hnc : n ≤ c1 := by omega
        clear h0
        go_wp2
        · have hc : c1 = n := by assumption
          go_ret
          exact ⟨_, rfl, Rm.drop hblk hrow hne hlm hB hu hln hlc _ _ (by omega) (.inl ⟨rfl, hc⟩), fun _ => rfl, ho.trans ((Only.refl _ _).put _ _)⟩
        · go_ret
          exact ⟨_, rfl, Rm.drop hblk hrow hne hlm hB hu hln hlc _ _ rfl (.inr rfl), fun _ => rfl, ho.trans ((Only.refl _ _).put _ _)⟩
end Go.Proofs.YtpeepolmbcakbaaDoor
