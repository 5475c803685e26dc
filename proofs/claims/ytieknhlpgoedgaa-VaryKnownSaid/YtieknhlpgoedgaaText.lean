/- vary.Text; (*Reader).S, (*Reader).Text. -/
import Derived.Test.YtieknhlpgoedgaaAwake
import Derived.Test.YtieknhlpgoedgaaShort
namespace Go.Proofs.Ytieknhlpgoedgaa
open Go.RowKit

/-- A text's bytes, as numbers. -/
def nums (s : ByteArray) : List Int := s.data.toList.map fun b => (b.toNat : Int)
theorem nums_len (s : ByteArray) : (nums s).length = s.size := by
  simp only [nums, List.length_map, Array.length_toList]
  rfl
theorem nums_cells (s : ByteArray) : Lib.strCells s = ints .u8 (nums s) := by
  simp [Lib.strCells, ints, nums, List.map_map, Function.comp_def]
theorem nums_byte (s : ByteArray) : ∀ x ∈ nums s, 0 ≤ x ∧ x ≤ 255 := by
  intro x hx
  simp only [nums, List.mem_map] at hx
  obtain ⟨b, _, rfl⟩ := hx
  have := b.toNat_lt
  omega
theorem ofNums_nums (s : ByteArray) : strOfNums (nums s) = s := by
  have h : s.data.toList.map (fun b => UInt8.ofNat (b.toNat : Int).toNat) = s.data.toList := by
    conv => rhs; rw [← List.map_id s.data.toList]
    apply List.map_congr_left
    intro b _
    simp
  simp only [strOfNums, nums, List.map_map, Function.comp_def]
  rw [h]

def tErr (s : ByteArray) : Int := if 65535 < s.size then 5 else 0
def tOut (s : ByteArray) : List Int := if 65535 < s.size then [] else leb s.size ++ nums s

theorem Text_any (s : ByteArray) (w : World) (hs : s.size ≤ 150000000000000) : Calls Try.prog 13 #[.string s] w (Out w (tOut s) (tErr s)) := by
  obtain ⟨i0, hi, hz0, hz1, hz2⟩ := info_parts u8_info
  by_cases h : 65535 < s.size
  · simp only [tErr, tOut, if_pos h]
    have hd : decide ((65535 : Int) < (s.size : Int)) = true := by simp; omega
    go_enter Try.func13, Try.ntmps13
    go_wp2
    go_ret2
    exact Out.nil _ _
  · have hd : decide ((65535 : Int) < (s.size : Int)) = false := by simp; omega
    have hU := U_any s.size w
    rw [show uErr s.size = 0 by rw [uErr, if_neg (by omega)], show uOut s.size = leb s.size by rw [uOut, if_neg (by omega)]; simp] at hU
    have HU := Lib.hid hU
    have hl := leb_len8 (n := s.size) (by omega)
    simp only [tErr, tOut, if_neg h]
    have hn := nums_cells s
    have hn2 := nums_len s
    have HN := Lib.hid hn
    have HN2 := Lib.hid hn2
    clear hU hn hn2
    generalize leb s.size = x at *
    go_enter Try.func13, Try.ntmps13
    go_wp2_with fail
    refine HU.out.mono ?_
    rintro e w1 ⟨A1, c1, rfl, hown, hb⟩
    go_wp2_with (at_builtin; refine Lib.wpList_append_own_string _ rfl (.tmp 15) (.tmp 16) 23 9 rfl w.heap.size 5 i0 Try.underlying23 Try.underlying9 hi hz0 hz1 hz2 _ _ _ rfl hown s rfl (by unfold maxLen; omega) (by omega) hb.size ?_)
    intro v' w2 hown2 hg _
    obtain ⟨A2, c2, rfl⟩ := own_slice hown2
    have hb2 : Below w.heap.size w w2 := hb.grown hg hb.size (fun k hk => (hown.lt k hk).1)
    go_wp2
    go_ret2
    have e1 : x.length + s.size = (x ++ nums s).length := by rw [List.length_append, HN2.out]
    rw [HN.out, ← ints_append, e1] at hown2
    rw [e1]
    exact ⟨A2, c2, rfl, hown2, hb2⟩

def unzz (n : Int) : Int := if n % 2 = 1 then -((n + 1) / 2) else n / 2
theorem and64 (a b : Nat) (ha : a < 9223372036854775808) (hb : b < 9223372036854775808) : bits .and .i64 (a : Int) (b : Int) = ((a &&& b : Nat) : Int) := by
  have hx : a &&& b < 2 ^ 63 := Nat.and_lt_two_pow _ (by omega)
  show IntKind.i64.wrap ((BitVec.ofInt 64 (a : Int) &&& BitVec.ofInt 64 (b : Int)).toNat : Int) = _
  rw [BitVec.toNat_and, ofInt64 a ha, ofInt64 b hb, IntKind.wrap_i64]
  omega
theorem and_one {n : Int} (h0 : 0 ≤ n) (h1 : n ≤ 9223372036854775807) : bits .and .i64 n 1 = n % 2 := by
  obtain ⟨m, rfl⟩ := Int.eq_ofNat_of_zero_le h0
  have := and64 m 1 (by omega) (by omega)
  rw [Nat.and_one_is_mod] at this
  simpa using this
theorem rdU_bd (l : List Int) : 0 ≤ (rdU l).1 ∧ (rdU l).1 ≤ 18014398509481982 := by
  unfold rdU
  cases endAt l with
  | none => simp only []; split <;> simp
  | some i =>
    simp only []
    have := val_nonneg (l.take (i + 1))
    repeat' split
    all_goals (simp only []; omega)

set_option maxRecDepth 100000 in
theorem RS_all (g B : Nat) (l : List Int) (w : World) (h : Rd w g B l 0) :
    Calls Try.prog 27 #[.pointer (some ⟨g, 0, none⟩)] w (RdPost g B w (unzz (rdU l).1) (rdU l).2.1 (rdU l).2.2) := by
  have hU := RU_all g B l w h
  obtain ⟨b1, b2⟩ := rdU_bd l
  generalize (rdU l).1 = v at *
  generalize (rdU l).2.1 = l' at *
  generalize (rdU l).2.2 = x at *
  have HU := Lib.hid hU
  have ha := and_one b1 (by omega)
  clear hU
  by_cases hodd : v % 2 = 1
  case' pos => rw [hodd] at ha
  case' pos => have HV : Hid (unzz v = wrap64 (-((v + 1).tdiv 2))) := by
                unfold Hid unzz
                rw [if_pos hodd, Int.tdiv_eq_ediv_of_nonneg (by omega), IntWalk.wrap64_in _ (by omega)]
  case' neg => rw [show v % 2 = 0 by omega] at ha
  case' neg => have HV : Hid (unzz v = v / 2) := by
                unfold Hid unzz
                rw [if_neg hodd]
  all_goals
    clear hodd
    go_enter Try.func27, Try.ntmps27
    go_wp2_with fail
    refine HU.out.mono ?_
    rintro e w1 ⟨rfl, hrd, ho⟩
    go_wp2
    go_ret
    exact ⟨by rw [HV.out]; rfl, hrd, ho⟩

/-- What reading a text comes to: the bytes, what is left, the error. -/
def rdT (l : List Int) (most : Int) : List Int × List Int × Int :=
  if (rdU l).2.2 ≠ 0 then ([], (rdU l).2.1, (rdU l).2.2)
  else if most < (rdU l).1 then ([], [], 5)
  else if ((rdU l).2.1.length : Int) < (rdU l).1 then ([], [], 3)
  else ((rdU l).2.1.take (rdU l).1.toNat, (rdU l).2.1.drop (rdU l).1.toNat, 0)

/-- A conversion of bytes that are known to a string, be the slice nil, empty or neither. -/
theorem conv_row {P : Program} {w : World} {B n : Nat} {A : Option Addr} {zs : List Int} (h : Row w B A n (ints .u8 zs)) (src dst e : TypeId) (hs : P.underlying src = some (.slice e)) (he : P.underlying e = some (.int .u8)) (hd : P.underlying dst = some .string) (c : Nat) :
    (convert src dst (.slice A n c)).run P w = .ok (.string (strOfNums zs)) w := by
  have hl := h.1
  rw [ints_len] at hl
  by_cases h0 : n = 0
  · subst h0
    have e0 : zs = [] := List.eq_nil_of_length_eq_zero hl
    subst e0
    rcases A with _ | a
    · exact run_convert_bytes_nil w src e hs he 0 c dst hd
    · rw [run_convert_bytes_string w src dst e _ 0 c hs he hd, run_bytesToString w a 0 c [] (by simp [loadCells, loadCellsFrom])]
      rfl
  · obtain ⟨b, off, rfl, _, hc⟩ := h.2 (by omega)
    exact run_convert_bytes_arg w src e hs he b off n c zs hl (fun i hi => by rw [hc i hi, ints_get _ _ _ (by omega)]) dst hd

set_option maxRecDepth 100000 in
theorem RT_err (g B : Nat) (most : Int) (l : List Int) (w : World) (h : Rd w g B l 0) (hx : (rdU l).2.2 ≠ 0) :
    Calls Try.prog 29 #[.pointer (some ⟨g, 0, none⟩), .int .i64 most] w fun e w' => e = .returned (.string ByteArray.empty) ∧ Rd w' g B (rdU l).2.1 (rdU l).2.2 ∧ Only g w w' := by
  have HU := Lib.hid (RU_all g B l w h)
  generalize (rdU l).1 = v at *
  generalize (rdU l).2.1 = l' at *
  generalize (rdU l).2.2 = x at *
  have hd : (x != 0) = true := by simpa using hx
  clear hx
  go_enter Try.func29, Try.ntmps29
  go_wp2_with fail
  refine HU.out.mono ?_
  rintro e w1 ⟨rfl, hrd, ho⟩
  have hrd' := hrd
  obtain ⟨A1, c1, hblk, _⟩ := hrd'
  go_wp2_with fail
  refine (Err_made g _ _ _ hblk).mono ?_
  rintro e w' ⟨rfl, rfl⟩
  go_wp2
  go_ret
  exact ⟨rfl, hrd, ho⟩

theorem RT_much (g B : Nat) (most : Int) (l : List Int) (w : World) (h : Rd w g B l 0) (hx : (rdU l).2.2 = 0) (hm : most < (rdU l).1) :
    Calls Try.prog 29 #[.pointer (some ⟨g, 0, none⟩), .int .i64 most] w fun e w' => e = .returned (.string ByteArray.empty) ∧ Rd w' g B [] 5 ∧ Only g w w' := by
  have hU := RU_all g B l w h
  rw [hx] at hU
  have HU := Lib.hid hU
  clear hU hx
  generalize (rdU l).1 = v at *
  generalize (rdU l).2.1 = l' at *
  go_enter Try.func29, Try.ntmps29
  go_wp2_with fail
  refine HU.out.mono ?_
  rintro e w1 ⟨rfl, hrd, ho⟩
  obtain ⟨A1, c1, hblk, _, _, _, _, hB, _⟩ := hrd
  go_wp2_with fail
  refine (Err_made g _ _ _ hblk).mono ?_
  rintro e w' ⟨rfl, rfl⟩
  go_wp2_with fail
  refine (fail_made g _ _ _ _ _ hblk).mono ?_
  rintro e w2 ⟨rfl, ho2, hb2⟩
  go_wp2
  go_ret
  exact ⟨rfl, Rd.failed (Nat.le_trans hB ho2.size) hb2, ho.trans ho2⟩

theorem RT_few (g B : Nat) (most : Int) (l : List Int) (w : World) (h : Rd w g B l 0) (hx : (rdU l).2.2 = 0) (hm : ¬ most < (rdU l).1) (hl : ((rdU l).2.1.length : Int) < (rdU l).1) :
    Calls Try.prog 29 #[.pointer (some ⟨g, 0, none⟩), .int .i64 most] w fun e w' => e = .returned (.string ByteArray.empty) ∧ Rd w' g B [] 3 ∧ Only g w w' := by
  have hU := RU_all g B l w h
  rw [hx] at hU
  have HU := Lib.hid hU
  clear hU hx
  generalize (rdU l).1 = v at *
  generalize (rdU l).2.1 = l' at *
  go_enter Try.func29, Try.ntmps29
  go_wp2_with fail
  refine HU.out.mono ?_
  rintro e w1 ⟨rfl, hrd, ho⟩
  obtain ⟨A1, c1, hblk, _, _, _, _, hB, _⟩ := hrd
  have k1 : w1.cell? ⟨g, 1, none⟩ = some (.slice A1 l'.length c1) := hblk.cell 1
  go_wp2_with fail
  refine (Err_made g _ _ _ hblk).mono ?_
  rintro e w' ⟨rfl, rfl⟩
  go_wp2_with fail
  refine (fail_made g _ _ _ _ _ hblk).mono ?_
  rintro e w2 ⟨rfl, ho2, hb2⟩
  go_wp2
  go_ret
  exact ⟨rfl, Rd.failed (Nat.le_trans hB ho2.size) hb2, ho.trans ho2⟩

theorem add_block (a : Addr) (n : Nat) : (a.add n).block = a.block := by
  unfold Addr.add
  split <;> rfl

theorem Rd.drop {w : World} {g B c k : Nat} {l : List Int} {A : Option Addr} (hblk : Blk w g 51 [.bool true, .slice A l.length c, .int .i64 0]) (hrow : Row w B A l.length (ints .u8 l))
    (hne : ∀ a, A = some a → a.block ≠ g) (hl : l.length ≤ 150000000000000) (hB : B ≤ w.heap.size) (hu : ∀ x ∈ l, 0 ≤ x ∧ x ≤ 255) (hk : k ≤ l.length) (hlc : l.length ≤ c)
    (A' : Option Addr) (c' : Nat) (hc' : c' = c - k) (hA : A' = A ∧ c = k ∨ A' = A.map (·.add k)) :
    Rd (w.setCell ⟨g, 1, none⟩ (.slice A' (l.length - k) c')) g B (l.drop k) 0 := by
  have hlen : (l.drop k).length = l.length - k := List.length_drop
  refine ⟨A', c', ?_, ?_, ?_, by omega, by omega, by simpa [World.setCell] using hB, fun x hx => hu x (List.mem_of_mem_drop hx)⟩
  · rw [hlen]; exact hblk.put 1 _
  · rw [hlen, ← ints_drop]
    have h1 := hrow.only ((Only.refl g w).put 1 (.slice A' (l.length - k) c')) hB (fun b off e => hne _ e)
    refine h1.cut (c := l.length) (by omega) (Nat.le_refl _) A' ?_
    intro b off e hkl
    rcases hA with ⟨h2, h3⟩ | h2
    · omega
    · rw [h2, e]
      simp only [Option.map_some, Option.some.injEq]
      unfold Addr.add
      split <;> simp_all
  · intro a e
    rcases hA with ⟨h2, _⟩ | h2
    · exact hne a (by rw [← h2, e])
    · rw [h2] at e
      rcases A with _ | a0
      · cases e
      · injection e with e
        rw [← e, add_block]
        exact hne a0 rfl

theorem RT_good (g B n : Nat) (most : Int) (l l' : List Int) (w : World) (h : Rd w g B l 0) (hx : rdU l = ((n : Int), l', 0)) (hm : (n : Int) ≤ most) (hl : n ≤ l'.length) :
    Calls Try.prog 29 #[.pointer (some ⟨g, 0, none⟩), .int .i64 most] w fun e w' => e = .returned (.string (strOfNums (l'.take n))) ∧ Rd w' g B (l'.drop n) 0 ∧ Only g w w' := by
  have hU := RU_all g B l w h
  rw [hx] at hU
  have HU := Lib.hid hU
  clear hU hx
  go_enter Try.func29, Try.ntmps29
  go_wp2_with fail
  refine HU.out.mono ?_
  rintro e w1 ⟨rfl, hrd, ho⟩
  obtain ⟨A1, c1, hblk, hrow, hne, hlm, hlc, hB, hu⟩ := hrd
  have k1 : w1.cell? ⟨g, 1, none⟩ = some (.slice A1 l'.length c1) := hblk.cell 1
  have f1 := hblk.frozen 1
  go_wp2_with fail
  refine (Err_made g _ _ _ hblk).mono ?_
  rintro e w' ⟨rfl, rfl⟩
  have hcv := fun c => conv_row (P := Try.prog) (hrow.take hl) 23 9 5 Try.underlying23 Try.underlying5 Try.underlying9 c
  have hnc : n ≤ c1 := by omega
  go_wp2
  · have hc : c1 = n := by assumption
    go_ret
    exact ⟨rfl, Rd.drop hblk hrow hne hlm hB hu hl hlc _ _ (by omega) (.inl ⟨rfl, hc⟩), ho.trans ((Only.refl _ _).put _ _)⟩
  · go_ret
    exact ⟨rfl, Rd.drop hblk hrow hne hlm hB hu hl hlc _ _ rfl (.inr rfl), ho.trans ((Only.refl _ _).put _ _)⟩

end Go.Proofs.Ytieknhlpgoedgaa
