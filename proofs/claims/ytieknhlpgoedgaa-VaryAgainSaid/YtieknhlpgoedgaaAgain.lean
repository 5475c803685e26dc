/- The law VaryAgain, walked. -/
import Derived.Test.YtieknhlpgoedgaaBack
import Derived.Test.YtieknhlpgoedgaaMath2
namespace Go.Proofs.Ytieknhlpgoedgaa
open Go.RowKit

theorem unzz_ok {m : Nat} (h : m ≤ 18014398509481982) : sOk (unzz m) ∧ zz (unzz m) = m := by
  unfold sOk unzz zz
  split
  · constructor
    · omega
    · rw [if_pos (by omega)]; omega
  · constructor
    · omega
    · rw [if_neg (by omega)]; omega

theorem nums_ofNums {l : List Int} (h : ∀ x ∈ l, 0 ≤ x ∧ x ≤ 255) : nums (strOfNums l) = l := by
  simp only [nums, strOfNums, List.map_map, Function.comp_def]
  conv => rhs; rw [← List.map_id l]
  apply List.map_congr_left
  intro x hx
  have := h x hx
  simp only [UInt8.toNat_ofNat', id]
  omega

/-- Can a text be read off the front of l? -/
def tGood (l : List Int) : Prop := ∃ (n : Nat) (r : List Int), rdU l = ((n : Int), r, 0) ∧ n ≤ 65535 ∧ n ≤ r.length

def BadT (g B : Nat) (w : World) (e : Ending) (w' : World) : Prop := e = .returned (.string ByteArray.empty) ∧ ∃ (x : Int) (r : List Int), (x == 0) = false ∧ Rd w' g B r x ∧ Only g w w'

theorem RT_bad (g B : Nat) (l : List Int) (w : World) (hu : ∀ x ∈ l, 0 ≤ x ∧ x ≤ 255) (h : Rd w g B l 0) (hb : ¬ tGood l) :
    Calls Try.prog 29 #[.pointer (some ⟨g, 0, none⟩), .int .i64 65535] w (BadT g B w) := by
  by_cases hx : (rdU l).2.2 = 0
  · obtain ⟨m, r, hm, he, _⟩ := rdU_inv hu hx
    by_cases h1 : (65535 : Int) < (rdU l).1
    · refine (RT_much g B _ l w h hx h1).mono ?_
      rintro e w' ⟨rfl, hr, ho⟩
      exact ⟨rfl, 5, [], rfl, hr, ho⟩
    · by_cases h2 : ((rdU l).2.1.length : Int) < (rdU l).1
      · refine (RT_few g B _ l w h hx h1 h2).mono ?_
        rintro e w' ⟨rfl, hr, ho⟩
        exact ⟨rfl, 3, [], rfl, hr, ho⟩
      · rw [he] at h1 h2
        exact absurd ⟨m, r, he, by simp only [] at h1; omega, by simp only [] at h2; omega⟩ hb
  · refine (RT_err g B _ l w h hx).mono ?_
    rintro e w' ⟨rfl, hr, ho⟩
    exact ⟨rfl, _, _, by simpa using hx, hr, ho⟩

theorem Row.onlyOf {w w' : World} {B n g : Nat} {A : Option Addr} {xs : List Value} (h : Row w B A n xs) (ho : Only g w w') (hg : ∀ b off, A = some ⟨b, off, none⟩ → 0 < n → b ≠ g) (hB : B ≤ w.heap.size := by omega) : Row w' B A n xs :=
  ⟨h.1, fun hn => by
    obtain ⟨b, off, e, hb, hc⟩ := h.2 hn
    exact ⟨b, off, e, hb, fun j hj => (World.cell?_of_block (ho.block b (by omega) (fun e' => hg b off e hn (by injection e')))).trans (hc j hj)⟩⟩

set_option maxRecDepth 100000 in
set_option maxHeartbeats 1000000 in
theorem Again_11 (A : Option Addr) (l : List Int) (c : Nat) (w : World) (hr1 : Row w w.heap.size A l.length (ints .u8 l)) (hlc : l.length ≤ c) (hl : l.length ≤ 140737488351232) (hu : ∀ x ∈ l, 0 ≤ x ∧ x ≤ 255) (hP : (rdU l).2.2 = 0) (hQ : tGood l) :
    Calls Try.prog 6 #[.slice A l.length c] w fun e w' => e = .returned (.bool true) ∧ Below w.heap.size w w' := by
  obtain ⟨m, rest, hm, he, hsplit⟩ := rdU_inv hu hP
  have cU : ∀ (g B : Nat) (w : World), Rd w g B l 0 → Calls Try.prog 25 #[.pointer (some ⟨g, 0, none⟩)] w (RdPost g B w m rest 0) := fun g B w h => by
    have h1 := RU_all g B l w h
    rw [he] at h1
    exact h1
  have cS : ∀ (g B : Nat) (w : World), Rd w g B l 0 → Calls Try.prog 27 #[.pointer (some ⟨g, 0, none⟩)] w (RdPost g B w (unzz m) rest 0) := fun g B w h => by
    have h1 := RS_all g B l w h
    rw [he] at h1
    exact h1
  obtain ⟨hso, hzz⟩ := unzz_ok hm
  have wU := fun w => U_any (m : Int) w
  rw [show uErr (m : Int) = 0 by rw [uErr, if_neg (by omega)], show uOut (m : Int) = leb m by rw [uOut, if_neg (by omega), Int.toNat_natCast]] at wU
  have wS := fun w => S_any (unzz m) w
  rw [show sErr (unzz m) = 0 by rw [sErr, if_pos hso], show sOut (unzz m) = leb m by rw [sOut, if_pos hso, hzz]] at wS
  have lx := leb_len8 hm
  have htake : l.take (leb m).length = leb m := (congrArg (List.take (leb m).length) hsplit).trans List.take_left
  have hsum : (leb m).length + rest.length = l.length := by rw [← List.length_append, ← hsplit]
  generalize unzz (m : Int) = um at *
  generalize leb m = x at *
  obtain ⟨n, r, hn, hn1, hn2⟩ := hQ
  obtain ⟨m', rest', hm', he', hsplit'⟩ := rdU_inv hu hP
  rw [hn] at he'
  injection he' with e1 e2
  injection e2 with e2 _
  have e1' : n = m' := by omega
  subst e1'; subst e2
  have cT := fun (g B : Nat) (w : World) (h : Rd w g B l 0) => RT_good g B n 65535 l r w h hn (by omega) hn2
  have hub : ∀ x ∈ r.take n, 0 ≤ x ∧ x ≤ 255 := fun x hx => hu x (by rw [hsplit']; exact List.mem_append_right _ (List.mem_of_mem_take hx))
  have hsz : (strOfNums (r.take n)).size = n := by rw [strOfNums_size, List.length_take]; omega
  have wT := fun w => Text_any (strOfNums (r.take n)) w (by omega)
  rw [show tErr (strOfNums (r.take n)) = 0 by rw [tErr, if_neg (by omega)], show tOut (strOfNums (r.take n)) = leb n ++ r.take n by rw [tOut, if_neg (by omega), hsz, nums_ofNums hub]] at wT
  have hspT : l = (leb n ++ r.take n) ++ r.drop n := by rw [List.append_assoc, List.take_append_drop]; exact hsplit'
  have htakeT : l.take (leb n ++ r.take n).length = leb n ++ r.take n := (congrArg (List.take (leb n ++ r.take n).length) hspT).trans List.take_left
  have hsumT : (leb n ++ r.take n).length + (r.drop n).length = l.length := by
    rw [hsplit', List.length_append, List.length_append, List.length_take, List.length_drop]; omega
  generalize strOfNums (r.take n) = st at *
  generalize leb n ++ r.take n = y at *
  generalize r.drop n = rt at *
  have T3 := Lib.hid htakeT
  have WT := Lib.hid wT
  have CT := Lib.hid cT
  have hneT : ((y.length : Int) + (rt.length : Int) != (l.length : Int)) = false := by simp [bne]; omega
  have hdfT : (l.length : Int) - (rt.length : Int) = (y.length : Int) := by omega
  have hylc : y.length ≤ l.length := by omega
  have hycc : y.length ≤ c := by omega
  clear htakeT wT cT hn hsplit' hspT hub hsz hsumT
  have T1 := Lib.hid htake
  have WU := Lib.hid wU
  have WS := Lib.hid wS
  have CU := Lib.hid cU
  have CS := Lib.hid cS
  have hne : ((x.length : Int) + (rest.length : Int) != (l.length : Int)) = false := by simp [bne]; omega
  have hdf : (l.length : Int) - (rest.length : Int) = (x.length : Int) := by omega
  have hxlc : x.length ≤ l.length := by omega
  have hxcc : x.length ≤ c := by omega
  clear htake wU wS cU cS he hsplit hsum hP
  have HU := Lib.hid hu
  have b0 := Below.refl w.heap.size w
  clear hu
  go_enter Try.func6, Try.ntmps6
  go_wp2_with fail
  refine (New_any A c _ l _ hr1 (Nat.le_refl _) (by omega) HU.out).mono ?_
  rintro e p1 ⟨g1, rfl, hg1, rd1, ha1⟩
  have ba1 := next b0 ha1
  have gw1 : w.heap.size ≤ g1 := Nat.le_trans (b0).size hg1
  have hra1 : Row p1 _ _ _ _ := (hr1).below ha1
  have ap1 : ∀ b off, A = some ⟨b, off, none⟩ → 0 < l.length → b ≠ g1 := fun b off e h0 => by
    obtain ⟨b', off', e', hb', _⟩ := (hr1).2 h0
    rw [e] at e'
    injection e' with e'
    injection e' with e1 _
    omega
  have sz1 := ha1.size
  clear ha1
  go_wp2_with fail
  refine (CU.out g1 _ _ rd1).mono ?_
  rintro e q1 ⟨rfl, re1, ho1⟩
  have bb1 := ho1.below ba1 gw1 ba1.size
  have hrb1 := (hra1.onlyOf ho1 ap1 sz1).wide (Nat.le_trans sz1 ho1.size)
  clear rd1 ho1 ba1 hra1 ap1 hg1 sz1
  obtain ⟨A1, c1, blk1, _⟩ := re1
  go_wp2_with fail
  refine (Err_made g1 _ _ _ blk1).mono ?_
  rintro e w' ⟨rfl, rfl⟩
  go_wp2_with fail
  refine (WU.out _).mono ?_
  rintro e s1 ⟨B1, d1, rfl, own1, hw1⟩
  have rx1 := Row.own own1
  have bc1 := next bb1 hw1
  have hrc1 := hrb1.on hw1
  have blc1 := blk1.on hw1
  clear bb1 hw1 hrb1 blk1 own1
  go_wp2_with fail
  refine (Left_made g1 _ _ _ _ _ blc1 (.inl rfl)).mono ?_
  rintro e w' ⟨rfl, rfl⟩
  go_wp2_with fail
  refine (Left_made g1 _ _ _ _ _ blc1 (.inl rfl)).mono ?_
  rintro e w' ⟨rfl, rfl⟩
  have tk1 := hrc1.take (k := x.length) (by omega)
  rw [T1.out] at tk1
  go_wp2_with fail
  refine (eq_yes _ _ _ _ _ _ x _ rx1 tk1 (by omega)).mono ?_
  rintro e z1 ⟨rfl, hz1⟩
  have bd1 := next bc1 hz1
  have hrd1 := hrc1.on hz1
  clear rx1 bc1 hrc1 blc1 tk1 hz1
  go_wp2_with fail
  refine (New_any A c _ l _ hrd1 (Nat.le_refl _) (by omega) HU.out).mono ?_
  rintro e p2 ⟨g2, rfl, hg2, rd2, ha2⟩
  have ba2 := next bd1 ha2
  have gw2 : w.heap.size ≤ g2 := Nat.le_trans (bd1).size hg2
  have hra2 : Row p2 _ _ _ _ := (hrd1).below ha2
  have ap2 : ∀ b off, A = some ⟨b, off, none⟩ → 0 < l.length → b ≠ g2 := fun b off e h0 => by
    obtain ⟨b', off', e', hb', _⟩ := (hrd1).2 h0
    rw [e] at e'
    injection e' with e'
    injection e' with e1 _
    omega
  have sz2 := ha2.size
  clear ha2
  go_wp2_with fail
  refine (CS.out g2 _ _ rd2).mono ?_
  rintro e q2 ⟨rfl, re2, ho2⟩
  have bb2 := ho2.below ba2 gw2 ba2.size
  have hrb2 := (hra2.onlyOf ho2 ap2 sz2).wide (Nat.le_trans sz2 ho2.size)
  clear rd2 ho2 ba2 hra2 ap2 hg2 sz2
  obtain ⟨A2, c2, blk2, _⟩ := re2
  go_wp2_with fail
  refine (Err_made g2 _ _ _ blk2).mono ?_
  rintro e w' ⟨rfl, rfl⟩
  go_wp2_with fail
  refine (WS.out _).mono ?_
  rintro e s2 ⟨B2, d2, rfl, own2, hw2⟩
  have rx2 := Row.own own2
  have bc2 := next bb2 hw2
  have hrc2 := hrb2.on hw2
  have blc2 := blk2.on hw2
  clear bb2 hw2 hrb2 blk2 own2
  go_wp2_with fail
  refine (Left_made g2 _ _ _ _ _ blc2 (.inl rfl)).mono ?_
  rintro e w' ⟨rfl, rfl⟩
  go_wp2_with fail
  refine (Left_made g2 _ _ _ _ _ blc2 (.inl rfl)).mono ?_
  rintro e w' ⟨rfl, rfl⟩
  have tk2 := hrc2.take (k := x.length) (by omega)
  rw [T1.out] at tk2
  go_wp2_with fail
  refine (eq_yes _ _ _ _ _ _ x _ rx2 tk2 (by omega)).mono ?_
  rintro e z2 ⟨rfl, hz2⟩
  have bd2 := next bc2 hz2
  have hrd2 := hrc2.on hz2
  clear rx2 bc2 hrc2 blc2 tk2 hz2
  go_wp2_with fail
  refine (New_any A c _ l _ hrd2 (Nat.le_refl _) (by omega) HU.out).mono ?_
  rintro e p3 ⟨g3, rfl, hg3, rd3, ha3⟩
  have ba3 := next bd2 ha3
  have gw3 : w.heap.size ≤ g3 := Nat.le_trans (bd2).size hg3
  have hra3 : Row p3 _ _ _ _ := (hrd2).below ha3
  have ap3 : ∀ b off, A = some ⟨b, off, none⟩ → 0 < l.length → b ≠ g3 := fun b off e h0 => by
    obtain ⟨b', off', e', hb', _⟩ := (hrd2).2 h0
    rw [e] at e'
    injection e' with e'
    injection e' with e1 _
    omega
  have sz3 := ha3.size
  clear ha3
  go_wp2_with fail
  refine (CT.out g3 _ _ rd3).mono ?_
  rintro e q3 ⟨rfl, re3, ho3⟩
  have bb3 := ho3.below ba3 gw3 ba3.size
  have hrb3 := (hra3.onlyOf ho3 ap3 sz3).wide (Nat.le_trans sz3 ho3.size)
  clear rd3 ho3 ba3 hra3 ap3 hg3 sz3
  obtain ⟨A3, c3, blk3, _⟩ := re3
  go_wp2_with fail
  refine (Err_made g3 _ _ _ blk3).mono ?_
  rintro e w' ⟨rfl, rfl⟩
  go_wp2_with fail
  refine (WT.out _).mono ?_
  rintro e s3 ⟨B3, d3, rfl, own3, hw3⟩
  have rx3 := Row.own own3
  have bc3 := next bb3 hw3
  have hrc3 := hrb3.on hw3
  have blc3 := blk3.on hw3
  clear bb3 hw3 hrb3 blk3 own3
  go_wp2_with fail
  refine (Left_made g3 _ _ _ _ _ blc3 (.inl rfl)).mono ?_
  rintro e w' ⟨rfl, rfl⟩
  go_wp2_with fail
  refine (Left_made g3 _ _ _ _ _ blc3 (.inl rfl)).mono ?_
  rintro e w' ⟨rfl, rfl⟩
  have tk3 := hrc3.take (k := y.length) (by omega)
  rw [T3.out] at tk3
  go_wp2_with fail
  refine (eq_yes _ _ _ _ _ _ y _ rx3 tk3 (by omega)).mono ?_
  rintro e z3 ⟨rfl, hz3⟩
  have bd3 := next bc3 hz3
  have hrd3 := hrc3.on hz3
  clear rx3 bc3 hrc3 blc3 tk3 hz3
  go_wp2_with fail
  refine (awake_any _).mono ?_
  rintro e w20 ⟨rfl, h20⟩
  go_wp2
  go_ret
  exact ⟨rfl, next bd3 h20⟩

set_option maxRecDepth 100000 in
set_option maxHeartbeats 1000000 in
theorem Again_10 (A : Option Addr) (l : List Int) (c : Nat) (w : World) (hr1 : Row w w.heap.size A l.length (ints .u8 l)) (hlc : l.length ≤ c) (hl : l.length ≤ 140737488351232) (hu : ∀ x ∈ l, 0 ≤ x ∧ x ≤ 255) (hP : (rdU l).2.2 = 0) (hQ : ¬ tGood l) :
    Calls Try.prog 6 #[.slice A l.length c] w fun e w' => e = .returned (.bool true) ∧ Below w.heap.size w w' := by
  obtain ⟨m, rest, hm, he, hsplit⟩ := rdU_inv hu hP
  have cU : ∀ (g B : Nat) (w : World), Rd w g B l 0 → Calls Try.prog 25 #[.pointer (some ⟨g, 0, none⟩)] w (RdPost g B w m rest 0) := fun g B w h => by
    have h1 := RU_all g B l w h
    rw [he] at h1
    exact h1
  have cS : ∀ (g B : Nat) (w : World), Rd w g B l 0 → Calls Try.prog 27 #[.pointer (some ⟨g, 0, none⟩)] w (RdPost g B w (unzz m) rest 0) := fun g B w h => by
    have h1 := RS_all g B l w h
    rw [he] at h1
    exact h1
  obtain ⟨hso, hzz⟩ := unzz_ok hm
  have wU := fun w => U_any (m : Int) w
  rw [show uErr (m : Int) = 0 by rw [uErr, if_neg (by omega)], show uOut (m : Int) = leb m by rw [uOut, if_neg (by omega), Int.toNat_natCast]] at wU
  have wS := fun w => S_any (unzz m) w
  rw [show sErr (unzz m) = 0 by rw [sErr, if_pos hso], show sOut (unzz m) = leb m by rw [sOut, if_pos hso, hzz]] at wS
  have lx := leb_len8 hm
  have htake : l.take (leb m).length = leb m := (congrArg (List.take (leb m).length) hsplit).trans List.take_left
  have hsum : (leb m).length + rest.length = l.length := by rw [← List.length_append, ← hsplit]
  generalize unzz (m : Int) = um at *
  generalize leb m = x at *
  have cT := fun (g B : Nat) (w : World) (h : Rd w g B l 0) => RT_bad g B l w hu h hQ
  have CT := Lib.hid cT
  clear cT
  have T1 := Lib.hid htake
  have WU := Lib.hid wU
  have WS := Lib.hid wS
  have CU := Lib.hid cU
  have CS := Lib.hid cS
  have hne : ((x.length : Int) + (rest.length : Int) != (l.length : Int)) = false := by simp [bne]; omega
  have hdf : (l.length : Int) - (rest.length : Int) = (x.length : Int) := by omega
  have hxlc : x.length ≤ l.length := by omega
  have hxcc : x.length ≤ c := by omega
  clear htake wU wS cU cS he hsplit hsum hP hQ
  have HU := Lib.hid hu
  have b0 := Below.refl w.heap.size w
  clear hu
  go_enter Try.func6, Try.ntmps6
  go_wp2_with fail
  refine (New_any A c _ l _ hr1 (Nat.le_refl _) (by omega) HU.out).mono ?_
  rintro e p1 ⟨g1, rfl, hg1, rd1, ha1⟩
  have ba1 := next b0 ha1
  have gw1 : w.heap.size ≤ g1 := Nat.le_trans (b0).size hg1
  have hra1 : Row p1 _ _ _ _ := (hr1).below ha1
  have ap1 : ∀ b off, A = some ⟨b, off, none⟩ → 0 < l.length → b ≠ g1 := fun b off e h0 => by
    obtain ⟨b', off', e', hb', _⟩ := (hr1).2 h0
    rw [e] at e'
    injection e' with e'
    injection e' with e1 _
    omega
  have sz1 := ha1.size
  clear ha1
  go_wp2_with fail
  refine (CU.out g1 _ _ rd1).mono ?_
  rintro e q1 ⟨rfl, re1, ho1⟩
  have bb1 := ho1.below ba1 gw1 ba1.size
  have hrb1 := (hra1.onlyOf ho1 ap1 sz1).wide (Nat.le_trans sz1 ho1.size)
  clear rd1 ho1 ba1 hra1 ap1 hg1 sz1
  obtain ⟨A1, c1, blk1, _⟩ := re1
  go_wp2_with fail
  refine (Err_made g1 _ _ _ blk1).mono ?_
  rintro e w' ⟨rfl, rfl⟩
  go_wp2_with fail
  refine (WU.out _).mono ?_
  rintro e s1 ⟨B1, d1, rfl, own1, hw1⟩
  have rx1 := Row.own own1
  have bc1 := next bb1 hw1
  have hrc1 := hrb1.on hw1
  have blc1 := blk1.on hw1
  clear bb1 hw1 hrb1 blk1 own1
  go_wp2_with fail
  refine (Left_made g1 _ _ _ _ _ blc1 (.inl rfl)).mono ?_
  rintro e w' ⟨rfl, rfl⟩
  go_wp2_with fail
  refine (Left_made g1 _ _ _ _ _ blc1 (.inl rfl)).mono ?_
  rintro e w' ⟨rfl, rfl⟩
  have tk1 := hrc1.take (k := x.length) (by omega)
  rw [T1.out] at tk1
  go_wp2_with fail
  refine (eq_yes _ _ _ _ _ _ x _ rx1 tk1 (by omega)).mono ?_
  rintro e z1 ⟨rfl, hz1⟩
  have bd1 := next bc1 hz1
  have hrd1 := hrc1.on hz1
  clear rx1 bc1 hrc1 blc1 tk1 hz1
  go_wp2_with fail
  refine (New_any A c _ l _ hrd1 (Nat.le_refl _) (by omega) HU.out).mono ?_
  rintro e p2 ⟨g2, rfl, hg2, rd2, ha2⟩
  have ba2 := next bd1 ha2
  have gw2 : w.heap.size ≤ g2 := Nat.le_trans (bd1).size hg2
  have hra2 : Row p2 _ _ _ _ := (hrd1).below ha2
  have ap2 : ∀ b off, A = some ⟨b, off, none⟩ → 0 < l.length → b ≠ g2 := fun b off e h0 => by
    obtain ⟨b', off', e', hb', _⟩ := (hrd1).2 h0
    rw [e] at e'
    injection e' with e'
    injection e' with e1 _
    omega
  have sz2 := ha2.size
  clear ha2
  go_wp2_with fail
  refine (CS.out g2 _ _ rd2).mono ?_
  rintro e q2 ⟨rfl, re2, ho2⟩
  have bb2 := ho2.below ba2 gw2 ba2.size
  have hrb2 := (hra2.onlyOf ho2 ap2 sz2).wide (Nat.le_trans sz2 ho2.size)
  clear rd2 ho2 ba2 hra2 ap2 hg2 sz2
  obtain ⟨A2, c2, blk2, _⟩ := re2
  go_wp2_with fail
  refine (Err_made g2 _ _ _ blk2).mono ?_
  rintro e w' ⟨rfl, rfl⟩
  go_wp2_with fail
  refine (WS.out _).mono ?_
  rintro e s2 ⟨B2, d2, rfl, own2, hw2⟩
  have rx2 := Row.own own2
  have bc2 := next bb2 hw2
  have hrc2 := hrb2.on hw2
  have blc2 := blk2.on hw2
  clear bb2 hw2 hrb2 blk2 own2
  go_wp2_with fail
  refine (Left_made g2 _ _ _ _ _ blc2 (.inl rfl)).mono ?_
  rintro e w' ⟨rfl, rfl⟩
  go_wp2_with fail
  refine (Left_made g2 _ _ _ _ _ blc2 (.inl rfl)).mono ?_
  rintro e w' ⟨rfl, rfl⟩
  have tk2 := hrc2.take (k := x.length) (by omega)
  rw [T1.out] at tk2
  go_wp2_with fail
  refine (eq_yes _ _ _ _ _ _ x _ rx2 tk2 (by omega)).mono ?_
  rintro e z2 ⟨rfl, hz2⟩
  have bd2 := next bc2 hz2
  have hrd2 := hrc2.on hz2
  clear rx2 bc2 hrc2 blc2 tk2 hz2
  go_wp2_with fail
  refine (New_any A c _ l _ hrd2 (Nat.le_refl _) (by omega) HU.out).mono ?_
  rintro e p3 ⟨g3, rfl, hg3, rd3, ha3⟩
  have ba3 := next bd2 ha3
  have gw3 : w.heap.size ≤ g3 := Nat.le_trans (bd2).size hg3
  have hra3 : Row p3 _ _ _ _ := (hrd2).below ha3
  have ap3 : ∀ b off, A = some ⟨b, off, none⟩ → 0 < l.length → b ≠ g3 := fun b off e h0 => by
    obtain ⟨b', off', e', hb', _⟩ := (hrd2).2 h0
    rw [e] at e'
    injection e' with e'
    injection e' with e1 _
    omega
  have sz3 := ha3.size
  clear ha3
  go_wp2_with fail
  refine (CT.out g3 _ _ rd3).mono ?_
  rintro e q3 ⟨rfl, ex3, r3, hx3, re3, ho3⟩
  have bb3 := ho3.below ba3 gw3 ba3.size
  have hrb3 := (hra3.onlyOf ho3 ap3 sz3).wide (Nat.le_trans sz3 ho3.size)
  clear rd3 ho3 ba3 hra3 ap3 hg3 sz3
  obtain ⟨A3, c3, blk3, _⟩ := re3
  go_wp2_with fail
  refine (Err_made g3 _ _ _ blk3).mono ?_
  rintro e w' ⟨rfl, rfl⟩
  go_wp2_with fail
  refine (awake_any _).mono ?_
  rintro e w20 ⟨rfl, h20⟩
  go_wp2
  go_ret
  exact ⟨rfl, next bb3 h20⟩

set_option maxRecDepth 100000 in
set_option maxHeartbeats 1000000 in
theorem Again_00 (A : Option Addr) (l : List Int) (c : Nat) (w : World) (hr1 : Row w w.heap.size A l.length (ints .u8 l)) (hlc : l.length ≤ c) (hl : l.length ≤ 140737488351232) (hu : ∀ x ∈ l, 0 ≤ x ∧ x ≤ 255) (hP : (rdU l).2.2 ≠ 0) (hQ : ¬ tGood l) :
    Calls Try.prog 6 #[.slice A l.length c] w fun e w' => e = .returned (.bool true) ∧ Below w.heap.size w w' := by
  have cU := fun (g B : Nat) (w : World) (h : Rd w g B l 0) => RU_all g B l w h
  have cS := fun (g B : Nat) (w : World) (h : Rd w g B l 0) => RS_all g B l w h
  have hx0 : ((rdU l).2.2 == 0) = false := by simpa using hP
  generalize (rdU l).1 = v at *
  generalize (rdU l).2.1 = rest at *
  generalize (rdU l).2.2 = ex at *
  have cT := fun (g B : Nat) (w : World) (h : Rd w g B l 0) => RT_bad g B l w hu h hQ
  have CT := Lib.hid cT
  clear cT
  have CU := Lib.hid cU
  have CS := Lib.hid cS
  clear cU cS hP hQ
  have HU := Lib.hid hu
  have b0 := Below.refl w.heap.size w
  clear hu
  go_enter Try.func6, Try.ntmps6
  go_wp2_with fail
  refine (New_any A c _ l _ hr1 (Nat.le_refl _) (by omega) HU.out).mono ?_
  rintro e p1 ⟨g1, rfl, hg1, rd1, ha1⟩
  have ba1 := next b0 ha1
  have gw1 : w.heap.size ≤ g1 := Nat.le_trans (b0).size hg1
  have hra1 : Row p1 _ _ _ _ := (hr1).below ha1
  have ap1 : ∀ b off, A = some ⟨b, off, none⟩ → 0 < l.length → b ≠ g1 := fun b off e h0 => by
    obtain ⟨b', off', e', hb', _⟩ := (hr1).2 h0
    rw [e] at e'
    injection e' with e'
    injection e' with e1 _
    omega
  have sz1 := ha1.size
  clear ha1
  go_wp2_with fail
  refine (CU.out g1 _ _ rd1).mono ?_
  rintro e q1 ⟨rfl, re1, ho1⟩
  have bb1 := ho1.below ba1 gw1 ba1.size
  have hrb1 := (hra1.onlyOf ho1 ap1 sz1).wide (Nat.le_trans sz1 ho1.size)
  clear rd1 ho1 ba1 hra1 ap1 hg1 sz1
  obtain ⟨A1, c1, blk1, _⟩ := re1
  go_wp2_with fail
  refine (Err_made g1 _ _ _ blk1).mono ?_
  rintro e w' ⟨rfl, rfl⟩
  go_wp2_with fail
  refine (New_any A c _ l _ hrb1 (Nat.le_refl _) (by omega) HU.out).mono ?_
  rintro e p2 ⟨g2, rfl, hg2, rd2, ha2⟩
  have ba2 := next bb1 ha2
  have gw2 : w.heap.size ≤ g2 := Nat.le_trans (bb1).size hg2
  have hra2 : Row p2 _ _ _ _ := (hrb1).below ha2
  have ap2 : ∀ b off, A = some ⟨b, off, none⟩ → 0 < l.length → b ≠ g2 := fun b off e h0 => by
    obtain ⟨b', off', e', hb', _⟩ := (hrb1).2 h0
    rw [e] at e'
    injection e' with e'
    injection e' with e1 _
    omega
  have sz2 := ha2.size
  clear ha2
  go_wp2_with fail
  refine (CS.out g2 _ _ rd2).mono ?_
  rintro e q2 ⟨rfl, re2, ho2⟩
  have bb2 := ho2.below ba2 gw2 ba2.size
  have hrb2 := (hra2.onlyOf ho2 ap2 sz2).wide (Nat.le_trans sz2 ho2.size)
  clear rd2 ho2 ba2 hra2 ap2 hg2 sz2
  obtain ⟨A2, c2, blk2, _⟩ := re2
  go_wp2_with fail
  refine (Err_made g2 _ _ _ blk2).mono ?_
  rintro e w' ⟨rfl, rfl⟩
  go_wp2_with fail
  refine (New_any A c _ l _ hrb2 (Nat.le_refl _) (by omega) HU.out).mono ?_
  rintro e p3 ⟨g3, rfl, hg3, rd3, ha3⟩
  have ba3 := next bb2 ha3
  have gw3 : w.heap.size ≤ g3 := Nat.le_trans (bb2).size hg3
  have hra3 : Row p3 _ _ _ _ := (hrb2).below ha3
  have ap3 : ∀ b off, A = some ⟨b, off, none⟩ → 0 < l.length → b ≠ g3 := fun b off e h0 => by
    obtain ⟨b', off', e', hb', _⟩ := (hrb2).2 h0
    rw [e] at e'
    injection e' with e'
    injection e' with e1 _
    omega
  have sz3 := ha3.size
  clear ha3
  go_wp2_with fail
  refine (CT.out g3 _ _ rd3).mono ?_
  rintro e q3 ⟨rfl, ex3, r3, hx3, re3, ho3⟩
  have bb3 := ho3.below ba3 gw3 ba3.size
  have hrb3 := (hra3.onlyOf ho3 ap3 sz3).wide (Nat.le_trans sz3 ho3.size)
  clear rd3 ho3 ba3 hra3 ap3 hg3 sz3
  obtain ⟨A3, c3, blk3, _⟩ := re3
  go_wp2_with fail
  refine (Err_made g3 _ _ _ blk3).mono ?_
  rintro e w' ⟨rfl, rfl⟩
  go_wp2_with fail
  refine (awake_any _).mono ?_
  rintro e w20 ⟨rfl, h20⟩
  go_wp2
  go_ret
  exact ⟨rfl, next bb3 h20⟩

theorem Again_walk (A : Option Addr) (l : List Int) (c : Nat) (w : World) (hr : Row w w.heap.size A l.length (ints .u8 l)) (hc : l.length ≤ c) (hsz : c * 1 ≤ 140737488351232) (hu : ∀ x ∈ l, (Lit.int .u8 x).wf = true) :
    Calls Try.prog 6 #[.slice A l.length c] w fun e w' => e = .returned (.bool true) ∧ Below w.heap.size w w' := by
  have hl : l.length ≤ 140737488351232 := by omega
  have hb : ∀ x ∈ l, 0 ≤ x ∧ x ≤ 255 := fun x hx => by simpa [Lit.wf, IntKind.min, IntKind.max, IntKind.signed, IntKind.bits] using hu x hx
  by_cases hP : (rdU l).2.2 = 0
  · by_cases hQ : tGood l
    · exact Again_11 A l c w hr hc hl hb hP hQ
    · exact Again_10 A l c w hr hc hl hb hP hQ
  · refine Again_00 A l c w hr hc hl hb hP ?_
    rintro ⟨n, r, hn, _, _⟩
    rw [hn] at hP
    exact hP rfl
end Go.Proofs.Ytieknhlpgoedgaa
