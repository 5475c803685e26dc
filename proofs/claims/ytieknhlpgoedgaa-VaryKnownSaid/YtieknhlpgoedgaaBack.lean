/- The law VaryBack, walked. -/
import Derived.Test.YtieknhlpgoedgaaText
namespace Go.Proofs.Ytieknhlpgoedgaa
open Go.RowKit

theorem unzz_zz {n : Int} (h : sOk n) : unzz (zz n) = n := by
  unfold sOk at h
  unfold zz unzz
  by_cases h0 : n < 0
  · rw [if_pos h0, Int.toNat_of_nonneg (by omega), if_pos (by omega)]; omega
  · rw [if_neg h0, Int.toNat_of_nonneg (by omega), if_neg (by omega)]; omega

/-- Reading one number off the bytes that it was put in. -/
theorem RU_back (g B : Nat) (n : Nat) (rest : List Int) (w : World) (hn : n ≤ 18014398509481982) (h : Rd w g B (leb n ++ rest) 0) :
    Calls Try.prog 25 #[.pointer (some ⟨g, 0, none⟩)] w (RdPost g B w n rest 0) := by
  have := RU_all g B _ w h
  rwa [rdU_leb hn] at this
theorem RS_back (g B : Nat) (n : Int) (rest : List Int) (w : World) (hn : sOk n) (h : Rd w g B (leb (zz n) ++ rest) 0) :
    Calls Try.prog 27 #[.pointer (some ⟨g, 0, none⟩)] w (RdPost g B w n rest 0) := by
  have := RS_all g B _ w h
  rw [rdU_leb (zz_le hn)] at this
  simp only [unzz_zz hn] at this
  exact this
theorem RT_back (g B : Nat) (s : ByteArray) (rest : List Int) (w : World) (hs : s.size ≤ 65535) (h : Rd w g B (leb s.size ++ nums s ++ rest) 0) :
    Calls Try.prog 29 #[.pointer (some ⟨g, 0, none⟩), .int .i64 65535] w fun e w' => e = .returned (.string s) ∧ Rd w' g B rest 0 ∧ Only g w w' := by
  have hn := nums_len s
  have := RT_good g B s.size 65535 _ (nums s ++ rest) w h (by rw [List.append_assoc, rdU_leb (by omega)]) (by omega) (by rw [List.length_append]; omega)
  rw [List.take_left' hn, List.drop_left' hn, ofNums_nums] at this
  exact this

theorem New_len (A : Option Addr) (n c B : Nat) (l : List Int) (w : World) (hn : l.length = n) (hr : Row w B A n (ints .u8 l)) (hB : B ≤ w.heap.size) (hl : n ≤ 150000000000000) (hu : ∀ x ∈ l, 0 ≤ x ∧ x ≤ 255) :
    Calls Try.prog 22 #[.slice A n c] w fun e w' => ∃ g, e = .returned (.pointer (some ⟨g, 0, none⟩)) ∧ w.heap.size ≤ g ∧ Rd w' g w'.heap.size l 0 ∧ Below w.heap.size w w' := by
  subst hn
  exact New_any A c B l w hr hB hl hu

theorem leb_bytes {n : Nat} (h : n ≤ 18014398509481982) : ∀ x ∈ leb n, 0 ≤ x ∧ x ≤ 255 := leb_byte 8 n (by omega)

/-- The reader over all that was written, one behind the other. -/
theorem bytes_all {a b c d : List Int} (ha : ∀ x ∈ a, 0 ≤ x ∧ x ≤ 255) (hb : ∀ x ∈ b, 0 ≤ x ∧ x ≤ 255) (hc : ∀ x ∈ c, 0 ≤ x ∧ x ≤ 255) (hd : ∀ x ∈ d, 0 ≤ x ∧ x ≤ 255) : ∀ x ∈ a ++ (b ++ (c ++ d)), 0 ≤ x ∧ x ≤ 255 := by
  intro x hx
  rcases List.mem_append.1 hx with h | hx
  · exact ha x h
  rcases List.mem_append.1 hx with h | hx
  · exact hb x h
  rcases List.mem_append.1 hx with h | hx
  · exact hc x h
  · exact hd x hx

set_option maxRecDepth 100000 in
set_option maxHeartbeats 1000000 in
theorem Back_111 (n : Int) (s : ByteArray) (A : Option Addr) (bh : List Int) (c : Nat) (w : World) (hs : s.size ≤ 140737488351232) (hr : Row w w.heap.size A bh.length (ints .u8 bh)) (hl : bh.length ≤ 140737488351232) (hu : ∀ x ∈ bh, 0 ≤ x ∧ x ≤ 255) (he : 0 ≤ n ∧ n ≤ 18014398509481982) (hf : -9007199254740991 ≤ n ∧ n ≤ 9007199254740991) (hg : s.size ≤ 65535) :
    Calls Try.prog 5 #[.int .i64 n, .string s, .slice A bh.length c] w fun e w' => e = .returned (.bool true) ∧ Below w.heap.size w w' := by
  obtain ⟨i0, hi, hz0, hz1, hz2⟩ := info_parts u8_info
  have cU := U_any n w
  have cS := fun w => S_any n w
  have cT := fun w => Text_any s w (by omega)
  obtain ⟨m, rfl⟩ := Int.eq_ofNat_of_zero_le he.1
  have hm : m ≤ 18014398509481982 := by omega
  rw [show uErr (m : Int) = 0 by rw [uErr, if_neg (by omega)], show uOut (m : Int) = leb m by rw [uOut, if_neg (by omega), Int.toNat_natCast]] at cU
  have lU := leb_len8 hm
  have bU := leb_bytes hm
  have rU := fun (g B : Nat) (rest : List Int) (w : World) (h : Rd w g B (leb m ++ rest) 0) => RU_back g B m rest w hm h
  have de1 : decide ((0 : Int) ≤ (m : Int)) = true := by simp
  have de2 : decide ((m : Int) ≤ 18014398509481982) = true := by simp; omega
  generalize leb m = xa at *
  have hf' : sOk (m : Int) := hf
  rw [show sErr (m : Int) = 0 by rw [sErr, if_pos hf'], show sOut (m : Int) = leb (zz (m : Int)) by rw [sOut, if_pos hf']] at cS
  have lS := leb_len8 (zz_le hf')
  have bS := leb_bytes (zz_le hf')
  have rS := fun (g B : Nat) (rest : List Int) (w : World) (h : Rd w g B (leb (zz (m : Int)) ++ rest) 0) => RS_back g B (m : Int) rest w hf' h
  have df1 : decide ((-9007199254740991 : Int) ≤ (m : Int)) = true := decide_eq_true hf.1
  have df2 : decide ((m : Int) ≤ (9007199254740991 : Int)) = true := decide_eq_true hf.2
  generalize leb (zz (m : Int)) = xb at *
  rw [show tErr s = 0 by rw [tErr, if_neg (by omega)], show tOut s = leb s.size ++ nums s by rw [tOut, if_neg (by omega)]] at cT
  have lT : (leb s.size ++ nums s).length ≤ 65543 := by rw [List.length_append, nums_len]; have := leb_len8 (n := s.size) (by omega); omega
  have bT : ∀ x ∈ leb s.size ++ nums s, 0 ≤ x ∧ x ≤ 255 := by
    intro x hx
    rcases List.mem_append.1 hx with h | h
    · exact leb_bytes (by omega) x h
    · exact nums_byte s x h
  have rT := fun (g B : Nat) (rest : List Int) (w : World) (h : Rd w g B (leb s.size ++ nums s ++ rest) 0) => RT_back g B s rest w hg h
  have dg : decide ((s.size : Int) ≤ 65535) = true := by simp; omega
  generalize leb s.size ++ nums s = xc at *
  have CU := Lib.hid cU
  have CS := Lib.hid cS
  have CT := Lib.hid cT
  have BU := Lib.hid (bytes_all bU bS bT hu)
  clear cU cS cT bU bS bT hu
  have RU := Lib.hid rU
  clear rU
  have RS := Lib.hid rS
  clear rS
  have RT := Lib.hid rT
  clear rT
  go_enter Try.func5, Try.ntmps5
  go_wp2_with fail
  refine CU.out.mono ?_
  rintro e w1 ⟨A1, c1, rfl, o1, b1⟩
  have r1 := Row.own o1
  have hr1 := hr.on b1
  clear o1
  go_wp2_with fail
  refine (CS.out w1).mono ?_
  rintro e w2 ⟨A2, c2, rfl, o2, h2⟩
  have r2 := Row.own o2
  have r12 := r1.on h2
  have hr2 := hr1.on h2
  have b2 := next b1 h2
  clear o2 b1 h2 r1 hr1
  go_wp2_with fail
  refine (CT.out w2).mono ?_
  rintro e w3 ⟨A3, c3, rfl, o3, h3⟩
  have r3 := Row.own o3
  have r13 := r12.on h3
  have r23 := r2.on h3
  have hr3 := hr2.on h3
  have b3 := next b2 h3
  clear o3 b2 h3 r12 r2 hr2
  have m0 := World.ownsRow_made (e := 5) (size := 1) w3 #[] 0 (Nat.le_refl _) (by unfold maxLen; omega) rfl
  go_wp2_with (at_builtin; refine wpList_app _ rfl (.tmp 29) (.tmp 30) 23 rfl w3.heap.size 5 i0 (.int .u8 0) 1 Try.underlying23 hi hz0 hz1 hz2 rfl _ 0 [] rfl m0 _ _ _ _ _ rfl (r13.alloc (Nat.le_refl _) _) (ints_one _ _) (by unfold maxLen; omega) (by omega) (by simp) ?_)
  intro v4 w4 o4 _ h4
  obtain ⟨A4, c4, rfl⟩ := own_slice o4
  have k4 : Below w3.heap.size w3 w4 := ((Below.refl _ _).alloc (Nat.le_refl _) _).trans h4
  have r24 := r23.on k4
  have r3' := r3
  have hr3' := hr3
  clear r13 r23 r3 hr3 h4 m0
  have z4 := k4.size
  go_wp2_with (at_builtin; refine wpList_app _ rfl (.tmp 31) (.tmp 32) 23 rfl w3.heap.size 5 i0 (.int .u8 0) 1 Try.underlying23 hi hz0 hz1 hz2 rfl _ _ _ rfl o4 _ _ _ _ _ rfl r24 (ints_one _ _) (by unfold maxLen; omega) (by omega) z4 ?_)
  intro v5 w5 o5 _ h5
  obtain ⟨A5, c5, rfl⟩ := own_slice o5
  have k5 : Below w3.heap.size w3 w5 := k4.trans h5
  have r35 := r3'.on k5
  have hr5 := hr3'.on k5
  have z5 := k5.size
  clear r24 h5 k4 z4 o4
  go_wp2_with (at_builtin; refine wpList_app _ rfl (.tmp 33) (.tmp 34) 23 rfl w3.heap.size 5 i0 (.int .u8 0) 1 Try.underlying23 hi hz0 hz1 hz2 rfl _ _ _ rfl o5 _ _ _ _ _ rfl r35 (ints_one _ _) (by unfold maxLen; omega) (by omega) z5 ?_)
  intro v6 w6 o6 _ h6
  obtain ⟨A6, c6, rfl⟩ := own_slice o6
  have k6 : Below w3.heap.size w3 w6 := k5.trans h6
  have hr6 := hr3'.on k6
  have z6 := k6.size
  clear r35 hr5 h6 k5 z5 o5
  go_wp2_with (at_builtin; refine wpList_app _ rfl (.tmp 35) (.tmp 36) 23 rfl w3.heap.size 5 i0 (.int .u8 0) 1 Try.underlying23 hi hz0 hz1 hz2 rfl _ _ _ rfl o6 _ _ _ _ _ rfl hr6 (ints_one _ _) (by unfold maxLen; omega) (by omega) z6 ?_)
  intro v7 w7 o7 _ h7
  obtain ⟨A7, c7, rfl⟩ := own_slice o7
  have k7 : Below w3.heap.size w3 w7 := k6.trans h7
  have r7 := Row.own o7
  simp only [← ints_append, List.append_assoc] at r7
  have b7 := next b3 k7
  clear hr6 h7 k6 z6 o6 o7 hr3' r3' k7
  go_wp2_with fail
  refine (New_len _ _ _ _ (xa ++ (xb ++ (xc ++ bh))) _ (by simp; omega) r7 (Nat.le_refl _) (by omega) BU.out).mono ?_
  rintro e w8 ⟨g, rfl, hg8, hrd, h8⟩
  have b8 := next b7 h8
  have hgw : w.heap.size ≤ g := Nat.le_trans b7.size hg8
  clear r7 b7 h8 hg8
  have a8 : ∃ B, B ≤ w8.heap.size ∧ Rd w8 g B (xa ++ (xb ++ (xc ++ bh))) 0 := ⟨_, Nat.le_refl _, hrd⟩
  obtain ⟨B, hB8, hrd8⟩ := a8
  clear hrd
  go_wp2_with fail
  refine (RU.out _ _ _ _ hrd8).mono ?_
  rintro e w9 ⟨rfl, hrd9, ho9⟩
  have b9 := ho9.below b8 hgw b8.size
  clear hrd8 ho9 b8
  go_wp2_with fail
  refine (RS.out _ _ _ _ hrd9).mono ?_
  rintro e w10 ⟨rfl, hrd10, ho10⟩
  have b10 := ho10.below b9 hgw b9.size
  clear hrd9 ho10 b9
  go_wp2_with fail
  refine (RT.out _ _ _ _ hrd10).mono ?_
  rintro e w11 ⟨rfl, hrd11, ho11⟩
  have b11 := ho11.below b10 hgw b10.size
  clear hrd10 ho11 b10
  have hfin := hrd11
  obtain ⟨A9, c9, hblk, _⟩ := hfin
  go_wp2_with fail
  refine (Err_made g _ _ _ hblk).mono ?_
  rintro e w' ⟨rfl, rfl⟩
  go_wp2_with fail
  refine (Left_made g _ _ _ _ _ hblk (.inl rfl)).mono ?_
  rintro e w' ⟨rfl, rfl⟩
  go_wp2_with fail
  refine (awake_any _).mono ?_
  rintro e w20 ⟨rfl, h20⟩
  go_wp2
  go_ret
  exact ⟨rfl, next b11 h20⟩

set_option maxRecDepth 100000 in
set_option maxHeartbeats 1000000 in
theorem Back_110 (n : Int) (s : ByteArray) (A : Option Addr) (bh : List Int) (c : Nat) (w : World) (hs : s.size ≤ 140737488351232) (hr : Row w w.heap.size A bh.length (ints .u8 bh)) (hl : bh.length ≤ 140737488351232) (hu : ∀ x ∈ bh, 0 ≤ x ∧ x ≤ 255) (he : 0 ≤ n ∧ n ≤ 18014398509481982) (hf : -9007199254740991 ≤ n ∧ n ≤ 9007199254740991) (hg : 65535 < s.size) :
    Calls Try.prog 5 #[.int .i64 n, .string s, .slice A bh.length c] w fun e w' => e = .returned (.bool true) ∧ Below w.heap.size w w' := by
  obtain ⟨i0, hi, hz0, hz1, hz2⟩ := info_parts u8_info
  have cU := U_any n w
  have cS := fun w => S_any n w
  have cT := fun w => Text_any s w (by omega)
  obtain ⟨m, rfl⟩ := Int.eq_ofNat_of_zero_le he.1
  have hm : m ≤ 18014398509481982 := by omega
  rw [show uErr (m : Int) = 0 by rw [uErr, if_neg (by omega)], show uOut (m : Int) = leb m by rw [uOut, if_neg (by omega), Int.toNat_natCast]] at cU
  have lU := leb_len8 hm
  have bU := leb_bytes hm
  have rU := fun (g B : Nat) (rest : List Int) (w : World) (h : Rd w g B (leb m ++ rest) 0) => RU_back g B m rest w hm h
  have de1 : decide ((0 : Int) ≤ (m : Int)) = true := by simp
  have de2 : decide ((m : Int) ≤ 18014398509481982) = true := by simp; omega
  generalize leb m = xa at *
  have hf' : sOk (m : Int) := hf
  rw [show sErr (m : Int) = 0 by rw [sErr, if_pos hf'], show sOut (m : Int) = leb (zz (m : Int)) by rw [sOut, if_pos hf']] at cS
  have lS := leb_len8 (zz_le hf')
  have bS := leb_bytes (zz_le hf')
  have rS := fun (g B : Nat) (rest : List Int) (w : World) (h : Rd w g B (leb (zz (m : Int)) ++ rest) 0) => RS_back g B (m : Int) rest w hf' h
  have df1 : decide ((-9007199254740991 : Int) ≤ (m : Int)) = true := decide_eq_true hf.1
  have df2 : decide ((m : Int) ≤ (9007199254740991 : Int)) = true := decide_eq_true hf.2
  generalize leb (zz (m : Int)) = xb at *
  rw [show tErr s = 5 by rw [tErr, if_pos hg], show tOut s = [] by rw [tOut, if_pos hg]] at cT
  obtain ⟨xc, hxc⟩ : ∃ xc : List Int, xc = [] := ⟨[], rfl⟩
  rw [← hxc] at cT
  have lT : xc.length ≤ 65543 := by rw [hxc]; simp
  have bT : ∀ x ∈ xc, 0 ≤ x ∧ x ≤ 255 := by rw [hxc]; simp
  have dg : decide ((s.size : Int) ≤ 65535) = false := by simp; omega
  have HXC := Lib.hid hxc
  clear hxc
  have CU := Lib.hid cU
  have CS := Lib.hid cS
  have CT := Lib.hid cT
  have BU := Lib.hid (bytes_all bU bS bT hu)
  clear cU cS cT bU bS bT hu
  have RU := Lib.hid rU
  clear rU
  have RS := Lib.hid rS
  clear rS
  go_enter Try.func5, Try.ntmps5
  go_wp2_with fail
  refine CU.out.mono ?_
  rintro e w1 ⟨A1, c1, rfl, o1, b1⟩
  have r1 := Row.own o1
  have hr1 := hr.on b1
  clear o1
  go_wp2_with fail
  refine (CS.out w1).mono ?_
  rintro e w2 ⟨A2, c2, rfl, o2, h2⟩
  have r2 := Row.own o2
  have r12 := r1.on h2
  have hr2 := hr1.on h2
  have b2 := next b1 h2
  clear o2 b1 h2 r1 hr1
  go_wp2_with fail
  refine (CT.out w2).mono ?_
  rintro e w3 ⟨A3, c3, rfl, o3, h3⟩
  have r3 := Row.own o3
  have r13 := r12.on h3
  have r23 := r2.on h3
  have hr3 := hr2.on h3
  have b3 := next b2 h3
  clear o3 b2 h3 r12 r2 hr2
  have m0 := World.ownsRow_made (e := 5) (size := 1) w3 #[] 0 (Nat.le_refl _) (by unfold maxLen; omega) rfl
  go_wp2_with (at_builtin; refine wpList_app _ rfl (.tmp 29) (.tmp 30) 23 rfl w3.heap.size 5 i0 (.int .u8 0) 1 Try.underlying23 hi hz0 hz1 hz2 rfl _ 0 [] rfl m0 _ _ _ _ _ rfl (r13.alloc (Nat.le_refl _) _) (ints_one _ _) (by unfold maxLen; omega) (by omega) (by simp) ?_)
  intro v4 w4 o4 _ h4
  obtain ⟨A4, c4, rfl⟩ := own_slice o4
  have k4 : Below w3.heap.size w3 w4 := ((Below.refl _ _).alloc (Nat.le_refl _) _).trans h4
  have r24 := r23.on k4
  have r3' := r3
  have hr3' := hr3
  clear r13 r23 r3 hr3 h4 m0
  have z4 := k4.size
  go_wp2_with (at_builtin; refine wpList_app _ rfl (.tmp 31) (.tmp 32) 23 rfl w3.heap.size 5 i0 (.int .u8 0) 1 Try.underlying23 hi hz0 hz1 hz2 rfl _ _ _ rfl o4 _ _ _ _ _ rfl r24 (ints_one _ _) (by unfold maxLen; omega) (by omega) z4 ?_)
  intro v5 w5 o5 _ h5
  obtain ⟨A5, c5, rfl⟩ := own_slice o5
  have k5 : Below w3.heap.size w3 w5 := k4.trans h5
  have r35 := r3'.on k5
  have hr5 := hr3'.on k5
  have z5 := k5.size
  clear r24 h5 k4 z4 o4
  go_wp2_with (at_builtin; refine wpList_app _ rfl (.tmp 33) (.tmp 34) 23 rfl w3.heap.size 5 i0 (.int .u8 0) 1 Try.underlying23 hi hz0 hz1 hz2 rfl _ _ _ rfl o5 _ _ _ _ _ rfl r35 (ints_one _ _) (by unfold maxLen; omega) (by omega) z5 ?_)
  intro v6 w6 o6 _ h6
  obtain ⟨A6, c6, rfl⟩ := own_slice o6
  have k6 : Below w3.heap.size w3 w6 := k5.trans h6
  have hr6 := hr3'.on k6
  have z6 := k6.size
  clear r35 hr5 h6 k5 z5 o5
  go_wp2_with (at_builtin; refine wpList_app _ rfl (.tmp 35) (.tmp 36) 23 rfl w3.heap.size 5 i0 (.int .u8 0) 1 Try.underlying23 hi hz0 hz1 hz2 rfl _ _ _ rfl o6 _ _ _ _ _ rfl hr6 (ints_one _ _) (by unfold maxLen; omega) (by omega) z6 ?_)
  intro v7 w7 o7 _ h7
  obtain ⟨A7, c7, rfl⟩ := own_slice o7
  have k7 : Below w3.heap.size w3 w7 := k6.trans h7
  have r7 := Row.own o7
  simp only [← ints_append, List.append_assoc] at r7
  have b7 := next b3 k7
  clear hr6 h7 k6 z6 o6 o7 hr3' r3' k7
  go_wp2_with fail
  refine (New_len _ _ _ _ (xa ++ (xb ++ (xc ++ bh))) _ (by simp; omega) r7 (Nat.le_refl _) (by omega) BU.out).mono ?_
  rintro e w8 ⟨g, rfl, hg8, hrd, h8⟩
  have b8 := next b7 h8
  have hgw : w.heap.size ≤ g := Nat.le_trans b7.size hg8
  clear r7 b7 h8 hg8
  have a8 : ∃ B, B ≤ w8.heap.size ∧ Rd w8 g B (xa ++ (xb ++ (xc ++ bh))) 0 := ⟨_, Nat.le_refl _, hrd⟩
  obtain ⟨B, hB8, hrd8⟩ := a8
  clear hrd
  go_wp2_with fail
  refine (RU.out _ _ _ _ hrd8).mono ?_
  rintro e w9 ⟨rfl, hrd9, ho9⟩
  have b9 := ho9.below b8 hgw b8.size
  clear hrd8 ho9 b8
  go_wp2_with fail
  refine (RS.out _ _ _ _ hrd9).mono ?_
  rintro e w10 ⟨rfl, hrd10, ho10⟩
  have b10 := ho10.below b9 hgw b9.size
  clear hrd9 ho10 b9
  rw [HXC.out, List.nil_append] at hrd10
  have hfin := hrd10
  obtain ⟨A9, c9, hblk, _⟩ := hfin
  go_wp2_with fail
  refine (Err_made g _ _ _ hblk).mono ?_
  rintro e w' ⟨rfl, rfl⟩
  go_wp2_with fail
  refine (Left_made g _ _ _ _ _ hblk (.inl rfl)).mono ?_
  rintro e w' ⟨rfl, rfl⟩
  go_wp2_with fail
  refine (awake_any _).mono ?_
  rintro e w20 ⟨rfl, h20⟩
  go_wp2
  go_ret
  exact ⟨rfl, next b10 h20⟩

set_option maxRecDepth 100000 in
set_option maxHeartbeats 1000000 in
theorem Back_101 (n : Int) (s : ByteArray) (A : Option Addr) (bh : List Int) (c : Nat) (w : World) (hs : s.size ≤ 140737488351232) (hr : Row w w.heap.size A bh.length (ints .u8 bh)) (hl : bh.length ≤ 140737488351232) (hu : ∀ x ∈ bh, 0 ≤ x ∧ x ≤ 255) (he : 0 ≤ n ∧ n ≤ 18014398509481982) (hf : n < -9007199254740991 ∨ 9007199254740991 < n) (hg : s.size ≤ 65535) :
    Calls Try.prog 5 #[.int .i64 n, .string s, .slice A bh.length c] w fun e w' => e = .returned (.bool true) ∧ Below w.heap.size w w' := by
  obtain ⟨i0, hi, hz0, hz1, hz2⟩ := info_parts u8_info
  have cU := U_any n w
  have cS := fun w => S_any n w
  have cT := fun w => Text_any s w (by omega)
  obtain ⟨m, rfl⟩ := Int.eq_ofNat_of_zero_le he.1
  have hm : m ≤ 18014398509481982 := by omega
  rw [show uErr (m : Int) = 0 by rw [uErr, if_neg (by omega)], show uOut (m : Int) = leb m by rw [uOut, if_neg (by omega), Int.toNat_natCast]] at cU
  have lU := leb_len8 hm
  have bU := leb_bytes hm
  have rU := fun (g B : Nat) (rest : List Int) (w : World) (h : Rd w g B (leb m ++ rest) 0) => RU_back g B m rest w hm h
  have de1 : decide ((0 : Int) ≤ (m : Int)) = true := by simp
  have de2 : decide ((m : Int) ≤ 18014398509481982) = true := by simp; omega
  generalize leb m = xa at *
  have hf' : ¬ sOk (m : Int) := by unfold sOk; omega
  rw [show sErr (m : Int) = 9 by rw [sErr, if_neg hf'], show sOut (m : Int) = [] by rw [sOut, if_neg hf']] at cS
  obtain ⟨xb, hxb⟩ : ∃ xb : List Int, xb = [] := ⟨[], rfl⟩
  rw [← hxb] at cS
  have lS : xb.length ≤ 8 := by rw [hxb]; simp
  have bS : ∀ x ∈ xb, 0 ≤ x ∧ x ≤ 255 := by rw [hxb]; simp
  have HXB := Lib.hid hxb
  clear hxb
  rw [show tErr s = 0 by rw [tErr, if_neg (by omega)], show tOut s = leb s.size ++ nums s by rw [tOut, if_neg (by omega)]] at cT
  have lT : (leb s.size ++ nums s).length ≤ 65543 := by rw [List.length_append, nums_len]; have := leb_len8 (n := s.size) (by omega); omega
  have bT : ∀ x ∈ leb s.size ++ nums s, 0 ≤ x ∧ x ≤ 255 := by
    intro x hx
    rcases List.mem_append.1 hx with h | h
    · exact leb_bytes (by omega) x h
    · exact nums_byte s x h
  have rT := fun (g B : Nat) (rest : List Int) (w : World) (h : Rd w g B (leb s.size ++ nums s ++ rest) 0) => RT_back g B s rest w hg h
  have dg : decide ((s.size : Int) ≤ 65535) = true := by simp; omega
  generalize leb s.size ++ nums s = xc at *
  have CU := Lib.hid cU
  have CS := Lib.hid cS
  have CT := Lib.hid cT
  have BU := Lib.hid (bytes_all bU bS bT hu)
  clear cU cS cT bU bS bT hu
  have RU := Lib.hid rU
  clear rU
  have RT := Lib.hid rT
  clear rT
  go_enter Try.func5, Try.ntmps5
  go_wp2_with fail
  refine CU.out.mono ?_
  rintro e w1 ⟨A1, c1, rfl, o1, b1⟩
  have r1 := Row.own o1
  have hr1 := hr.on b1
  clear o1
  go_wp2_with fail
  refine (CS.out w1).mono ?_
  rintro e w2 ⟨A2, c2, rfl, o2, h2⟩
  have r2 := Row.own o2
  have r12 := r1.on h2
  have hr2 := hr1.on h2
  have b2 := next b1 h2
  clear o2 b1 h2 r1 hr1
  go_wp2_with fail
  refine (CT.out w2).mono ?_
  rintro e w3 ⟨A3, c3, rfl, o3, h3⟩
  have r3 := Row.own o3
  have r13 := r12.on h3
  have r23 := r2.on h3
  have hr3 := hr2.on h3
  have b3 := next b2 h3
  clear o3 b2 h3 r12 r2 hr2
  have m0 := World.ownsRow_made (e := 5) (size := 1) w3 #[] 0 (Nat.le_refl _) (by unfold maxLen; omega) rfl
  go_wp2_with (at_builtin; refine wpList_app _ rfl (.tmp 29) (.tmp 30) 23 rfl w3.heap.size 5 i0 (.int .u8 0) 1 Try.underlying23 hi hz0 hz1 hz2 rfl _ 0 [] rfl m0 _ _ _ _ _ rfl (r13.alloc (Nat.le_refl _) _) (ints_one _ _) (by unfold maxLen; omega) (by omega) (by simp) ?_)
  intro v4 w4 o4 _ h4
  obtain ⟨A4, c4, rfl⟩ := own_slice o4
  have k4 : Below w3.heap.size w3 w4 := ((Below.refl _ _).alloc (Nat.le_refl _) _).trans h4
  have r24 := r23.on k4
  have r3' := r3
  have hr3' := hr3
  clear r13 r23 r3 hr3 h4 m0
  have z4 := k4.size
  go_wp2_with (at_builtin; refine wpList_app _ rfl (.tmp 31) (.tmp 32) 23 rfl w3.heap.size 5 i0 (.int .u8 0) 1 Try.underlying23 hi hz0 hz1 hz2 rfl _ _ _ rfl o4 _ _ _ _ _ rfl r24 (ints_one _ _) (by unfold maxLen; omega) (by omega) z4 ?_)
  intro v5 w5 o5 _ h5
  obtain ⟨A5, c5, rfl⟩ := own_slice o5
  have k5 : Below w3.heap.size w3 w5 := k4.trans h5
  have r35 := r3'.on k5
  have hr5 := hr3'.on k5
  have z5 := k5.size
  clear r24 h5 k4 z4 o4
  go_wp2_with (at_builtin; refine wpList_app _ rfl (.tmp 33) (.tmp 34) 23 rfl w3.heap.size 5 i0 (.int .u8 0) 1 Try.underlying23 hi hz0 hz1 hz2 rfl _ _ _ rfl o5 _ _ _ _ _ rfl r35 (ints_one _ _) (by unfold maxLen; omega) (by omega) z5 ?_)
  intro v6 w6 o6 _ h6
  obtain ⟨A6, c6, rfl⟩ := own_slice o6
  have k6 : Below w3.heap.size w3 w6 := k5.trans h6
  have hr6 := hr3'.on k6
  have z6 := k6.size
  clear r35 hr5 h6 k5 z5 o5
  go_wp2_with (at_builtin; refine wpList_app _ rfl (.tmp 35) (.tmp 36) 23 rfl w3.heap.size 5 i0 (.int .u8 0) 1 Try.underlying23 hi hz0 hz1 hz2 rfl _ _ _ rfl o6 _ _ _ _ _ rfl hr6 (ints_one _ _) (by unfold maxLen; omega) (by omega) z6 ?_)
  intro v7 w7 o7 _ h7
  obtain ⟨A7, c7, rfl⟩ := own_slice o7
  have k7 : Below w3.heap.size w3 w7 := k6.trans h7
  have r7 := Row.own o7
  simp only [← ints_append, List.append_assoc] at r7
  have b7 := next b3 k7
  clear hr6 h7 k6 z6 o6 o7 hr3' r3' k7
  go_wp2_with fail
  refine (New_len _ _ _ _ (xa ++ (xb ++ (xc ++ bh))) _ (by simp; omega) r7 (Nat.le_refl _) (by omega) BU.out).mono ?_
  rintro e w8 ⟨g, rfl, hg8, hrd, h8⟩
  have b8 := next b7 h8
  have hgw : w.heap.size ≤ g := Nat.le_trans b7.size hg8
  clear r7 b7 h8 hg8
  have a8 : ∃ B, B ≤ w8.heap.size ∧ Rd w8 g B (xa ++ (xb ++ (xc ++ bh))) 0 := ⟨_, Nat.le_refl _, hrd⟩
  obtain ⟨B, hB8, hrd8⟩ := a8
  clear hrd
  go_wp2_with fail
  refine (RU.out _ _ _ _ hrd8).mono ?_
  rintro e w9 ⟨rfl, hrd9, ho9⟩
  have b9 := ho9.below b8 hgw b8.size
  clear hrd8 ho9 b8
  rw [HXB.out, List.nil_append] at hrd9
  go_wp2_with fail
  refine (RT.out _ _ _ _ hrd9).mono ?_
  rintro e w10 ⟨rfl, hrd10, ho10⟩
  have b10 := ho10.below b9 hgw b9.size
  clear hrd9 ho10 b9
  have hfin := hrd10
  obtain ⟨A9, c9, hblk, _⟩ := hfin
  go_wp2_with fail
  refine (Err_made g _ _ _ hblk).mono ?_
  rintro e w' ⟨rfl, rfl⟩
  go_wp2_with fail
  refine (Left_made g _ _ _ _ _ hblk (.inl rfl)).mono ?_
  rintro e w' ⟨rfl, rfl⟩
  go_wp2_with fail
  refine (awake_any _).mono ?_
  rintro e w20 ⟨rfl, h20⟩
  go_wp2
  go_ret
  exact ⟨rfl, next b10 h20⟩

set_option maxRecDepth 100000 in
set_option maxHeartbeats 1000000 in
theorem Back_100 (n : Int) (s : ByteArray) (A : Option Addr) (bh : List Int) (c : Nat) (w : World) (hs : s.size ≤ 140737488351232) (hr : Row w w.heap.size A bh.length (ints .u8 bh)) (hl : bh.length ≤ 140737488351232) (hu : ∀ x ∈ bh, 0 ≤ x ∧ x ≤ 255) (he : 0 ≤ n ∧ n ≤ 18014398509481982) (hf : n < -9007199254740991 ∨ 9007199254740991 < n) (hg : 65535 < s.size) :
    Calls Try.prog 5 #[.int .i64 n, .string s, .slice A bh.length c] w fun e w' => e = .returned (.bool true) ∧ Below w.heap.size w w' := by
  obtain ⟨i0, hi, hz0, hz1, hz2⟩ := info_parts u8_info
  have cU := U_any n w
  have cS := fun w => S_any n w
  have cT := fun w => Text_any s w (by omega)
  obtain ⟨m, rfl⟩ := Int.eq_ofNat_of_zero_le he.1
  have hm : m ≤ 18014398509481982 := by omega
  rw [show uErr (m : Int) = 0 by rw [uErr, if_neg (by omega)], show uOut (m : Int) = leb m by rw [uOut, if_neg (by omega), Int.toNat_natCast]] at cU
  have lU := leb_len8 hm
  have bU := leb_bytes hm
  have rU := fun (g B : Nat) (rest : List Int) (w : World) (h : Rd w g B (leb m ++ rest) 0) => RU_back g B m rest w hm h
  have de1 : decide ((0 : Int) ≤ (m : Int)) = true := by simp
  have de2 : decide ((m : Int) ≤ 18014398509481982) = true := by simp; omega
  generalize leb m = xa at *
  have hf' : ¬ sOk (m : Int) := by unfold sOk; omega
  rw [show sErr (m : Int) = 9 by rw [sErr, if_neg hf'], show sOut (m : Int) = [] by rw [sOut, if_neg hf']] at cS
  obtain ⟨xb, hxb⟩ : ∃ xb : List Int, xb = [] := ⟨[], rfl⟩
  rw [← hxb] at cS
  have lS : xb.length ≤ 8 := by rw [hxb]; simp
  have bS : ∀ x ∈ xb, 0 ≤ x ∧ x ≤ 255 := by rw [hxb]; simp
  have HXB := Lib.hid hxb
  clear hxb
  rw [show tErr s = 5 by rw [tErr, if_pos hg], show tOut s = [] by rw [tOut, if_pos hg]] at cT
  obtain ⟨xc, hxc⟩ : ∃ xc : List Int, xc = [] := ⟨[], rfl⟩
  rw [← hxc] at cT
  have lT : xc.length ≤ 65543 := by rw [hxc]; simp
  have bT : ∀ x ∈ xc, 0 ≤ x ∧ x ≤ 255 := by rw [hxc]; simp
  have dg : decide ((s.size : Int) ≤ 65535) = false := by simp; omega
  have HXC := Lib.hid hxc
  clear hxc
  have CU := Lib.hid cU
  have CS := Lib.hid cS
  have CT := Lib.hid cT
  have BU := Lib.hid (bytes_all bU bS bT hu)
  clear cU cS cT bU bS bT hu
  have RU := Lib.hid rU
  clear rU
  go_enter Try.func5, Try.ntmps5
  go_wp2_with fail
  refine CU.out.mono ?_
  rintro e w1 ⟨A1, c1, rfl, o1, b1⟩
  have r1 := Row.own o1
  have hr1 := hr.on b1
  clear o1
  go_wp2_with fail
  refine (CS.out w1).mono ?_
  rintro e w2 ⟨A2, c2, rfl, o2, h2⟩
  have r2 := Row.own o2
  have r12 := r1.on h2
  have hr2 := hr1.on h2
  have b2 := next b1 h2
  clear o2 b1 h2 r1 hr1
  go_wp2_with fail
  refine (CT.out w2).mono ?_
  rintro e w3 ⟨A3, c3, rfl, o3, h3⟩
  have r3 := Row.own o3
  have r13 := r12.on h3
  have r23 := r2.on h3
  have hr3 := hr2.on h3
  have b3 := next b2 h3
  clear o3 b2 h3 r12 r2 hr2
  have m0 := World.ownsRow_made (e := 5) (size := 1) w3 #[] 0 (Nat.le_refl _) (by unfold maxLen; omega) rfl
  go_wp2_with (at_builtin; refine wpList_app _ rfl (.tmp 29) (.tmp 30) 23 rfl w3.heap.size 5 i0 (.int .u8 0) 1 Try.underlying23 hi hz0 hz1 hz2 rfl _ 0 [] rfl m0 _ _ _ _ _ rfl (r13.alloc (Nat.le_refl _) _) (ints_one _ _) (by unfold maxLen; omega) (by omega) (by simp) ?_)
  intro v4 w4 o4 _ h4
  obtain ⟨A4, c4, rfl⟩ := own_slice o4
  have k4 : Below w3.heap.size w3 w4 := ((Below.refl _ _).alloc (Nat.le_refl _) _).trans h4
  have r24 := r23.on k4
  have r3' := r3
  have hr3' := hr3
  clear r13 r23 r3 hr3 h4 m0
  have z4 := k4.size
  go_wp2_with (at_builtin; refine wpList_app _ rfl (.tmp 31) (.tmp 32) 23 rfl w3.heap.size 5 i0 (.int .u8 0) 1 Try.underlying23 hi hz0 hz1 hz2 rfl _ _ _ rfl o4 _ _ _ _ _ rfl r24 (ints_one _ _) (by unfold maxLen; omega) (by omega) z4 ?_)
  intro v5 w5 o5 _ h5
  obtain ⟨A5, c5, rfl⟩ := own_slice o5
  have k5 : Below w3.heap.size w3 w5 := k4.trans h5
  have r35 := r3'.on k5
  have hr5 := hr3'.on k5
  have z5 := k5.size
  clear r24 h5 k4 z4 o4
  go_wp2_with (at_builtin; refine wpList_app _ rfl (.tmp 33) (.tmp 34) 23 rfl w3.heap.size 5 i0 (.int .u8 0) 1 Try.underlying23 hi hz0 hz1 hz2 rfl _ _ _ rfl o5 _ _ _ _ _ rfl r35 (ints_one _ _) (by unfold maxLen; omega) (by omega) z5 ?_)
  intro v6 w6 o6 _ h6
  obtain ⟨A6, c6, rfl⟩ := own_slice o6
  have k6 : Below w3.heap.size w3 w6 := k5.trans h6
  have hr6 := hr3'.on k6
  have z6 := k6.size
  clear r35 hr5 h6 k5 z5 o5
  go_wp2_with (at_builtin; refine wpList_app _ rfl (.tmp 35) (.tmp 36) 23 rfl w3.heap.size 5 i0 (.int .u8 0) 1 Try.underlying23 hi hz0 hz1 hz2 rfl _ _ _ rfl o6 _ _ _ _ _ rfl hr6 (ints_one _ _) (by unfold maxLen; omega) (by omega) z6 ?_)
  intro v7 w7 o7 _ h7
  obtain ⟨A7, c7, rfl⟩ := own_slice o7
  have k7 : Below w3.heap.size w3 w7 := k6.trans h7
  have r7 := Row.own o7
  simp only [← ints_append, List.append_assoc] at r7
  have b7 := next b3 k7
  clear hr6 h7 k6 z6 o6 o7 hr3' r3' k7
  go_wp2_with fail
  refine (New_len _ _ _ _ (xa ++ (xb ++ (xc ++ bh))) _ (by simp; omega) r7 (Nat.le_refl _) (by omega) BU.out).mono ?_
  rintro e w8 ⟨g, rfl, hg8, hrd, h8⟩
  have b8 := next b7 h8
  have hgw : w.heap.size ≤ g := Nat.le_trans b7.size hg8
  clear r7 b7 h8 hg8
  have a8 : ∃ B, B ≤ w8.heap.size ∧ Rd w8 g B (xa ++ (xb ++ (xc ++ bh))) 0 := ⟨_, Nat.le_refl _, hrd⟩
  obtain ⟨B, hB8, hrd8⟩ := a8
  clear hrd
  go_wp2_with fail
  refine (RU.out _ _ _ _ hrd8).mono ?_
  rintro e w9 ⟨rfl, hrd9, ho9⟩
  have b9 := ho9.below b8 hgw b8.size
  clear hrd8 ho9 b8
  rw [HXB.out, List.nil_append] at hrd9
  rw [HXC.out, List.nil_append] at hrd9
  have hfin := hrd9
  obtain ⟨A9, c9, hblk, _⟩ := hfin
  go_wp2_with fail
  refine (Err_made g _ _ _ hblk).mono ?_
  rintro e w' ⟨rfl, rfl⟩
  go_wp2_with fail
  refine (Left_made g _ _ _ _ _ hblk (.inl rfl)).mono ?_
  rintro e w' ⟨rfl, rfl⟩
  go_wp2_with fail
  refine (awake_any _).mono ?_
  rintro e w20 ⟨rfl, h20⟩
  go_wp2
  go_ret
  exact ⟨rfl, next b9 h20⟩

set_option maxRecDepth 100000 in
set_option maxHeartbeats 1000000 in
theorem Back_011 (n : Int) (s : ByteArray) (A : Option Addr) (bh : List Int) (c : Nat) (w : World) (hs : s.size ≤ 140737488351232) (hr : Row w w.heap.size A bh.length (ints .u8 bh)) (hl : bh.length ≤ 140737488351232) (hu : ∀ x ∈ bh, 0 ≤ x ∧ x ≤ 255) (he : n < 0 ∨ 18014398509481982 < n) (hf : -9007199254740991 ≤ n ∧ n ≤ 9007199254740991) (hg : s.size ≤ 65535) :
    Calls Try.prog 5 #[.int .i64 n, .string s, .slice A bh.length c] w fun e w' => e = .returned (.bool true) ∧ Below w.heap.size w w' := by
  obtain ⟨i0, hi, hz0, hz1, hz2⟩ := info_parts u8_info
  have cU := U_any n w
  have cS := fun w => S_any n w
  have cT := fun w => Text_any s w (by omega)
  have hn : ¬ (0 ≤ n ∧ n ≤ 18014398509481982) := by omega
  rw [show uErr n = 9 by rw [uErr, if_pos (by omega)], show uOut n = [] by rw [uOut, if_pos (by omega)]] at cU
  obtain ⟨xa, hxa⟩ : ∃ xa : List Int, xa = [] := ⟨[], rfl⟩
  rw [← hxa] at cU
  have lU : xa.length ≤ 8 := by rw [hxa]; simp
  have bU : ∀ x ∈ xa, 0 ≤ x ∧ x ≤ 255 := by rw [hxa]; simp
  have HXA := Lib.hid hxa
  clear hxa
  have hf' : sOk n := hf
  rw [show sErr n = 0 by rw [sErr, if_pos hf'], show sOut n = leb (zz n) by rw [sOut, if_pos hf']] at cS
  have lS := leb_len8 (zz_le hf')
  have bS := leb_bytes (zz_le hf')
  have rS := fun (g B : Nat) (rest : List Int) (w : World) (h : Rd w g B (leb (zz n) ++ rest) 0) => RS_back g B n rest w hf' h
  have df1 : decide ((-9007199254740991 : Int) ≤ n) = true := decide_eq_true hf.1
  have df2 : decide (n ≤ (9007199254740991 : Int)) = true := decide_eq_true hf.2
  generalize leb (zz n) = xb at *
  rw [show tErr s = 0 by rw [tErr, if_neg (by omega)], show tOut s = leb s.size ++ nums s by rw [tOut, if_neg (by omega)]] at cT
  have lT : (leb s.size ++ nums s).length ≤ 65543 := by rw [List.length_append, nums_len]; have := leb_len8 (n := s.size) (by omega); omega
  have bT : ∀ x ∈ leb s.size ++ nums s, 0 ≤ x ∧ x ≤ 255 := by
    intro x hx
    rcases List.mem_append.1 hx with h | h
    · exact leb_bytes (by omega) x h
    · exact nums_byte s x h
  have rT := fun (g B : Nat) (rest : List Int) (w : World) (h : Rd w g B (leb s.size ++ nums s ++ rest) 0) => RT_back g B s rest w hg h
  have dg : decide ((s.size : Int) ≤ 65535) = true := by simp; omega
  generalize leb s.size ++ nums s = xc at *
  have CU := Lib.hid cU
  have CS := Lib.hid cS
  have CT := Lib.hid cT
  have BU := Lib.hid (bytes_all bU bS bT hu)
  clear cU cS cT bU bS bT hu
  have RS := Lib.hid rS
  clear rS
  have RT := Lib.hid rT
  clear rT
  go_enter Try.func5, Try.ntmps5
  go_wp2_with fail
  refine CU.out.mono ?_
  rintro e w1 ⟨A1, c1, rfl, o1, b1⟩
  have r1 := Row.own o1
  have hr1 := hr.on b1
  clear o1
  go_wp2_with fail
  refine (CS.out w1).mono ?_
  rintro e w2 ⟨A2, c2, rfl, o2, h2⟩
  have r2 := Row.own o2
  have r12 := r1.on h2
  have hr2 := hr1.on h2
  have b2 := next b1 h2
  clear o2 b1 h2 r1 hr1
  go_wp2_with fail
  refine (CT.out w2).mono ?_
  rintro e w3 ⟨A3, c3, rfl, o3, h3⟩
  have r3 := Row.own o3
  have r13 := r12.on h3
  have r23 := r2.on h3
  have hr3 := hr2.on h3
  have b3 := next b2 h3
  clear o3 b2 h3 r12 r2 hr2
  have m0 := World.ownsRow_made (e := 5) (size := 1) w3 #[] 0 (Nat.le_refl _) (by unfold maxLen; omega) rfl
  go_wp2_with (at_builtin; refine wpList_app _ rfl (.tmp 29) (.tmp 30) 23 rfl w3.heap.size 5 i0 (.int .u8 0) 1 Try.underlying23 hi hz0 hz1 hz2 rfl _ 0 [] rfl m0 _ _ _ _ _ rfl (r13.alloc (Nat.le_refl _) _) (ints_one _ _) (by unfold maxLen; omega) (by omega) (by simp) ?_)
  intro v4 w4 o4 _ h4
  obtain ⟨A4, c4, rfl⟩ := own_slice o4
  have k4 : Below w3.heap.size w3 w4 := ((Below.refl _ _).alloc (Nat.le_refl _) _).trans h4
  have r24 := r23.on k4
  have r3' := r3
  have hr3' := hr3
  clear r13 r23 r3 hr3 h4 m0
  have z4 := k4.size
  go_wp2_with (at_builtin; refine wpList_app _ rfl (.tmp 31) (.tmp 32) 23 rfl w3.heap.size 5 i0 (.int .u8 0) 1 Try.underlying23 hi hz0 hz1 hz2 rfl _ _ _ rfl o4 _ _ _ _ _ rfl r24 (ints_one _ _) (by unfold maxLen; omega) (by omega) z4 ?_)
  intro v5 w5 o5 _ h5
  obtain ⟨A5, c5, rfl⟩ := own_slice o5
  have k5 : Below w3.heap.size w3 w5 := k4.trans h5
  have r35 := r3'.on k5
  have hr5 := hr3'.on k5
  have z5 := k5.size
  clear r24 h5 k4 z4 o4
  go_wp2_with (at_builtin; refine wpList_app _ rfl (.tmp 33) (.tmp 34) 23 rfl w3.heap.size 5 i0 (.int .u8 0) 1 Try.underlying23 hi hz0 hz1 hz2 rfl _ _ _ rfl o5 _ _ _ _ _ rfl r35 (ints_one _ _) (by unfold maxLen; omega) (by omega) z5 ?_)
  intro v6 w6 o6 _ h6
  obtain ⟨A6, c6, rfl⟩ := own_slice o6
  have k6 : Below w3.heap.size w3 w6 := k5.trans h6
  have hr6 := hr3'.on k6
  have z6 := k6.size
  clear r35 hr5 h6 k5 z5 o5
  go_wp2_with (at_builtin; refine wpList_app _ rfl (.tmp 35) (.tmp 36) 23 rfl w3.heap.size 5 i0 (.int .u8 0) 1 Try.underlying23 hi hz0 hz1 hz2 rfl _ _ _ rfl o6 _ _ _ _ _ rfl hr6 (ints_one _ _) (by unfold maxLen; omega) (by omega) z6 ?_)
  intro v7 w7 o7 _ h7
  obtain ⟨A7, c7, rfl⟩ := own_slice o7
  have k7 : Below w3.heap.size w3 w7 := k6.trans h7
  have r7 := Row.own o7
  simp only [← ints_append, List.append_assoc] at r7
  have b7 := next b3 k7
  clear hr6 h7 k6 z6 o6 o7 hr3' r3' k7
  go_wp2_with fail
  refine (New_len _ _ _ _ (xa ++ (xb ++ (xc ++ bh))) _ (by simp; omega) r7 (Nat.le_refl _) (by omega) BU.out).mono ?_
  rintro e w8 ⟨g, rfl, hg8, hrd, h8⟩
  have b8 := next b7 h8
  have hgw : w.heap.size ≤ g := Nat.le_trans b7.size hg8
  clear r7 b7 h8 hg8
  have a8 : ∃ B, B ≤ w8.heap.size ∧ Rd w8 g B (xa ++ (xb ++ (xc ++ bh))) 0 := ⟨_, Nat.le_refl _, hrd⟩
  obtain ⟨B, hB8, hrd8⟩ := a8
  clear hrd
  rw [HXA.out, List.nil_append] at hrd8
  go_wp2_with fail
  refine (RS.out _ _ _ _ hrd8).mono ?_
  rintro e w9 ⟨rfl, hrd9, ho9⟩
  have b9 := ho9.below b8 hgw b8.size
  clear hrd8 ho9 b8
  go_wp2_with fail
  refine (RT.out _ _ _ _ hrd9).mono ?_
  rintro e w10 ⟨rfl, hrd10, ho10⟩
  have b10 := ho10.below b9 hgw b9.size
  clear hrd9 ho10 b9
  have hfin := hrd10
  obtain ⟨A9, c9, hblk, _⟩ := hfin
  go_wp2_with fail
  refine (Err_made g _ _ _ hblk).mono ?_
  rintro e w' ⟨rfl, rfl⟩
  go_wp2_with fail
  refine (Left_made g _ _ _ _ _ hblk (.inl rfl)).mono ?_
  rintro e w' ⟨rfl, rfl⟩
  go_wp2_with fail
  refine (awake_any _).mono ?_
  rintro e w20 ⟨rfl, h20⟩
  go_wp2
  go_ret
  exact ⟨rfl, next b10 h20⟩

set_option maxRecDepth 100000 in
set_option maxHeartbeats 1000000 in
theorem Back_010 (n : Int) (s : ByteArray) (A : Option Addr) (bh : List Int) (c : Nat) (w : World) (hs : s.size ≤ 140737488351232) (hr : Row w w.heap.size A bh.length (ints .u8 bh)) (hl : bh.length ≤ 140737488351232) (hu : ∀ x ∈ bh, 0 ≤ x ∧ x ≤ 255) (he : n < 0 ∨ 18014398509481982 < n) (hf : -9007199254740991 ≤ n ∧ n ≤ 9007199254740991) (hg : 65535 < s.size) :
    Calls Try.prog 5 #[.int .i64 n, .string s, .slice A bh.length c] w fun e w' => e = .returned (.bool true) ∧ Below w.heap.size w w' := by
  obtain ⟨i0, hi, hz0, hz1, hz2⟩ := info_parts u8_info
  have cU := U_any n w
  have cS := fun w => S_any n w
  have cT := fun w => Text_any s w (by omega)
  have hn : ¬ (0 ≤ n ∧ n ≤ 18014398509481982) := by omega
  rw [show uErr n = 9 by rw [uErr, if_pos (by omega)], show uOut n = [] by rw [uOut, if_pos (by omega)]] at cU
  obtain ⟨xa, hxa⟩ : ∃ xa : List Int, xa = [] := ⟨[], rfl⟩
  rw [← hxa] at cU
  have lU : xa.length ≤ 8 := by rw [hxa]; simp
  have bU : ∀ x ∈ xa, 0 ≤ x ∧ x ≤ 255 := by rw [hxa]; simp
  have HXA := Lib.hid hxa
  clear hxa
  have hf' : sOk n := hf
  rw [show sErr n = 0 by rw [sErr, if_pos hf'], show sOut n = leb (zz n) by rw [sOut, if_pos hf']] at cS
  have lS := leb_len8 (zz_le hf')
  have bS := leb_bytes (zz_le hf')
  have rS := fun (g B : Nat) (rest : List Int) (w : World) (h : Rd w g B (leb (zz n) ++ rest) 0) => RS_back g B n rest w hf' h
  have df1 : decide ((-9007199254740991 : Int) ≤ n) = true := decide_eq_true hf.1
  have df2 : decide (n ≤ (9007199254740991 : Int)) = true := decide_eq_true hf.2
  generalize leb (zz n) = xb at *
  rw [show tErr s = 5 by rw [tErr, if_pos hg], show tOut s = [] by rw [tOut, if_pos hg]] at cT
  obtain ⟨xc, hxc⟩ : ∃ xc : List Int, xc = [] := ⟨[], rfl⟩
  rw [← hxc] at cT
  have lT : xc.length ≤ 65543 := by rw [hxc]; simp
  have bT : ∀ x ∈ xc, 0 ≤ x ∧ x ≤ 255 := by rw [hxc]; simp
  have dg : decide ((s.size : Int) ≤ 65535) = false := by simp; omega
  have HXC := Lib.hid hxc
  clear hxc
  have CU := Lib.hid cU
  have CS := Lib.hid cS
  have CT := Lib.hid cT
  have BU := Lib.hid (bytes_all bU bS bT hu)
  clear cU cS cT bU bS bT hu
  have RS := Lib.hid rS
  clear rS
  go_enter Try.func5, Try.ntmps5
  go_wp2_with fail
  refine CU.out.mono ?_
  rintro e w1 ⟨A1, c1, rfl, o1, b1⟩
  have r1 := Row.own o1
  have hr1 := hr.on b1
  clear o1
  go_wp2_with fail
  refine (CS.out w1).mono ?_
  rintro e w2 ⟨A2, c2, rfl, o2, h2⟩
  have r2 := Row.own o2
  have r12 := r1.on h2
  have hr2 := hr1.on h2
  have b2 := next b1 h2
  clear o2 b1 h2 r1 hr1
  go_wp2_with fail
  refine (CT.out w2).mono ?_
  rintro e w3 ⟨A3, c3, rfl, o3, h3⟩
  have r3 := Row.own o3
  have r13 := r12.on h3
  have r23 := r2.on h3
  have hr3 := hr2.on h3
  have b3 := next b2 h3
  clear o3 b2 h3 r12 r2 hr2
  have m0 := World.ownsRow_made (e := 5) (size := 1) w3 #[] 0 (Nat.le_refl _) (by unfold maxLen; omega) rfl
  go_wp2_with (at_builtin; refine wpList_app _ rfl (.tmp 29) (.tmp 30) 23 rfl w3.heap.size 5 i0 (.int .u8 0) 1 Try.underlying23 hi hz0 hz1 hz2 rfl _ 0 [] rfl m0 _ _ _ _ _ rfl (r13.alloc (Nat.le_refl _) _) (ints_one _ _) (by unfold maxLen; omega) (by omega) (by simp) ?_)
  intro v4 w4 o4 _ h4
  obtain ⟨A4, c4, rfl⟩ := own_slice o4
  have k4 : Below w3.heap.size w3 w4 := ((Below.refl _ _).alloc (Nat.le_refl _) _).trans h4
  have r24 := r23.on k4
  have r3' := r3
  have hr3' := hr3
  clear r13 r23 r3 hr3 h4 m0
  have z4 := k4.size
  go_wp2_with (at_builtin; refine wpList_app _ rfl (.tmp 31) (.tmp 32) 23 rfl w3.heap.size 5 i0 (.int .u8 0) 1 Try.underlying23 hi hz0 hz1 hz2 rfl _ _ _ rfl o4 _ _ _ _ _ rfl r24 (ints_one _ _) (by unfold maxLen; omega) (by omega) z4 ?_)
  intro v5 w5 o5 _ h5
  obtain ⟨A5, c5, rfl⟩ := own_slice o5
  have k5 : Below w3.heap.size w3 w5 := k4.trans h5
  have r35 := r3'.on k5
  have hr5 := hr3'.on k5
  have z5 := k5.size
  clear r24 h5 k4 z4 o4
  go_wp2_with (at_builtin; refine wpList_app _ rfl (.tmp 33) (.tmp 34) 23 rfl w3.heap.size 5 i0 (.int .u8 0) 1 Try.underlying23 hi hz0 hz1 hz2 rfl _ _ _ rfl o5 _ _ _ _ _ rfl r35 (ints_one _ _) (by unfold maxLen; omega) (by omega) z5 ?_)
  intro v6 w6 o6 _ h6
  obtain ⟨A6, c6, rfl⟩ := own_slice o6
  have k6 : Below w3.heap.size w3 w6 := k5.trans h6
  have hr6 := hr3'.on k6
  have z6 := k6.size
  clear r35 hr5 h6 k5 z5 o5
  go_wp2_with (at_builtin; refine wpList_app _ rfl (.tmp 35) (.tmp 36) 23 rfl w3.heap.size 5 i0 (.int .u8 0) 1 Try.underlying23 hi hz0 hz1 hz2 rfl _ _ _ rfl o6 _ _ _ _ _ rfl hr6 (ints_one _ _) (by unfold maxLen; omega) (by omega) z6 ?_)
  intro v7 w7 o7 _ h7
  obtain ⟨A7, c7, rfl⟩ := own_slice o7
  have k7 : Below w3.heap.size w3 w7 := k6.trans h7
  have r7 := Row.own o7
  simp only [← ints_append, List.append_assoc] at r7
  have b7 := next b3 k7
  clear hr6 h7 k6 z6 o6 o7 hr3' r3' k7
  go_wp2_with fail
  refine (New_len _ _ _ _ (xa ++ (xb ++ (xc ++ bh))) _ (by simp; omega) r7 (Nat.le_refl _) (by omega) BU.out).mono ?_
  rintro e w8 ⟨g, rfl, hg8, hrd, h8⟩
  have b8 := next b7 h8
  have hgw : w.heap.size ≤ g := Nat.le_trans b7.size hg8
  clear r7 b7 h8 hg8
  have a8 : ∃ B, B ≤ w8.heap.size ∧ Rd w8 g B (xa ++ (xb ++ (xc ++ bh))) 0 := ⟨_, Nat.le_refl _, hrd⟩
  obtain ⟨B, hB8, hrd8⟩ := a8
  clear hrd
  rw [HXA.out, List.nil_append] at hrd8
  go_wp2_with fail
  refine (RS.out _ _ _ _ hrd8).mono ?_
  rintro e w9 ⟨rfl, hrd9, ho9⟩
  have b9 := ho9.below b8 hgw b8.size
  clear hrd8 ho9 b8
  rw [HXC.out, List.nil_append] at hrd9
  have hfin := hrd9
  obtain ⟨A9, c9, hblk, _⟩ := hfin
  go_wp2_with fail
  refine (Err_made g _ _ _ hblk).mono ?_
  rintro e w' ⟨rfl, rfl⟩
  go_wp2_with fail
  refine (Left_made g _ _ _ _ _ hblk (.inl rfl)).mono ?_
  rintro e w' ⟨rfl, rfl⟩
  go_wp2_with fail
  refine (awake_any _).mono ?_
  rintro e w20 ⟨rfl, h20⟩
  go_wp2
  go_ret
  exact ⟨rfl, next b9 h20⟩

set_option maxRecDepth 100000 in
set_option maxHeartbeats 1000000 in
theorem Back_001n (n : Int) (s : ByteArray) (A : Option Addr) (bh : List Int) (c : Nat) (w : World) (hs : s.size ≤ 140737488351232) (hr : Row w w.heap.size A bh.length (ints .u8 bh)) (hl : bh.length ≤ 140737488351232) (hu : ∀ x ∈ bh, 0 ≤ x ∧ x ≤ 255) (he : n < -9007199254740991) (hg : s.size ≤ 65535) :
    Calls Try.prog 5 #[.int .i64 n, .string s, .slice A bh.length c] w fun e w' => e = .returned (.bool true) ∧ Below w.heap.size w w' := by
  obtain ⟨i0, hi, hz0, hz1, hz2⟩ := info_parts u8_info
  have cU := U_any n w
  have cS := fun w => S_any n w
  have cT := fun w => Text_any s w (by omega)
  have hn : ¬ (0 ≤ n ∧ n ≤ 18014398509481982) := by omega
  rw [show uErr n = 9 by rw [uErr, if_pos (by omega)], show uOut n = [] by rw [uOut, if_pos (by omega)]] at cU
  obtain ⟨xa, hxa⟩ : ∃ xa : List Int, xa = [] := ⟨[], rfl⟩
  rw [← hxa] at cU
  have lU : xa.length ≤ 8 := by rw [hxa]; simp
  have bU : ∀ x ∈ xa, 0 ≤ x ∧ x ≤ 255 := by rw [hxa]; simp
  have HXA := Lib.hid hxa
  clear hxa
  have hf' : ¬ sOk n := by unfold sOk; omega
  rw [show sErr n = 9 by rw [sErr, if_neg hf'], show sOut n = [] by rw [sOut, if_neg hf']] at cS
  obtain ⟨xb, hxb⟩ : ∃ xb : List Int, xb = [] := ⟨[], rfl⟩
  rw [← hxb] at cS
  have lS : xb.length ≤ 8 := by rw [hxb]; simp
  have bS : ∀ x ∈ xb, 0 ≤ x ∧ x ≤ 255 := by rw [hxb]; simp
  have HXB := Lib.hid hxb
  clear hxb
  rw [show tErr s = 0 by rw [tErr, if_neg (by omega)], show tOut s = leb s.size ++ nums s by rw [tOut, if_neg (by omega)]] at cT
  have lT : (leb s.size ++ nums s).length ≤ 65543 := by rw [List.length_append, nums_len]; have := leb_len8 (n := s.size) (by omega); omega
  have bT : ∀ x ∈ leb s.size ++ nums s, 0 ≤ x ∧ x ≤ 255 := by
    intro x hx
    rcases List.mem_append.1 hx with h | h
    · exact leb_bytes (by omega) x h
    · exact nums_byte s x h
  have rT := fun (g B : Nat) (rest : List Int) (w : World) (h : Rd w g B (leb s.size ++ nums s ++ rest) 0) => RT_back g B s rest w hg h
  have dg : decide ((s.size : Int) ≤ 65535) = true := by simp; omega
  generalize leb s.size ++ nums s = xc at *
  have CU := Lib.hid cU
  have CS := Lib.hid cS
  have CT := Lib.hid cT
  have BU := Lib.hid (bytes_all bU bS bT hu)
  clear cU cS cT bU bS bT hu
  have RT := Lib.hid rT
  clear rT
  go_enter Try.func5, Try.ntmps5
  go_wp2_with fail
  refine CU.out.mono ?_
  rintro e w1 ⟨A1, c1, rfl, o1, b1⟩
  have r1 := Row.own o1
  have hr1 := hr.on b1
  clear o1
  go_wp2_with fail
  refine (CS.out w1).mono ?_
  rintro e w2 ⟨A2, c2, rfl, o2, h2⟩
  have r2 := Row.own o2
  have r12 := r1.on h2
  have hr2 := hr1.on h2
  have b2 := next b1 h2
  clear o2 b1 h2 r1 hr1
  go_wp2_with fail
  refine (CT.out w2).mono ?_
  rintro e w3 ⟨A3, c3, rfl, o3, h3⟩
  have r3 := Row.own o3
  have r13 := r12.on h3
  have r23 := r2.on h3
  have hr3 := hr2.on h3
  have b3 := next b2 h3
  clear o3 b2 h3 r12 r2 hr2
  have m0 := World.ownsRow_made (e := 5) (size := 1) w3 #[] 0 (Nat.le_refl _) (by unfold maxLen; omega) rfl
  go_wp2_with (at_builtin; refine wpList_app _ rfl (.tmp 29) (.tmp 30) 23 rfl w3.heap.size 5 i0 (.int .u8 0) 1 Try.underlying23 hi hz0 hz1 hz2 rfl _ 0 [] rfl m0 _ _ _ _ _ rfl (r13.alloc (Nat.le_refl _) _) (ints_one _ _) (by unfold maxLen; omega) (by omega) (by simp) ?_)
  intro v4 w4 o4 _ h4
  obtain ⟨A4, c4, rfl⟩ := own_slice o4
  have k4 : Below w3.heap.size w3 w4 := ((Below.refl _ _).alloc (Nat.le_refl _) _).trans h4
  have r24 := r23.on k4
  have r3' := r3
  have hr3' := hr3
  clear r13 r23 r3 hr3 h4 m0
  have z4 := k4.size
  go_wp2_with (at_builtin; refine wpList_app _ rfl (.tmp 31) (.tmp 32) 23 rfl w3.heap.size 5 i0 (.int .u8 0) 1 Try.underlying23 hi hz0 hz1 hz2 rfl _ _ _ rfl o4 _ _ _ _ _ rfl r24 (ints_one _ _) (by unfold maxLen; omega) (by omega) z4 ?_)
  intro v5 w5 o5 _ h5
  obtain ⟨A5, c5, rfl⟩ := own_slice o5
  have k5 : Below w3.heap.size w3 w5 := k4.trans h5
  have r35 := r3'.on k5
  have hr5 := hr3'.on k5
  have z5 := k5.size
  clear r24 h5 k4 z4 o4
  go_wp2_with (at_builtin; refine wpList_app _ rfl (.tmp 33) (.tmp 34) 23 rfl w3.heap.size 5 i0 (.int .u8 0) 1 Try.underlying23 hi hz0 hz1 hz2 rfl _ _ _ rfl o5 _ _ _ _ _ rfl r35 (ints_one _ _) (by unfold maxLen; omega) (by omega) z5 ?_)
  intro v6 w6 o6 _ h6
  obtain ⟨A6, c6, rfl⟩ := own_slice o6
  have k6 : Below w3.heap.size w3 w6 := k5.trans h6
  have hr6 := hr3'.on k6
  have z6 := k6.size
  clear r35 hr5 h6 k5 z5 o5
  go_wp2_with (at_builtin; refine wpList_app _ rfl (.tmp 35) (.tmp 36) 23 rfl w3.heap.size 5 i0 (.int .u8 0) 1 Try.underlying23 hi hz0 hz1 hz2 rfl _ _ _ rfl o6 _ _ _ _ _ rfl hr6 (ints_one _ _) (by unfold maxLen; omega) (by omega) z6 ?_)
  intro v7 w7 o7 _ h7
  obtain ⟨A7, c7, rfl⟩ := own_slice o7
  have k7 : Below w3.heap.size w3 w7 := k6.trans h7
  have r7 := Row.own o7
  simp only [← ints_append, List.append_assoc] at r7
  have b7 := next b3 k7
  clear hr6 h7 k6 z6 o6 o7 hr3' r3' k7
  go_wp2_with fail
  refine (New_len _ _ _ _ (xa ++ (xb ++ (xc ++ bh))) _ (by simp; omega) r7 (Nat.le_refl _) (by omega) BU.out).mono ?_
  rintro e w8 ⟨g, rfl, hg8, hrd, h8⟩
  have b8 := next b7 h8
  have hgw : w.heap.size ≤ g := Nat.le_trans b7.size hg8
  clear r7 b7 h8 hg8
  have a8 : ∃ B, B ≤ w8.heap.size ∧ Rd w8 g B (xa ++ (xb ++ (xc ++ bh))) 0 := ⟨_, Nat.le_refl _, hrd⟩
  obtain ⟨B, hB8, hrd8⟩ := a8
  clear hrd
  rw [HXA.out, List.nil_append] at hrd8
  rw [HXB.out, List.nil_append] at hrd8
  go_wp2_with fail
  refine (RT.out _ _ _ _ hrd8).mono ?_
  rintro e w9 ⟨rfl, hrd9, ho9⟩
  have b9 := ho9.below b8 hgw b8.size
  clear hrd8 ho9 b8
  have hfin := hrd9
  obtain ⟨A9, c9, hblk, _⟩ := hfin
  go_wp2_with fail
  refine (Err_made g _ _ _ hblk).mono ?_
  rintro e w' ⟨rfl, rfl⟩
  go_wp2_with fail
  refine (Left_made g _ _ _ _ _ hblk (.inl rfl)).mono ?_
  rintro e w' ⟨rfl, rfl⟩
  go_wp2_with fail
  refine (awake_any _).mono ?_
  rintro e w20 ⟨rfl, h20⟩
  go_wp2
  go_ret
  exact ⟨rfl, next b9 h20⟩

set_option maxRecDepth 100000 in
set_option maxHeartbeats 1000000 in
theorem Back_001b (n : Int) (s : ByteArray) (A : Option Addr) (bh : List Int) (c : Nat) (w : World) (hs : s.size ≤ 140737488351232) (hr : Row w w.heap.size A bh.length (ints .u8 bh)) (hl : bh.length ≤ 140737488351232) (hu : ∀ x ∈ bh, 0 ≤ x ∧ x ≤ 255) (he : 18014398509481982 < n) (hg : s.size ≤ 65535) :
    Calls Try.prog 5 #[.int .i64 n, .string s, .slice A bh.length c] w fun e w' => e = .returned (.bool true) ∧ Below w.heap.size w w' := by
  obtain ⟨i0, hi, hz0, hz1, hz2⟩ := info_parts u8_info
  have cU := U_any n w
  have cS := fun w => S_any n w
  have cT := fun w => Text_any s w (by omega)
  have hn : ¬ (0 ≤ n ∧ n ≤ 18014398509481982) := by omega
  rw [show uErr n = 9 by rw [uErr, if_pos (by omega)], show uOut n = [] by rw [uOut, if_pos (by omega)]] at cU
  obtain ⟨xa, hxa⟩ : ∃ xa : List Int, xa = [] := ⟨[], rfl⟩
  rw [← hxa] at cU
  have lU : xa.length ≤ 8 := by rw [hxa]; simp
  have bU : ∀ x ∈ xa, 0 ≤ x ∧ x ≤ 255 := by rw [hxa]; simp
  have HXA := Lib.hid hxa
  clear hxa
  have hf' : ¬ sOk n := by unfold sOk; omega
  rw [show sErr n = 9 by rw [sErr, if_neg hf'], show sOut n = [] by rw [sOut, if_neg hf']] at cS
  obtain ⟨xb, hxb⟩ : ∃ xb : List Int, xb = [] := ⟨[], rfl⟩
  rw [← hxb] at cS
  have lS : xb.length ≤ 8 := by rw [hxb]; simp
  have bS : ∀ x ∈ xb, 0 ≤ x ∧ x ≤ 255 := by rw [hxb]; simp
  have HXB := Lib.hid hxb
  clear hxb
  rw [show tErr s = 0 by rw [tErr, if_neg (by omega)], show tOut s = leb s.size ++ nums s by rw [tOut, if_neg (by omega)]] at cT
  have lT : (leb s.size ++ nums s).length ≤ 65543 := by rw [List.length_append, nums_len]; have := leb_len8 (n := s.size) (by omega); omega
  have bT : ∀ x ∈ leb s.size ++ nums s, 0 ≤ x ∧ x ≤ 255 := by
    intro x hx
    rcases List.mem_append.1 hx with h | h
    · exact leb_bytes (by omega) x h
    · exact nums_byte s x h
  have rT := fun (g B : Nat) (rest : List Int) (w : World) (h : Rd w g B (leb s.size ++ nums s ++ rest) 0) => RT_back g B s rest w hg h
  have dg : decide ((s.size : Int) ≤ 65535) = true := by simp; omega
  generalize leb s.size ++ nums s = xc at *
  have CU := Lib.hid cU
  have CS := Lib.hid cS
  have CT := Lib.hid cT
  have BU := Lib.hid (bytes_all bU bS bT hu)
  clear cU cS cT bU bS bT hu
  have RT := Lib.hid rT
  clear rT
  go_enter Try.func5, Try.ntmps5
  go_wp2_with fail
  refine CU.out.mono ?_
  rintro e w1 ⟨A1, c1, rfl, o1, b1⟩
  have r1 := Row.own o1
  have hr1 := hr.on b1
  clear o1
  go_wp2_with fail
  refine (CS.out w1).mono ?_
  rintro e w2 ⟨A2, c2, rfl, o2, h2⟩
  have r2 := Row.own o2
  have r12 := r1.on h2
  have hr2 := hr1.on h2
  have b2 := next b1 h2
  clear o2 b1 h2 r1 hr1
  go_wp2_with fail
  refine (CT.out w2).mono ?_
  rintro e w3 ⟨A3, c3, rfl, o3, h3⟩
  have r3 := Row.own o3
  have r13 := r12.on h3
  have r23 := r2.on h3
  have hr3 := hr2.on h3
  have b3 := next b2 h3
  clear o3 b2 h3 r12 r2 hr2
  have m0 := World.ownsRow_made (e := 5) (size := 1) w3 #[] 0 (Nat.le_refl _) (by unfold maxLen; omega) rfl
  go_wp2_with (at_builtin; refine wpList_app _ rfl (.tmp 29) (.tmp 30) 23 rfl w3.heap.size 5 i0 (.int .u8 0) 1 Try.underlying23 hi hz0 hz1 hz2 rfl _ 0 [] rfl m0 _ _ _ _ _ rfl (r13.alloc (Nat.le_refl _) _) (ints_one _ _) (by unfold maxLen; omega) (by omega) (by simp) ?_)
  intro v4 w4 o4 _ h4
  obtain ⟨A4, c4, rfl⟩ := own_slice o4
  have k4 : Below w3.heap.size w3 w4 := ((Below.refl _ _).alloc (Nat.le_refl _) _).trans h4
  have r24 := r23.on k4
  have r3' := r3
  have hr3' := hr3
  clear r13 r23 r3 hr3 h4 m0
  have z4 := k4.size
  go_wp2_with (at_builtin; refine wpList_app _ rfl (.tmp 31) (.tmp 32) 23 rfl w3.heap.size 5 i0 (.int .u8 0) 1 Try.underlying23 hi hz0 hz1 hz2 rfl _ _ _ rfl o4 _ _ _ _ _ rfl r24 (ints_one _ _) (by unfold maxLen; omega) (by omega) z4 ?_)
  intro v5 w5 o5 _ h5
  obtain ⟨A5, c5, rfl⟩ := own_slice o5
  have k5 : Below w3.heap.size w3 w5 := k4.trans h5
  have r35 := r3'.on k5
  have hr5 := hr3'.on k5
  have z5 := k5.size
  clear r24 h5 k4 z4 o4
  go_wp2_with (at_builtin; refine wpList_app _ rfl (.tmp 33) (.tmp 34) 23 rfl w3.heap.size 5 i0 (.int .u8 0) 1 Try.underlying23 hi hz0 hz1 hz2 rfl _ _ _ rfl o5 _ _ _ _ _ rfl r35 (ints_one _ _) (by unfold maxLen; omega) (by omega) z5 ?_)
  intro v6 w6 o6 _ h6
  obtain ⟨A6, c6, rfl⟩ := own_slice o6
  have k6 : Below w3.heap.size w3 w6 := k5.trans h6
  have hr6 := hr3'.on k6
  have z6 := k6.size
  clear r35 hr5 h6 k5 z5 o5
  go_wp2_with (at_builtin; refine wpList_app _ rfl (.tmp 35) (.tmp 36) 23 rfl w3.heap.size 5 i0 (.int .u8 0) 1 Try.underlying23 hi hz0 hz1 hz2 rfl _ _ _ rfl o6 _ _ _ _ _ rfl hr6 (ints_one _ _) (by unfold maxLen; omega) (by omega) z6 ?_)
  intro v7 w7 o7 _ h7
  obtain ⟨A7, c7, rfl⟩ := own_slice o7
  have k7 : Below w3.heap.size w3 w7 := k6.trans h7
  have r7 := Row.own o7
  simp only [← ints_append, List.append_assoc] at r7
  have b7 := next b3 k7
  clear hr6 h7 k6 z6 o6 o7 hr3' r3' k7
  go_wp2_with fail
  refine (New_len _ _ _ _ (xa ++ (xb ++ (xc ++ bh))) _ (by simp; omega) r7 (Nat.le_refl _) (by omega) BU.out).mono ?_
  rintro e w8 ⟨g, rfl, hg8, hrd, h8⟩
  have b8 := next b7 h8
  have hgw : w.heap.size ≤ g := Nat.le_trans b7.size hg8
  clear r7 b7 h8 hg8
  have a8 : ∃ B, B ≤ w8.heap.size ∧ Rd w8 g B (xa ++ (xb ++ (xc ++ bh))) 0 := ⟨_, Nat.le_refl _, hrd⟩
  obtain ⟨B, hB8, hrd8⟩ := a8
  clear hrd
  rw [HXA.out, List.nil_append] at hrd8
  rw [HXB.out, List.nil_append] at hrd8
  go_wp2_with fail
  refine (RT.out _ _ _ _ hrd8).mono ?_
  rintro e w9 ⟨rfl, hrd9, ho9⟩
  have b9 := ho9.below b8 hgw b8.size
  clear hrd8 ho9 b8
  have hfin := hrd9
  obtain ⟨A9, c9, hblk, _⟩ := hfin
  go_wp2_with fail
  refine (Err_made g _ _ _ hblk).mono ?_
  rintro e w' ⟨rfl, rfl⟩
  go_wp2_with fail
  refine (Left_made g _ _ _ _ _ hblk (.inl rfl)).mono ?_
  rintro e w' ⟨rfl, rfl⟩
  go_wp2_with fail
  refine (awake_any _).mono ?_
  rintro e w20 ⟨rfl, h20⟩
  go_wp2
  go_ret
  exact ⟨rfl, next b9 h20⟩

set_option maxRecDepth 100000 in
set_option maxHeartbeats 1000000 in
theorem Back_000n (n : Int) (s : ByteArray) (A : Option Addr) (bh : List Int) (c : Nat) (w : World) (hs : s.size ≤ 140737488351232) (hr : Row w w.heap.size A bh.length (ints .u8 bh)) (hl : bh.length ≤ 140737488351232) (hu : ∀ x ∈ bh, 0 ≤ x ∧ x ≤ 255) (he : n < -9007199254740991) (hg : 65535 < s.size) :
    Calls Try.prog 5 #[.int .i64 n, .string s, .slice A bh.length c] w fun e w' => e = .returned (.bool true) ∧ Below w.heap.size w w' := by
  obtain ⟨i0, hi, hz0, hz1, hz2⟩ := info_parts u8_info
  have cU := U_any n w
  have cS := fun w => S_any n w
  have cT := fun w => Text_any s w (by omega)
  have hn : ¬ (0 ≤ n ∧ n ≤ 18014398509481982) := by omega
  rw [show uErr n = 9 by rw [uErr, if_pos (by omega)], show uOut n = [] by rw [uOut, if_pos (by omega)]] at cU
  obtain ⟨xa, hxa⟩ : ∃ xa : List Int, xa = [] := ⟨[], rfl⟩
  rw [← hxa] at cU
  have lU : xa.length ≤ 8 := by rw [hxa]; simp
  have bU : ∀ x ∈ xa, 0 ≤ x ∧ x ≤ 255 := by rw [hxa]; simp
  have HXA := Lib.hid hxa
  clear hxa
  have hf' : ¬ sOk n := by unfold sOk; omega
  rw [show sErr n = 9 by rw [sErr, if_neg hf'], show sOut n = [] by rw [sOut, if_neg hf']] at cS
  obtain ⟨xb, hxb⟩ : ∃ xb : List Int, xb = [] := ⟨[], rfl⟩
  rw [← hxb] at cS
  have lS : xb.length ≤ 8 := by rw [hxb]; simp
  have bS : ∀ x ∈ xb, 0 ≤ x ∧ x ≤ 255 := by rw [hxb]; simp
  have HXB := Lib.hid hxb
  clear hxb
  rw [show tErr s = 5 by rw [tErr, if_pos hg], show tOut s = [] by rw [tOut, if_pos hg]] at cT
  obtain ⟨xc, hxc⟩ : ∃ xc : List Int, xc = [] := ⟨[], rfl⟩
  rw [← hxc] at cT
  have lT : xc.length ≤ 65543 := by rw [hxc]; simp
  have bT : ∀ x ∈ xc, 0 ≤ x ∧ x ≤ 255 := by rw [hxc]; simp
  have dg : decide ((s.size : Int) ≤ 65535) = false := by simp; omega
  have HXC := Lib.hid hxc
  clear hxc
  have CU := Lib.hid cU
  have CS := Lib.hid cS
  have CT := Lib.hid cT
  have BU := Lib.hid (bytes_all bU bS bT hu)
  clear cU cS cT bU bS bT hu
  go_enter Try.func5, Try.ntmps5
  go_wp2_with fail
  refine CU.out.mono ?_
  rintro e w1 ⟨A1, c1, rfl, o1, b1⟩
  have r1 := Row.own o1
  have hr1 := hr.on b1
  clear o1
  go_wp2_with fail
  refine (CS.out w1).mono ?_
  rintro e w2 ⟨A2, c2, rfl, o2, h2⟩
  have r2 := Row.own o2
  have r12 := r1.on h2
  have hr2 := hr1.on h2
  have b2 := next b1 h2
  clear o2 b1 h2 r1 hr1
  go_wp2_with fail
  refine (CT.out w2).mono ?_
  rintro e w3 ⟨A3, c3, rfl, o3, h3⟩
  have r3 := Row.own o3
  have r13 := r12.on h3
  have r23 := r2.on h3
  have hr3 := hr2.on h3
  have b3 := next b2 h3
  clear o3 b2 h3 r12 r2 hr2
  have m0 := World.ownsRow_made (e := 5) (size := 1) w3 #[] 0 (Nat.le_refl _) (by unfold maxLen; omega) rfl
  go_wp2_with (at_builtin; refine wpList_app _ rfl (.tmp 29) (.tmp 30) 23 rfl w3.heap.size 5 i0 (.int .u8 0) 1 Try.underlying23 hi hz0 hz1 hz2 rfl _ 0 [] rfl m0 _ _ _ _ _ rfl (r13.alloc (Nat.le_refl _) _) (ints_one _ _) (by unfold maxLen; omega) (by omega) (by simp) ?_)
  intro v4 w4 o4 _ h4
  obtain ⟨A4, c4, rfl⟩ := own_slice o4
  have k4 : Below w3.heap.size w3 w4 := ((Below.refl _ _).alloc (Nat.le_refl _) _).trans h4
  have r24 := r23.on k4
  have r3' := r3
  have hr3' := hr3
  clear r13 r23 r3 hr3 h4 m0
  have z4 := k4.size
  go_wp2_with (at_builtin; refine wpList_app _ rfl (.tmp 31) (.tmp 32) 23 rfl w3.heap.size 5 i0 (.int .u8 0) 1 Try.underlying23 hi hz0 hz1 hz2 rfl _ _ _ rfl o4 _ _ _ _ _ rfl r24 (ints_one _ _) (by unfold maxLen; omega) (by omega) z4 ?_)
  intro v5 w5 o5 _ h5
  obtain ⟨A5, c5, rfl⟩ := own_slice o5
  have k5 : Below w3.heap.size w3 w5 := k4.trans h5
  have r35 := r3'.on k5
  have hr5 := hr3'.on k5
  have z5 := k5.size
  clear r24 h5 k4 z4 o4
  go_wp2_with (at_builtin; refine wpList_app _ rfl (.tmp 33) (.tmp 34) 23 rfl w3.heap.size 5 i0 (.int .u8 0) 1 Try.underlying23 hi hz0 hz1 hz2 rfl _ _ _ rfl o5 _ _ _ _ _ rfl r35 (ints_one _ _) (by unfold maxLen; omega) (by omega) z5 ?_)
  intro v6 w6 o6 _ h6
  obtain ⟨A6, c6, rfl⟩ := own_slice o6
  have k6 : Below w3.heap.size w3 w6 := k5.trans h6
  have hr6 := hr3'.on k6
  have z6 := k6.size
  clear r35 hr5 h6 k5 z5 o5
  go_wp2_with (at_builtin; refine wpList_app _ rfl (.tmp 35) (.tmp 36) 23 rfl w3.heap.size 5 i0 (.int .u8 0) 1 Try.underlying23 hi hz0 hz1 hz2 rfl _ _ _ rfl o6 _ _ _ _ _ rfl hr6 (ints_one _ _) (by unfold maxLen; omega) (by omega) z6 ?_)
  intro v7 w7 o7 _ h7
  obtain ⟨A7, c7, rfl⟩ := own_slice o7
  have k7 : Below w3.heap.size w3 w7 := k6.trans h7
  have r7 := Row.own o7
  simp only [← ints_append, List.append_assoc] at r7
  have b7 := next b3 k7
  clear hr6 h7 k6 z6 o6 o7 hr3' r3' k7
  go_wp2_with fail
  refine (New_len _ _ _ _ (xa ++ (xb ++ (xc ++ bh))) _ (by simp; omega) r7 (Nat.le_refl _) (by omega) BU.out).mono ?_
  rintro e w8 ⟨g, rfl, hg8, hrd, h8⟩
  have b8 := next b7 h8
  have hgw : w.heap.size ≤ g := Nat.le_trans b7.size hg8
  clear r7 b7 h8 hg8
  have a8 : ∃ B, B ≤ w8.heap.size ∧ Rd w8 g B (xa ++ (xb ++ (xc ++ bh))) 0 := ⟨_, Nat.le_refl _, hrd⟩
  obtain ⟨B, hB8, hrd8⟩ := a8
  clear hrd
  rw [HXA.out, List.nil_append] at hrd8
  rw [HXB.out, List.nil_append] at hrd8
  rw [HXC.out, List.nil_append] at hrd8
  have hfin := hrd8
  obtain ⟨A9, c9, hblk, _⟩ := hfin
  go_wp2_with fail
  refine (Err_made g _ _ _ hblk).mono ?_
  rintro e w' ⟨rfl, rfl⟩
  go_wp2_with fail
  refine (Left_made g _ _ _ _ _ hblk (.inl rfl)).mono ?_
  rintro e w' ⟨rfl, rfl⟩
  go_wp2_with fail
  refine (awake_any _).mono ?_
  rintro e w20 ⟨rfl, h20⟩
  go_wp2
  go_ret
  exact ⟨rfl, next b8 h20⟩

set_option maxRecDepth 100000 in
set_option maxHeartbeats 1000000 in
theorem Back_000b (n : Int) (s : ByteArray) (A : Option Addr) (bh : List Int) (c : Nat) (w : World) (hs : s.size ≤ 140737488351232) (hr : Row w w.heap.size A bh.length (ints .u8 bh)) (hl : bh.length ≤ 140737488351232) (hu : ∀ x ∈ bh, 0 ≤ x ∧ x ≤ 255) (he : 18014398509481982 < n) (hg : 65535 < s.size) :
    Calls Try.prog 5 #[.int .i64 n, .string s, .slice A bh.length c] w fun e w' => e = .returned (.bool true) ∧ Below w.heap.size w w' := by
  obtain ⟨i0, hi, hz0, hz1, hz2⟩ := info_parts u8_info
  have cU := U_any n w
  have cS := fun w => S_any n w
  have cT := fun w => Text_any s w (by omega)
  have hn : ¬ (0 ≤ n ∧ n ≤ 18014398509481982) := by omega
  rw [show uErr n = 9 by rw [uErr, if_pos (by omega)], show uOut n = [] by rw [uOut, if_pos (by omega)]] at cU
  obtain ⟨xa, hxa⟩ : ∃ xa : List Int, xa = [] := ⟨[], rfl⟩
  rw [← hxa] at cU
  have lU : xa.length ≤ 8 := by rw [hxa]; simp
  have bU : ∀ x ∈ xa, 0 ≤ x ∧ x ≤ 255 := by rw [hxa]; simp
  have HXA := Lib.hid hxa
  clear hxa
  have hf' : ¬ sOk n := by unfold sOk; omega
  rw [show sErr n = 9 by rw [sErr, if_neg hf'], show sOut n = [] by rw [sOut, if_neg hf']] at cS
  obtain ⟨xb, hxb⟩ : ∃ xb : List Int, xb = [] := ⟨[], rfl⟩
  rw [← hxb] at cS
  have lS : xb.length ≤ 8 := by rw [hxb]; simp
  have bS : ∀ x ∈ xb, 0 ≤ x ∧ x ≤ 255 := by rw [hxb]; simp
  have HXB := Lib.hid hxb
  clear hxb
  rw [show tErr s = 5 by rw [tErr, if_pos hg], show tOut s = [] by rw [tOut, if_pos hg]] at cT
  obtain ⟨xc, hxc⟩ : ∃ xc : List Int, xc = [] := ⟨[], rfl⟩
  rw [← hxc] at cT
  have lT : xc.length ≤ 65543 := by rw [hxc]; simp
  have bT : ∀ x ∈ xc, 0 ≤ x ∧ x ≤ 255 := by rw [hxc]; simp
  have dg : decide ((s.size : Int) ≤ 65535) = false := by simp; omega
  have HXC := Lib.hid hxc
  clear hxc
  have CU := Lib.hid cU
  have CS := Lib.hid cS
  have CT := Lib.hid cT
  have BU := Lib.hid (bytes_all bU bS bT hu)
  clear cU cS cT bU bS bT hu
  go_enter Try.func5, Try.ntmps5
  go_wp2_with fail
  refine CU.out.mono ?_
  rintro e w1 ⟨A1, c1, rfl, o1, b1⟩
  have r1 := Row.own o1
  have hr1 := hr.on b1
  clear o1
  go_wp2_with fail
  refine (CS.out w1).mono ?_
  rintro e w2 ⟨A2, c2, rfl, o2, h2⟩
  have r2 := Row.own o2
  have r12 := r1.on h2
  have hr2 := hr1.on h2
  have b2 := next b1 h2
  clear o2 b1 h2 r1 hr1
  go_wp2_with fail
  refine (CT.out w2).mono ?_
  rintro e w3 ⟨A3, c3, rfl, o3, h3⟩
  have r3 := Row.own o3
  have r13 := r12.on h3
  have r23 := r2.on h3
  have hr3 := hr2.on h3
  have b3 := next b2 h3
  clear o3 b2 h3 r12 r2 hr2
  have m0 := World.ownsRow_made (e := 5) (size := 1) w3 #[] 0 (Nat.le_refl _) (by unfold maxLen; omega) rfl
  go_wp2_with (at_builtin; refine wpList_app _ rfl (.tmp 29) (.tmp 30) 23 rfl w3.heap.size 5 i0 (.int .u8 0) 1 Try.underlying23 hi hz0 hz1 hz2 rfl _ 0 [] rfl m0 _ _ _ _ _ rfl (r13.alloc (Nat.le_refl _) _) (ints_one _ _) (by unfold maxLen; omega) (by omega) (by simp) ?_)
  intro v4 w4 o4 _ h4
  obtain ⟨A4, c4, rfl⟩ := own_slice o4
  have k4 : Below w3.heap.size w3 w4 := ((Below.refl _ _).alloc (Nat.le_refl _) _).trans h4
  have r24 := r23.on k4
  have r3' := r3
  have hr3' := hr3
  clear r13 r23 r3 hr3 h4 m0
  have z4 := k4.size
  go_wp2_with (at_builtin; refine wpList_app _ rfl (.tmp 31) (.tmp 32) 23 rfl w3.heap.size 5 i0 (.int .u8 0) 1 Try.underlying23 hi hz0 hz1 hz2 rfl _ _ _ rfl o4 _ _ _ _ _ rfl r24 (ints_one _ _) (by unfold maxLen; omega) (by omega) z4 ?_)
  intro v5 w5 o5 _ h5
  obtain ⟨A5, c5, rfl⟩ := own_slice o5
  have k5 : Below w3.heap.size w3 w5 := k4.trans h5
  have r35 := r3'.on k5
  have hr5 := hr3'.on k5
  have z5 := k5.size
  clear r24 h5 k4 z4 o4
  go_wp2_with (at_builtin; refine wpList_app _ rfl (.tmp 33) (.tmp 34) 23 rfl w3.heap.size 5 i0 (.int .u8 0) 1 Try.underlying23 hi hz0 hz1 hz2 rfl _ _ _ rfl o5 _ _ _ _ _ rfl r35 (ints_one _ _) (by unfold maxLen; omega) (by omega) z5 ?_)
  intro v6 w6 o6 _ h6
  obtain ⟨A6, c6, rfl⟩ := own_slice o6
  have k6 : Below w3.heap.size w3 w6 := k5.trans h6
  have hr6 := hr3'.on k6
  have z6 := k6.size
  clear r35 hr5 h6 k5 z5 o5
  go_wp2_with (at_builtin; refine wpList_app _ rfl (.tmp 35) (.tmp 36) 23 rfl w3.heap.size 5 i0 (.int .u8 0) 1 Try.underlying23 hi hz0 hz1 hz2 rfl _ _ _ rfl o6 _ _ _ _ _ rfl hr6 (ints_one _ _) (by unfold maxLen; omega) (by omega) z6 ?_)
  intro v7 w7 o7 _ h7
  obtain ⟨A7, c7, rfl⟩ := own_slice o7
  have k7 : Below w3.heap.size w3 w7 := k6.trans h7
  have r7 := Row.own o7
  simp only [← ints_append, List.append_assoc] at r7
  have b7 := next b3 k7
  clear hr6 h7 k6 z6 o6 o7 hr3' r3' k7
  go_wp2_with fail
  refine (New_len _ _ _ _ (xa ++ (xb ++ (xc ++ bh))) _ (by simp; omega) r7 (Nat.le_refl _) (by omega) BU.out).mono ?_
  rintro e w8 ⟨g, rfl, hg8, hrd, h8⟩
  have b8 := next b7 h8
  have hgw : w.heap.size ≤ g := Nat.le_trans b7.size hg8
  clear r7 b7 h8 hg8
  have a8 : ∃ B, B ≤ w8.heap.size ∧ Rd w8 g B (xa ++ (xb ++ (xc ++ bh))) 0 := ⟨_, Nat.le_refl _, hrd⟩
  obtain ⟨B, hB8, hrd8⟩ := a8
  clear hrd
  rw [HXA.out, List.nil_append] at hrd8
  rw [HXB.out, List.nil_append] at hrd8
  rw [HXC.out, List.nil_append] at hrd8
  have hfin := hrd8
  obtain ⟨A9, c9, hblk, _⟩ := hfin
  go_wp2_with fail
  refine (Err_made g _ _ _ hblk).mono ?_
  rintro e w' ⟨rfl, rfl⟩
  go_wp2_with fail
  refine (Left_made g _ _ _ _ _ hblk (.inl rfl)).mono ?_
  rintro e w' ⟨rfl, rfl⟩
  go_wp2_with fail
  refine (awake_any _).mono ?_
  rintro e w20 ⟨rfl, h20⟩
  go_wp2
  go_ret
  exact ⟨rfl, next b8 h20⟩

theorem Back_walk (n : Int) (s : ByteArray) (A : Option Addr) (bh : List Int) (c : Nat) (w : World) (_w0 : (Lit.int .i64 n).wf = true) (hs : s.size ≤ 140737488351232)
    (hr : Row w w.heap.size A bh.length (ints .u8 bh)) (hc : bh.length ≤ c) (hsz : c * 1 ≤ 140737488351232) (hu : ∀ x ∈ bh, (Lit.int .u8 x).wf = true) :
    Calls Try.prog 5 #[.int .i64 n, .string s, .slice A bh.length c] w fun e w' => e = .returned (.bool true) ∧ Below w.heap.size w w' := by
  have hl : bh.length ≤ 140737488351232 := by omega
  have hb : ∀ x ∈ bh, 0 ≤ x ∧ x ≤ 255 := fun x hx => by simpa [Lit.wf, IntKind.min, IntKind.max, IntKind.signed, IntKind.bits] using hu x hx
  by_cases he : 0 ≤ n ∧ n ≤ 18014398509481982
  · by_cases hf : -9007199254740991 ≤ n ∧ n ≤ 9007199254740991
    · by_cases hg : s.size ≤ 65535
      · exact Back_111 n s A bh c w hs hr hl hb he hf hg
      · exact Back_110 n s A bh c w hs hr hl hb he hf (by omega)
    · by_cases hg : s.size ≤ 65535
      · exact Back_101 n s A bh c w hs hr hl hb he (by omega) hg
      · exact Back_100 n s A bh c w hs hr hl hb he (by omega) (by omega)
  · by_cases hf : -9007199254740991 ≤ n ∧ n ≤ 9007199254740991
    · by_cases hg : s.size ≤ 65535
      · exact Back_011 n s A bh c w hs hr hl hb (by omega) hf hg
      · exact Back_010 n s A bh c w hs hr hl hb (by omega) hf (by omega)
    · by_cases hn : n < 0
      · by_cases hg : s.size ≤ 65535
        · exact Back_001n n s A bh c w hs hr hl hb (by omega) hg
        · exact Back_000n n s A bh c w hs hr hl hb (by omega) (by omega)
      · by_cases hg : s.size ≤ 65535
        · exact Back_001b n s A bh c w hs hr hl hb (by omega) hg
        · exact Back_000b n s A bh c w hs hr hl hb (by omega) (by omega)
end Go.Proofs.Ytieknhlpgoedgaa
