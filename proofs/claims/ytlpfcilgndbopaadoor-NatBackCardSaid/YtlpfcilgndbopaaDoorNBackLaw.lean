/- The law NatBack, walked. -/
import Derived.Test.YtlpfcilgndbopaaDoorNRRead
import Derived.Test.YtlpfcilgndbopaaDoorNOrderLaw
import Derived.Deep.RegionHeld3
namespace Go.Proofs.YtlpfcilgndbopaaDoor
open Go.RowKit

theorem wf_u8 {l : List Int} (h : ∀ x ∈ l, (Lit.int .u8 x).wf = true) (k : Nat) : 0 ≤ l.getD k 0 ∧ l.getD k 0 ≤ 255 := by
  by_cases hk : k < l.length
  · have := h (l.getD k 0) (by rw [List.getD_eq_getElem?_getD, List.getElem?_eq_getElem hk]; exact List.getElem_mem hk)
    simpa [Lit.wf, IntKind.min, IntKind.max, IntKind.signed, IntKind.bits] using this
  · rw [List.getD_eq_getElem?_getD, List.getElem?_eq_none (by omega)]; simp
theorem near16 {X : Nat} (h : (limbs X).length ≤ 16) : (Lib.decDigits X).length ≤ 513 := by
  have h1 := val_lt (lim_limbs X)
  rw [val_limbs] at h1
  refine dec_len 512 X (Nat.lt_of_lt_of_le h1 (Nat.le_trans (Nat.pow_le_pow_right (by decide) h) ?_))
  rw [pow32]; decide +kernel
theorem str_zero {s : ByteArray} (h : s.size = 0) : s.toList = [] := by
  unfold ByteArray.toList
  rw [ByteArray.toList.loop, if_neg (by omega)]; rfl

set_option maxRecDepth 100000 in
set_option maxHeartbeats 4000000 in
theorem NatBack_walk (A0 : Option Addr) (l0 : List Int) (c0 : Nat) (A1 : Option Addr) (l1 : List Int) (c1 : Nat) (w : World)
    (hr0 : Row w w.heap.size A0 l0.length (ints .u32 l0)) (hc0 : l0.length ≤ c0) (hs0 : c0 * 4 ≤ 140737488351232) (hu0 : ∀ x ∈ l0, (Lit.int .u32 x).wf = true)
    (hr1 : Row w w.heap.size A1 l1.length (ints .u8 l1)) (hc1 : l1.length ≤ c1) (hs1 : c1 * 1 ≤ 140737488351232) (hu1 : ∀ x ∈ l1, (Lit.int .u8 x).wf = true)
    (ht : Tab w) :
    Calls Tryd.prog 9 #[.slice A0 l0.length c0, .slice A1 l1.length c1] w fun e w' => e = .returned (.bool true) ∧ Below w.heap.size w w' := by
  have HWk := Lib.hid (works_any w ht)
  have HT := Lib.hid ht
  have H0 := Lib.hid (fun (w' : World) (b : Below w.heap.size w w') => nearG (hr0.on b) (lim_of_wf hu0) hc0 hs0)
  have L0 := near_len (lim_of_wf hu0)
  obtain ⟨X, hX⟩ : ∃ V, nearV l0 = V := ⟨_, rfl⟩
  rw [hX] at H0 L0
  obtain ⟨n0, hn0⟩ : ∃ n, l0.length = n := ⟨_, rfl⟩
  rw [hn0] at H0 ⊢
  clear ht hX hn0 hr0 hc0 hs0 hu0
  obtain ⟨n1, hn1⟩ : ∃ n, l1.length = n := ⟨_, rfl⟩
  rw [hn1] at hr1 hc1 ⊢
  have HR1 := Lib.hid hr1
  have HL1 := Lib.hid hn1
  have HU1 := Lib.hid (wf_u8 hu1)
  have hnn1 : (n1 : Int) ≤ 140737488351232 := by omega
  clear hr1 hu1 hn1 hc1 hs1
  obtain ⟨sb, hsb⟩ : ∃ sb : ByteArray, (⟨(Lib.decDigits X).toArray⟩ : ByteArray) = sb := ⟨_, rfl⟩
  have HSB := Lib.hid hsb
  have hsz : 0 < sb.size := by rw [← hsb]; show 0 < (Lib.decDigits X).toArray.size; have := (dec_facts X).2.2; simpa using this
  obtain ⟨hse, hse2⟩ := str_ne hsz
  have HRd := Lib.hid (fun w' => readG (w := w') (Lib.decDigits X) (isNum_dec X) (by have := near16 L0; omega) sb (by rw [← hsb]))
  obtain ⟨z0, hz0⟩ : ∃ z, (Lib.decDigits X).getD 0 0 = z := ⟨_, rfl⟩
  have hs0 : sb.data[0]? = some z0 := by
    have := str_at (l := Lib.decDigits X) (s := sb) (by rw [← hsb]) 0 (dec_facts X).2.2
    rwa [hz0] at this
  have HL := Lib.hid L0
  have d : (sb = ⟨#[48]⟩) ∨ (∀ h : 0 < sb.size, (((sb[0]'h).toNat : Int) == 48) = false) := by
    by_cases h0 : X = 0
    · left; rw [← hsb, h0, Lib.decDigits, dif_pos (by decide)]; rfl
    · right
      refine fun h => beq_eq_false_iff_ne.2 fun h' => (dec_facts X).2.1 h0 (UInt8.toNat.inj ?_)
      have h3 : sb[0]'h = z0 := by rw [Array.getElem?_eq_getElem h] at hs0; injection hs0
      rw [h3] at h'
      rw [hz0]; simp; omega
  clear hsb hz0 L0
  rcases d with rfl | d
  all_goals
    go_enter Tryd.func9, Tryd.ntmps9
    go_wp2_with fail
    with_reducible refine HWk.out.mono ?_
    rintro e w1 ⟨rfl, b1⟩
    go_wp2_with fail
    with_reducible refine (H0.out w1 b1).mono ?_
    rintro e w2 ⟨A2, k2, c2, rfl, hk2, g2, b2⟩
    replace b2 := next b1 b2
    have TX := textG (c := c2) g2 (by omega) (HT.out.below b2)
    rw [HSB.out] at TX
    go_wp2_with fail
    with_reducible refine TX.mono ?_
    rintro e w3 ⟨rfl, b3⟩
    replace g2 := g2.on b3
    replace b3 := next b2 b3
    have RX := HRd.out w3
    rw [decV_dec] at RX
    clear TX b1 b2
    go_wp2_with fail
    with_reducible refine RX.mono ?_
    rintro e w4 ⟨A4, k4, c4, rfl, g4, b4⟩
    replace g2 := g2.on b4
    replace b4 := next b3 b4
    clear RX b3
    have E1 := eqG (c := c2) (c' := c4) g2 g4 (by omega)
    rw [decide_eq_true rfl] at E1
    go_wp2_with fail
    with_reducible refine E1.mono ?_
    rintro e w5 ⟨rfl, b5⟩
    replace b5 := next b4 b5
    clear E1 b4 g2 g4
    go_wp2_with fail
    clear HRd
    go_loopw [10, 11] (fun s10 s11 wx => ∃ (k : Nat) (l : List UInt8) (ob : ByteArray), k ≤ n1 ∧ k ≤ 300 ∧ s11 = .int .i64 k ∧ s10 = .string ob ∧ Hid ((⟨l.toArray⟩ : ByteArray) = ob) ∧ Hid (l.length = k ∧ l.all digit = true) ∧ Below w.heap.size w wx) (fun _ i _ => n1 - (intOf i).toNat)
    case atStart => exact ⟨0, [], _, Nat.zero_le _, Nat.zero_le _, rfl, rfl, Lib.hid rfl, Lib.hid ⟨rfl, rfl⟩, b5⟩
    case round =>
      obtain ⟨k, l, ob, hk, hk3, rfl, rfl, HO, HLl, hb⟩ := hrel
      rename World => ws
      by_cases c : k < n1 ∧ k < 300
      · obtain ⟨hkn, hk300⟩ := c
        obtain ⟨q, off, rfl, hq, hc⟩ := HR1.out.2 (by omega)
        have hcell := (hb.cell (p := ⟨q, off + k, none⟩) hq).trans ((hc k hkn).trans (ints_get .u8 l1 k (by have := HL1.out; omega)))
        obtain ⟨x, hx⟩ : ∃ x, l1.getD k 0 = x := ⟨_, rfl⟩
        have hxx := HU1.out k
        rw [hx] at hcell hxx
        obtain ⟨dn, hdn⟩ : ∃ d : Nat, (x % 10).toNat = d := ⟨_, rfl⟩
        have hd10 : dn < 10 := by omega
        have hQ2 : x % 10 = (dn : Int) := by omega
        have hR2 : x.tmod 10 = (dn : Int) := by rw [Int.tmod_eq_emod_of_nonneg hxx.1, hQ2]
        obtain ⟨b, hbb⟩ : ∃ b, UInt8.ofNat (48 + dn) = b := ⟨_, rfl⟩
        have hbn : ((b.toNat : Nat) : Int) = 48 + (dn : Int) := by rw [← hbb, ofNat_digit hd10]; omega
        have HDg : Hid (digit b = true) := Lib.hid (by rw [← hbb]; exact digit_of hd10)
        obtain ⟨bb, hb1⟩ : ∃ bb : ByteArray, (⟨[b].toArray⟩ : ByteArray) = bb := ⟨_, rfl⟩
        obtain ⟨nb, hnb⟩ : ∃ nb : ByteArray, (⟨(l ++ [b]).toArray⟩ : ByteArray) = nb := ⟨_, rfl⟩
        have hcv : ∀ W : World, (convert 44 9 (.slice (some ⟨W.heap.size, 0, none⟩) 1 1)).run Tryd.prog (W.alloc (.cells #[.int .u8 (48 + (dn : Int))] 5)) = .ok (.string bb) (W.alloc (.cells #[.int .u8 (48 + (dn : Int))] 5)) := fun W => by
          have := run_convert_bytes_back (P := Tryd.prog) (W.alloc (.cells #[.int .u8 (48 + (dn : Int))] 5)) 44 9 5 ⟨W.heap.size, 0, none⟩ 1 [b] Tryd.underlying44 Tryd.underlying5 Tryd.underlying9 (fun j hj => by
            obtain rfl : j = 0 := by simpa using hj
            show (W.alloc (.cells #[.int .u8 (48 + (dn : Int))] 5)).cell? ⟨W.heap.size, 0 + 0, none⟩ = some (.int .u8 ((b.toNat : Nat) : Int))
            rw [hbn, World.cell?_alloc_at _ _ _ _ (by simp)]
            rfl)
          rw [hb1] at this
          exact this
        have hadd : ∀ W : World, (Op.stringOp .add ob bb).run Tryd.prog W = .ok (.string nb) W := fun W => by
          rw [run_string_add_sum W ob bb (by
            have h1 : bb.size = 1 := by rw [← hb1]; rfl
            have h2 : ob.size = l.length := by rw [← HO.out]; rfl
            have h3 := HLl.out.1
            omega), ← hb1, ← HO.out, bytes_app, ← hnb]
        have HN := Lib.hid hnb
        have HL2 : Hid ((l ++ [b]).length = k + 1 ∧ (l ++ [b]).all digit = true) := Lib.hid ⟨by rw [List.length_append, HLl.out.1]; rfl, by rw [List.all_append, HLl.out.2, List.all_cons, HDg.out]; rfl⟩
        have hlt1 : (k : Int) < (n1 : Int) := by omega
        have hlt2 : (k : Int) < 300 := by omega
        have hx0 := hxx.1
        have hx1 := hxx.2
        have HB := Lib.hid hb
        have hk1 : k + 1 ≤ n1 := hkn
        have hk2 : k + 1 ≤ 300 := hk300
        clear hb hc hx hxx hdn hbb hbn hb1 hnb hq hkn hk300 hk hk3
        go_wp2_with fail
        refine ⟨⟨k + 1, l ++ [b], nb, hk1, hk2, by go_num, rfl, HN, HL2, ?_⟩, ?_⟩
        · first | exact HB.out.alloc HB.out.size _ | exact (HB.out.drew).alloc HB.out.size _ | exact (HB.out.alloc HB.out.size _).drew
        · simp [intOf]
          omega
      · have HB := Lib.hid hb
        have cc : ((k : Int) < (n1 : Int) ∧ ¬ (k : Int) < 300) ∨ ¬ (k : Int) < (n1 : Int) := by omega
        obtain ⟨T, hT⟩ : ∃ T, Lib.trimLeftB l 48 = T := ⟨_, rfl⟩
        obtain ⟨tb, htb⟩ : ∃ tb : ByteArray, (⟨T.toArray⟩ : ByteArray) = tb := ⟨_, rfl⟩
        have HF := trim_facts l HLl.out.2
        rw [hT, HLl.out.1] at HF
        have CT := Tryd.strings_TrimLeft_one ob 48 (by decide) ws
        rw [← HO.out] at CT
        rw [show (⟨l.toArray⟩ : ByteArray).data.toList = l from rfl, hT, htb, HO.out] at CT
        replace CT := Lib.hid CT
        have htz : tb.size = T.length := by rw [← htb]; rfl
        have HTB := Lib.hid htb
        clear hb hT c hk
        by_cases hz : T.length = 0
        · have h1 := str_zero (s := tb) (by omega)
          have h2 : tb.toList.isEmpty = true := by rw [h1]; rfl
          clear htb HF htz hz
          rcases cc with ⟨cc1, cc2⟩ | cc1
          all_goals
            go_wp2_with fail
            with_reducible refine CT.out.mono ?_
            rintro e w6 ⟨rfl, rfl⟩
            go_wp2
            go_ret
            exact ⟨rfl, HB.out⟩
        · obtain ⟨h1, h2⟩ := str_ne (s := tb) (by omega)
          obtain ⟨i1, i2⟩ := isNum_more HF.1 (HF.2.2 (by omega)) (by omega)
          have hT300 : T.length ≤ 300 := by omega
          have hL32 := limbs_300 i1 hT300
          have hdd := dec_decV i1 (HF.2.2 (by omega)) (by omega)
          have hdz := decV_zero T
          obtain ⟨V, hV⟩ : ∃ V, decV T = V := ⟨_, rfl⟩
          rw [hV] at hL32 hdd hdz
          obtain ⟨tz, htz2⟩ : ∃ tz : ByteArray, (⟨(T ++ [48]).toArray⟩ : ByteArray) = tz := ⟨_, rfl⟩
          have hadd : ∀ W : World, (Op.stringOp .add tb ⟨#[48]⟩).run Tryd.prog W = .ok (.string tz) W := fun W => by
            rw [run_string_add_sum W tb ⟨#[48]⟩ (by
              have h1 : (⟨#[48]⟩ : ByteArray).size = 1 := rfl
              omega), ← htb, ← htz2]
            exact congrArg (fun x => Result.ok (Value.string x) W) (bytes_app T [48])
          have R1 := Lib.hid (fun w' => hV ▸ readG (w := w') T i1 (by omega) tb (by rw [← htb]))
          have R2 := Lib.hid (fun w' => hdz ▸ readG (w := w') (T ++ [48]) i2 (by simp; omega) tz (by rw [← htz2]))
          have O10 := Lib.hid (fun w' => (show Calls Tryd.prog 22 #[.int .u64 10] w' (fun e w'' => ∃ A m c, e = .returned (.slice A m c) ∧ Got w'' 10 m A ∧ Below w'.heap.size w' w'') from ofG 10 w' (by decide)))
          have HD := Lib.hid hdd
          have HL32 := Lib.hid hL32
          clear htb HF htz hz hT300 hL32 hdd hdz htz2 i1 i2 hV
          rcases cc with ⟨cc1, cc2⟩ | cc1
          all_goals
            go_wp2_with fail
            with_reducible refine CT.out.mono ?_
            rintro e w6 ⟨rfl, rfl⟩
            go_wp2_with fail
            with_reducible refine (R1.out _).mono ?_
            rintro e w7 ⟨A7, k7, c7, rfl, g7, b7⟩
            replace b7 := next HB.out b7
            have hk7 : k7 ≤ 32 := g7.1 ▸ HL32.out
            have TX := textG (c := c7) g7 (by omega) (HT.out.below b7)
            rw [HD.out, HTB.out] at TX
            go_wp2_with fail
            with_reducible refine TX.mono ?_
            rintro e w8 ⟨rfl, b8⟩
            replace g7 := g7.on b8
            replace b8 := next b7 b8
            clear TX b7
            go_wp2_with fail
            with_reducible refine (R2.out _).mono ?_
            rintro e w9 ⟨A9, k9, c9, rfl, g9, b9⟩
            replace g7 := g7.on b9
            replace b9 := next b8 b9
            go_wp2_with fail
            with_reducible refine (O10.out _).mono ?_
            rintro e w10 ⟨A10, k10, c10, rfl, g10, b10⟩
            replace g7 := g7.on b10
            replace g9 := g9.on b10
            replace b10 := next b9 b10
            have hk10 : k10 ≤ 2 := g10.1 ▸ of_small (by decide)
            clear b8 b9
            go_wp2_with fail
            with_reducible refine (mulG g7 g10 (by omega) (by omega)).mono ?_
            rintro e w11 ⟨A11, k11, c11, rfl, g11, b11⟩
            replace g9 := g9.on b11
            replace b11 := next b10 b11
            have hk9 : k9 ≤ 1000 := by
              have h1 := mul_len (X := V) (Y := 10) HL32.out (of_small (by decide))
              have h2 := g9.1
              omega
            have E1 := eqG (c := c9) (c' := c11) g9 g11 hk9
            rw [decide_eq_true rfl] at E1
            clear g7 g10 g9 g11 b10
            go_wp2_with fail
            with_reducible refine E1.mono ?_
            rintro e w12 ⟨rfl, b12⟩
            go_wp2
            go_ret
            exact ⟨rfl, next b11 b12⟩
end Go.Proofs.YtlpfcilgndbopaaDoor
