/- The document's small, by ten: quotient and rest of a number. The document's Text. -/
import Derived.Test.YtlpfcilgndbopaaDoorNLawKit
namespace Go.Proofs.YtlpfcilgndbopaaDoor
open Go.RowKit

theorem tenth_step {a q : List Int} {k n : Nat} {r x Q R : Int} (hn : a.length = n) (hk : k < n) (ha : Lim a) (hr : 0 ≤ r ∧ r < 10) (hx : a.getD k 0 = x) (hQ : (r * 4294967296 + x) / 10 = Q) (hR : (r * 4294967296 + x) % 10 = R)
    (h : val (a.drop (k + 1)) = val q * 10 + r.toNat) : val (a.drop k) = val (Q :: q) * 10 + R.toNat ∧ 0 ≤ Q ∧ Q ≤ 4294967295 ∧ 0 ≤ R ∧ R < 10 := by
  have hl := ha.at k
  rw [hx] at hl
  have hxk : a[k]'(by omega) = x := by rw [← hx, List.getD_eq_getElem?_getD, List.getElem?_eq_getElem (by omega)]; rfl
  rw [List.drop_eq_getElem_cons (by omega), hxk]
  have hq0 : 0 ≤ Q := by omega
  have hq1 : Q ≤ 4294967295 := by omega
  have hr0 : 0 ≤ R := by omega
  have hr1 : R < 10 := by omega
  refine ⟨?_, hq0, hq1, hr0, hr1⟩
  have e : 10 * Q + R = r * 4294967296 + x := by rw [← hQ, ← hR]; exact Int.mul_ediv_add_emod _ _
  rw [val, val, h]
  clear hQ hR h hxk hx ha hn
  generalize val q = V
  obtain ⟨Q, rfl⟩ := Int.eq_ofNat_of_zero_le hq0
  obtain ⟨R, rfl⟩ := Int.eq_ofNat_of_zero_le hr0
  obtain ⟨x, rfl⟩ := Int.eq_ofNat_of_zero_le hl.1
  obtain ⟨r, rfl⟩ := Int.eq_ofNat_of_zero_le hr.1
  rw [Int.toNat_natCast, Int.toNat_natCast, Int.toNat_natCast, Int.toNat_natCast]
  omega

set_option maxRecDepth 100000 in
set_option maxHeartbeats 1000000 in
theorem small_ten (A : Option Addr) (n c V : Nat) (w : World) (hg : Got w V n A) (hn : n ≤ 1000) (hp : 0 < n) :
    Calls Tryd.prog 62 #[.slice A n c, .int .u64 10] w fun e w' => ∃ B m d, e = .returned (.tuple #[.slice B m d, .int .u64 ((V % 10 : Nat) : Int)]) ∧ Got w' (V / 10) m B ∧ Below w.heap.size w w' := by
  obtain ⟨i0, hi, hz0, hz1, hz2⟩ := u32_parts
  have HL := Lib.hid hg.1
  have HR := Lib.hid hg.2
  have HA := Lib.hid (lim_limbs V)
  clear hg
  obtain ⟨a, ha⟩ : ∃ a, limbs V = a := ⟨_, rfl⟩
  rw [ha] at HL HR HA
  have HV : Hid (val a = V) := Lib.hid (by rw [← ha, val_limbs])
  clear ha
  obtain ⟨b0, off, rfl, hblt, hcells⟩ := HR.out.2 hp
  have HCl := Lib.hid hcells
  clear hcells
  go_enter Tryd.func62, Tryd.ntmps62
  go_wp2_with (refine wpList_make_full _ rfl (.tmp 10) (.tmp 10) 22 rfl w.heap.size 34 i0 (.int .u32 0) 1 Tryd.underlying22 hi hz0 hz1 .i64 .i64 _ _ n rfl rfl (by omega) (by omega) (by rw [hz2]; omega) (by unfold maxLen; omega) (Nat.le_refl _) ?_)
  intro w6 hown hg6
  rw [made32, List.nil_append] at hown
  have hb6 : Below w.heap.size w w6 := (Below.refl _ _).grown hg6 (Nat.le_refl _) (by simp)
  obtain ⟨g, hg⟩ : ∃ g, g = w.heap.size := ⟨_, rfl⟩
  have HG := Lib.hid hg
  rw [← hg] at hown hb6 ⊢
  clear hg hg6
  go_wp2_with fail
  go_loopw [7, 8] (fun s5 s6 wr => ∃ (k : Nat) (z r : Int) (q : List Int), k ≤ n ∧ z = (k : Int) - 1 ∧ s6 = .int .i64 z ∧ s5 = .int .u64 r ∧ 0 ≤ r ∧ r < 10 ∧ Hid (q.length = n - k ∧ Lim q ∧ val (a.drop k) = val q * 10 + r.toNat) ∧
    wr.ownsRow g 34 1 (.slice (some ⟨g, 0, none⟩) n n) n (ints .u32 ((List.replicate n (0 : Int)).take k ++ q)) ∧ Below g w wr) (fun _ i _ => ((intOf i) + 1).toNat)
  case atStart =>
    refine ⟨n, (n : Int) - 1, 0, [], Nat.le_refl _, rfl, rfl, rfl, Int.le_refl _, by decide, Lib.hid ⟨by simp, Lim.nil, ?_⟩, ?_, hb6⟩
    · rw [List.drop_eq_nil_of_le (by have := HL.out; omega)]; rfl
    · rw [List.take_of_length_le (by simp), List.append_nil]; exact hown
  case round =>
    obtain ⟨k, z, r, q, hk, hz, rfl, rfl, hr0, hr1, HQ, ol, hb⟩ := hrel
    rename World => wr
    rcases k with _ | j
    · have hz1' : z < 0 := by omega
      obtain ⟨rn, rfl⟩ := Int.eq_ofNat_of_zero_le hr0
      have hq := HQ.out
      rw [List.drop_zero, HV.out, Int.toNat_natCast] at hq
      rw [List.take_zero, List.nil_append] at ol
      have hdiv : val q = V / 10 ∧ rn = V % 10 := by omega
      have hT := newK _ (rtrim_any (some ⟨g, 0, none⟩) n n _ q wr (Row.own ol) hq.2.1 (by omega) (Nat.le_refl _) (by omega)) rfl
      rw [hdiv.1] at hT
      have HTr := Lib.hid hT
      have HB := Lib.hid hb
      have HRn := Lib.hid hdiv.2
      clear hq hdiv hT ol hb HQ
      go_wp2_with fail
      with_reducible refine HTr.out.mono ?_
      rintro e w5 ⟨B, d, rfl, rB, b5⟩
      have hB2 : Below w.heap.size w w5 := next (HG.out ▸ HB.out) b5
      go_wp2
      go_ret2
      rw [← HRn.out]
      exact ⟨B, _, d, rfl, ⟨rfl, rB⟩, hB2⟩
    · obtain rfl : z = (j : Int) := by omega
      have hj : j < n := hk
      have hfz := ol.frozenAt j
      obtain ⟨x, hx⟩ : ∃ x, a.getD j 0 = x := ⟨_, rfl⟩
      have hcella : wr.cell? ⟨b0, off + j, none⟩ = some (.int .u32 x) := (hb.cell (p := ⟨b0, off + j, none⟩) (by rw [HG.out]; exact hblt)).trans ((HCl.out j hj).trans (by rw [ints_get _ _ _ (by have := HL.out; omega), hx]))
      have hcello := (ol.cellAt j (by omega)).trans (take_at (a := List.replicate n 0) List.length_replicate hj)
      have hxl := HA.out.at j
      rw [hx] at hxl
      obtain ⟨Q, hQ⟩ : ∃ Q, (r * 4294967296 + x) / 10 = Q := ⟨_, rfl⟩
      obtain ⟨R, hR⟩ : ∃ R, (r * 4294967296 + x) % 10 = R := ⟨_, rfl⟩
      have HS := Lib.hid (tenth_step HL.out hj HA.out ⟨hr0, hr1⟩ hx hQ hR HQ.out.2.2)
      have hX0 : 0 ≤ r * 4294967296 + x := by omega
      have hX1 : r * 4294967296 + x ≤ 18446744073709551615 := by omega
      have hQ2 : (r * 4294967296 + x).tdiv 10 = Q := by rw [Int.tdiv_eq_ediv_of_nonneg hX0, hQ]
      have hR2 : (r * 4294967296 + x).tmod 10 = R := by rw [Int.tmod_eq_emod_of_nonneg hX0, hR]
      have hq0 := HS.out.2.1
      have hq1 := HS.out.2.2.1
      have hR0 := HS.out.2.2.2.1
      have hR1 := HS.out.2.2.2.2
      have hj0 : (0 : Int) ≤ (j : Int) := by omega
      have hj1 : (j : Int) < (n : Int) := by omega
      obtain ⟨hx0, hx1⟩ := hxl
      have HO := Lib.hid ol
      have HB := Lib.hid hb
      have hst := Lib.hid (ol.stored j (.int .u32 Q))
      clear ol hb hz hk hx
      go_wp2_with fail
      have hs := hst.out
      rw [set_take Q List.length_replicate hj] at hs
      refine ⟨⟨j, (j : Int) - 1, R, Q :: q, by omega, rfl, rfl, rfl, hR0, hR1, Lib.hid ⟨by have := HQ.out.1; simp; omega, (Lim.one hq0 hq1).app HQ.out.2.1, HS.out.1⟩, hs.1, ?_⟩, ?_⟩
      · exact HB.out.grown hs.2 (by rw [HG.out]; exact HG.out ▸ HB.out.size) (fun k hk => by injection hk with hk; omega)
      · simp [intOf]

open Go.RowKit

/-- The digits of a number; of nought: none. -/
def pre (v : Nat) : List UInt8 := if v = 0 then [] else Lib.decDigits v
theorem pre_step {v : Nat} (h : v ≠ 0) : pre v = pre (v / 10) ++ [UInt8.ofNat (48 + v % 10)] := by
  rw [pre, if_neg h, Lib.decDigits]
  by_cases h1 : v < 10
  · rw [dif_pos h1, pre, if_pos (by omega), Nat.mod_eq_of_lt h1]; rfl
  · rw [dif_neg h1, pre, if_neg (by omega)]
theorem dec_len : ∀ (k v : Nat), v < 2 ^ k → (Lib.decDigits v).length ≤ k + 1
  | 0, v, h => by
    obtain rfl : v = 0 := by simpa using h
    rw [Lib.decDigits, dif_pos (by decide)]; simp
  | k + 1, v, h => by
    rw [Lib.decDigits]
    split
    · simp
    · rw [List.length_append]
      have := dec_len k (v / 10) (by rw [Nat.pow_succ] at h; omega)
      simp; omega
def rTextL (a : List Int) : List UInt8 := if chk a = 0 then Lib.decDigits (val a) else []

theorem le_trans_limbs {w : World} {v n : Nat} {A : Option Addr} (h : Got w v n A) (hn : n ≤ 64) : (limbs (v / 10)).length ≤ 64 := by
  refine limbs_len ?_
  have h1 := val_lt (lim_limbs v)
  rw [val_limbs, h.1] at h1
  exact Nat.lt_of_le_of_lt (Nat.div_le_self _ _) (Nat.lt_of_lt_of_le h1 (Nat.pow_le_pow_right (by decide) hn))
set_option maxRecDepth 100000 in
set_option maxHeartbeats 1000000 in
theorem rText_some (A : Option Addr) (n c : Nat) (V : Nat) (w : World) (hg : Got w V n A) (hn : n ≤ 64) (hp : 0 < n) :
    Calls Tryd.prog 35 #[.slice A n c] w fun e w' => e = .returned (.tuple #[.string ⟨(Lib.decDigits V).toArray⟩, .int .i64 0]) ∧ Below w.heap.size w w' := by
  have hV : V ≠ 0 := by rintro rfl; have := hg.1; rw [limbs_zero] at this; simp at this; omega
  have HP : Hid (pre V = Lib.decDigits V) := Lib.hid (by rw [pre, if_neg hV])
  have hC := rCheck_any A n c _ _ w hg.2
  rw [chk_limbs (by rw [hg.1]; exact hn)] at hC
  have HC := Lib.hid hC
  have HGot := Lib.hid hg
  have hpz : ((n : Int) == 0) = false := by simp; omega
  clear hC hg hV
  go_enter Tryd.func35, Tryd.ntmps35
  go_wp2_with fail
  with_reducible refine HC.out.mono ?_
  rintro e w' ⟨rfl, rfl⟩
  go_wp2_with fail
  have HK : Hid ((Lib.decDigits V).length ≤ 3000) := Lib.hid (by
    have h1 := val_lt (lim_limbs V)
    rw [val_limbs, HGot.out.1, pow32] at h1
    have := dec_len _ _ h1
    omega)
  go_loopg [0, 5] V (fun v s0 s5 wx => ∃ (n : Nat) (A : Option Addr) (c : Nat) (l : List UInt8) (ob : ByteArray), s0 = .slice A n c ∧ s5 = .string ob ∧ n ≤ 64 ∧ Hid ((⟨l.toArray⟩ : ByteArray) = ob) ∧ Hid (pre v ++ l = Lib.decDigits V) ∧ Got wx v n A ∧ Below w.heap.size w wx)
  case atStart => exact ⟨n, A, c, [], _, rfl, rfl, hn, Lib.hid rfl, Lib.hid (by rw [List.append_nil]; exact HP.out), HGot.out, Below.refl _ _⟩
  case round =>
    obtain ⟨m, B, d, l, ob, rfl, rfl, hm, HO, HL, hgot, hb⟩ := hrel
    rename World => ws
    by_cases h0 : 0 < m
    · have h0' : (0 : Int) < (m : Int) := by omega
      have hgk : gk ≠ 0 := by rintro rfl; have := hgot.1; rw [limbs_zero] at this; simp at this; omega
      have HS := Lib.hid (small_ten B m d gk ws hgot (by omega) h0)
      obtain ⟨dn, hdn⟩ : ∃ x, gk % 10 = x := ⟨_, rfl⟩
      have hd10 : dn < 10 := by omega
      obtain ⟨b, hbb⟩ : ∃ b, UInt8.ofNat (48 + dn) = b := ⟨_, rfl⟩
      have hbn : ((b.toNat : Nat) : Int) = 48 + (dn : Int) := by rw [← hbb]; simp; omega
      obtain ⟨bb, hb1⟩ : ∃ bb : ByteArray, (⟨[b].toArray⟩ : ByteArray) = bb := ⟨_, rfl⟩
      obtain ⟨nb, hnb⟩ : ∃ nb : ByteArray, (⟨(b :: l).toArray⟩ : ByteArray) = nb := ⟨_, rfl⟩
      have hcv : ∀ W : World, (convert 44 9 (.slice (some ⟨W.heap.size, 0, none⟩) 1 1)).run Tryd.prog (W.alloc (.cells #[.int .u8 (48 + (dn : Int))] 5)) = .ok (.string bb) (W.alloc (.cells #[.int .u8 (48 + (dn : Int))] 5)) := fun W => by
        have := run_convert_bytes_back (P := Tryd.prog) (W.alloc (.cells #[.int .u8 (48 + (dn : Int))] 5)) 44 9 5 ⟨W.heap.size, 0, none⟩ 1 [b] Tryd.underlying44 Tryd.underlying5 Tryd.underlying9 (fun j hj => by
          obtain rfl : j = 0 := by simpa using hj
          show (W.alloc (.cells #[.int .u8 (48 + (dn : Int))] 5)).cell? ⟨W.heap.size, 0 + 0, none⟩ = some (.int .u8 ((b.toNat : Nat) : Int))
          rw [hbn, World.cell?_alloc_at _ _ _ _ (by simp)]
          rfl)
        rw [hb1] at this
        exact this
      have hlb : l.length ≤ 3000 := by
        have h1 := congrArg List.length HL.out
        rw [List.length_append] at h1
        have := HK.out
        omega
      have hadd : ∀ W : World, (Op.stringOp .add bb ob).run Tryd.prog W = .ok (.string nb) W := fun W => by
        rw [run_string_add_sum W bb ob (by
          have h1 : bb.size = 1 := by rw [← hb1]; rfl
          have h2 : ob.size = l.length := by rw [← HO.out]; rfl
          omega), ← hb1, ← HO.out, bytes_app, ← hnb]
        rfl
      have HN := Lib.hid hnb
      have HL2 : Hid (pre (gk / 10) ++ b :: l = Lib.decDigits V) := Lib.hid (by rw [← HL.out, pre_step hgk, hdn, hbb, List.append_assoc]; rfl)
      have hmeas : gk / 10 < gk := by omega
      have hml := le_trans_limbs hgot hm
      rw [hdn] at HS
      have HB := Lib.hid hb
      clear hgot hb hbn hb1 hnb hdn hbb HO HL
      go_wp2_with fail
      with_reducible refine HS.out.mono ?_
      rintro e w5 ⟨B2, m2, d2, rfl, g2, b2⟩
      go_wp2_with fail
      go_roundg (gk / 10)
      case rel => exact ⟨m2, B2, d2, b :: l, nb, rfl, rfl, g2.1 ▸ hml, HN, HL2, g2.on ((Below.refl _ w5).alloc (Nat.le_refl _) _), (next HB.out b2).alloc (next HB.out b2).size _⟩
      case measure => exact hmeas
    · have hgk : gk = 0 := by
        have h1 := val_lt (lim_limbs gk)
        rw [val_limbs, hgot.1, show m = 0 by omega] at h1
        simpa using h1
      subst hgk
      have hl : l = Lib.decDigits V := by have := HL.out; rwa [pre, if_pos rfl, List.nil_append] at this
      subst hl
      have HB := Lib.hid hb
      clear hgot hb
      go_wp2_with fail
      go_ret2
      rw [HO.out]
      exact ⟨rfl, HB.out⟩

theorem rText_any (A : Option Addr) (n c : Nat) (a : List Int) (w : World) (hr : Row w w.heap.size A n (ints .u32 a)) (ha : Lim a) :
    Calls Tryd.prog 35 #[.slice A n c] w fun e w' => e = .returned (.tuple #[.string ⟨(rTextL a).toArray⟩, .int .i64 (chk a)]) ∧ Below w.heap.size w w' := by
  have hl := row_len hr
  by_cases hx : chk a = 0
  · by_cases hp : 0 < n
    · rw [rTextL, if_pos hx, hx]
      have hE := limbs_of hx ha
      have hlen := chk_len hx
      exact rText_some A n c (val a) w ⟨by rw [hE]; exact hl, by rw [hE]; exact hr⟩ (by omega) hp
    · have hT : rTextL a = [48] := by
        rw [rTextL, if_pos hx, List.eq_nil_of_length_eq_zero (show a.length = 0 by omega)]
        rw [Lib.decDigits, dif_pos (by decide)]
        rfl
      have HC := rCheck_any A n c _ a w hr
      rw [hx] at HC
      replace HC := Lib.hid HC
      rw [hT, hx]
      have hn0 : ((n : Int) == 0) = true := by simp; omega
      clear hr ha hT
      go_enter Tryd.func35, Tryd.ntmps35
      go_wp2_with fail
      with_reducible refine HC.out.mono ?_
      rintro e w' ⟨rfl, rfl⟩
      go_wp2
      go_ret2
      exact ⟨rfl, Below.refl _ _⟩
  · have hT : rTextL a = [] := by rw [rTextL, if_neg hx]
    have HC := Lib.hid (rCheck_any A n c _ a w hr)
    rw [hT]
    have hxx : ¬ chk a = 0 := hx
    obtain ⟨x, hxe⟩ : ∃ x, chk a = x := ⟨_, rfl⟩
    rw [hxe] at HC hxx ⊢
    have hb : (x != 0) = true := by simp [bne, hxx]
    clear hr ha hT hxe hx
    go_enter Tryd.func35, Tryd.ntmps35
    go_wp2_with fail
    with_reducible refine HC.out.mono ?_
    rintro e w' ⟨rfl, rfl⟩
    go_wp2
    go_ret2
    exact ⟨rfl, Below.refl _ _⟩

/-- The last k digits. -/
def zp : Nat → Nat → List UInt8
  | 0, _ => []
  | k + 1, b => zp k (b / 10) ++ [UInt8.ofNat (48 + b % 10)]
theorem dec_zp : ∀ (k a b : Nat), a ≠ 0 → b < 10 ^ k → Lib.decDigits (a * 10 ^ k + b) = Lib.decDigits a ++ zp k b
  | 0, a, b, _, hb => by
    obtain rfl : b = 0 := by simpa using hb
    simp [zp]
  | k + 1, a, b, ha, hb => by
    have hp : 0 < 10 ^ k := Nat.pow_pos (by decide)
    have h1 : 10 ^ k ≤ a * 10 ^ k := Nat.le_mul_of_pos_left _ (Nat.pos_of_ne_zero ha)
    have e : a * 10 ^ (k + 1) = 10 * (a * 10 ^ k) := by rw [Nat.pow_succ, ← Nat.mul_assoc, Nat.mul_comm]
    rw [Nat.pow_succ] at hb
    have ih := dec_zp k a (b / 10) ha (by omega)
    rw [Lib.decDigits, dif_neg (by rw [e]; omega), e, show (10 * (a * 10 ^ k) + b) / 10 = a * 10 ^ k + b / 10 by omega, show (10 * (a * 10 ^ k) + b) % 10 = b % 10 by omega, ih, zp, List.append_assoc]
theorem zp_zero : ∀ k, zp k 0 = List.replicate k 48
  | 0 => rfl
  | k + 1 => by rw [zp, Nat.zero_div, zp_zero k, List.replicate_succ']; rfl
theorem zp_pad : ∀ (k b : Nat), b < 10 ^ (k + 1) → zp (k + 1) b = List.replicate (k + 1 - (Lib.decDigits b).length) 48 ++ Lib.decDigits b
  | 0, b, h => by
    rw [Lib.decDigits, dif_pos (by simpa using h), zp, zp, Nat.mod_eq_of_lt (by simpa using h)]
    rfl
  | k + 1, b, h => by
    rw [zp]
    by_cases h1 : b < 10
    · rw [Nat.div_eq_of_lt h1, zp_zero, Nat.mod_eq_of_lt h1, Lib.decDigits, dif_pos h1]
      rfl
    · have ih := zp_pad k (b / 10) (by rw [Nat.pow_succ] at h; omega)
      have e : Lib.decDigits b = Lib.decDigits (b / 10) ++ [UInt8.ofNat (48 + b % 10)] := by rw [Lib.decDigits, dif_neg h1]
      rw [ih, e, List.length_append, List.append_assoc]
      congr 2
      simp
theorem rep_zero : ∀ n, Lib.repeatL [48] n = List.replicate n 48
  | 0 => rfl
  | n + 1 => by rw [Lib.repeatL, rep_zero n]; rfl
/-- The groups of nine digits, from the top, are the digits. -/
theorem dec_group (v : Nat) (hv : v / 1000000000 ≠ 0) : Lib.decDigits v = Lib.decDigits (v / 1000000000) ++ padL (Lib.decDigits (v % 1000000000)) := by
  have h1 := dec_zp 9 (v / 1000000000) (v % 1000000000) hv (Nat.mod_lt _ (by decide))
  rw [show v / 1000000000 * 10 ^ 9 + v % 1000000000 = v by omega, zp_pad 8 _ (Nat.mod_lt _ (by decide))] at h1
  rw [h1, padL, rep_zero]
theorem textOf_dec (v : Nat) : textOf v = Lib.decDigits v := by
  induction v using Nat.strongRecOn with
  | _ v ih =>
    by_cases h : v = 0
    · subst h; rw [textOf, if_pos rfl, Lib.decDigits, dif_pos (by decide)]; rfl
    · rw [textOf, if_neg h, groups_pos h]
      by_cases h1 : v / 1000000000 = 0
      · rw [if_pos h1, h1, groups_zero, Nat.mod_eq_of_lt (by omega)]; simp
      · have := ih (v / 1000000000) (by omega)
        rw [textOf, if_neg h1] at this
        rw [if_neg h1, List.reverse_cons, List.flatten_append, this, dec_group v h1]
        simp
end Go.Proofs.YtlpfcilgndbopaaDoor
