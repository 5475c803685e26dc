/- The writer; block.Pack. -/
import Derived.Test.YtpeepolmbcakbaaDoorBCheck
import Derived.Test.YtpeepolmbcakbaaDoorShelf
import Derived.Deep.RegionHeld3
namespace Go.Proofs.YtpeepolmbcakbaaDoor
open Go.RowKit

/-- The writer's block holds these bytes. -/
def Buf (w : World) (B b : Nat) (l : List Int) : Prop := LibA.IsBuffer 51 (fun _ => none) 5 B b 0 (ints .u8 l) w
theorem Buf.made (w : World) : Buf (w.alloc (.cells #[.slice none 0 0, .int .i64 0, .int .i8 0] 51)) w.heap.size w.heap.size [] :=
  LibA.zero_isBuffer (Nat.le_refl _) (LibA.three_whole (heap_alloc_new w _))
theorem Buf.old {w w' : World} {B b : Nat} {l : List Int} (h : Buf w B b l) (hb : Below w.heap.size w w') : Buf w' B b l := LibA.IsBuffer.old h hb
theorem Buf.lt {w : World} {B b : Nat} {l : List Int} (h : Buf w B b l) : b < w.heap.size := LibA.IsBuffer.lt h

set_option maxRecDepth 100000 in
theorem put_any (B b g n c : Nat) (l m : List Int) (x : Int) (w : World) (h : Buf w B b l) (hB : B ≤ w.heap.size) (hn : m.length = n) (hg : g ≠ b) (hr : Row w w.heap.size (some ⟨g, 0, none⟩) n (ints .u8 m)) (hlim : l.length + n ≤ 140737488355328) :
    Calls Tryd.prog 24 #[.pointer (some ⟨b, 0, none⟩), .slice (some ⟨g, 0, none⟩) n c, .int .i64 x] w fun e w' => e = .returned (.tuple #[]) ∧ Buf w' B b (l ++ m) ∧ Below B w w' := by
  have C := Lib.hid (Tryd.Buffer_Write_at 51 (fun _ => none) B b 0 (ints .u8 l) (ints .u8 m) ⟨g, 0, none⟩ n c w h hB (ints_one _ _) (by rw [ints_len]; exact hn) hg (fun j v hv => by
    have hj : j < n := by rw [← hn, ← ints_len .u8 m]; exact (List.getElem?_eq_some_iff.1 hv).1
    rw [← hv, ← hr.cell hj]
    congr 1
    unfold Addr.add
    simp
    intro h0; exact h0.symm) (ints_one _ _) (by rw [ints_len]; exact hlim))
  clear h hr
  go_enter Tryd.func24, Tryd.ntmps24
  go_wp2_with fail
  with_reducible refine C.out.mono ?_
  rintro e w' ⟨rfl, hb, hw, _⟩
  go_wp2
  go_end0
  rw [← ints_append] at hb
  exact ⟨rfl, hb, hw⟩

set_option maxRecDepth 100000 in
theorem Bytes_any (B b n : Nat) (l : List Int) (w : World) (h : Buf w B b l) (hn : l.length = n) (h0 : 0 < n) :
    Calls Tryd.prog 28 #[.pointer (some ⟨b, 0, none⟩)] w fun e w' => ∃ g c, e = .returned (.slice (some ⟨g, 0, none⟩) n c) ∧ Row w w.heap.size (some ⟨g, 0, none⟩) n (ints .u8 l) ∧ Below w.heap.size w w' := by
  obtain ⟨hB, v, lr, h3, hown, hne⟩ := h
  rw [ints_len, hn] at hown
  obtain ⟨g, cap, hv, hg, hlt⟩ := hown.form h0
  subst hv
  have c0 := h3.c0
  have c1 := h3.c1
  rw [Nat.zero_add] at c1
  have hcap := own_cap hown
  have hmax : cap ≤ 9223372036854775807 := by
    rcases hown.2 with ⟨h', _⟩ | ⟨g', cap', cur, h', _, _, _, hm, _⟩
    · cases h'
    · injection h' with _ _ h4
      subst h4
      exact hm
  have HR := Lib.hid (Row.own hown)
  have hc0 : (0 : Int) ≤ (cap : Int) := by omega
  have hn0 : (0 : Int) ≤ (n : Int) := by omega
  have hnc : (n : Int) ≤ (cap : Int) := by omega
  have hcne : ¬ cap = 0 := by omega
  clear h3 hown hne
  go_enter Tryd.func28, Tryd.ntmps28
  go_wp2_with fail
  go_quiet (fail)
  go_wp2
  go_ret
  exact ⟨g, cap, rfl, HR.out, rfl, rfl, rfl, Nat.le_refl _, fun _ _ => rfl⟩
/-- A result of bytes, where there is one at least. -/
theorem outB {f : Nat} {args : Array Value} {w : World} {l : List Int} {x : Int} (m : Nat) (hm : l.length = m) (h0 : 0 < m) (h : Calls Tryd.prog f args w (Out w l x)) :
    Calls Tryd.prog f args w fun e w' => ∃ g c, e = .returned (.tuple #[.slice (some ⟨g, 0, none⟩) m c, .int .i64 x]) ∧ w.heap.size ≤ g ∧ Row w' w'.heap.size (some ⟨g, 0, none⟩) m (ints .u8 l) ∧ Below w.heap.size w w' := by
  subst hm
  refine h.mono ?_
  rintro e w' ⟨A, c, rfl, o, b⟩
  obtain ⟨g, cap, hv, hg, _⟩ := o.form h0
  injection hv with hA _ _
  subst hA
  exact ⟨g, c, rfl, hg, Row.own o, b⟩
theorem uB (n : Nat) (w : World) (h : n ≤ 18014398509481982) :
    Calls Tryd.prog 25 #[.int .i64 n] w fun e w' => ∃ g c, e = .returned (.tuple #[.slice (some ⟨g, 0, none⟩) (leb n).length c, .int .i64 0]) ∧ w.heap.size ≤ g ∧ Row w' w'.heap.size (some ⟨g, 0, none⟩) (leb n).length (ints .u8 (leb n)) ∧ Below w.heap.size w w' := by
  have := U_any n w
  rw [uOut, uErr, if_neg (by omega), if_neg (by omega), Int.toNat_natCast] at this
  exact outB _ rfl (leb_pos n) this
theorem sB (t : Int) (w : World) (h : sOk t) :
    Calls Tryd.prog 26 #[.int .i64 t] w fun e w' => ∃ g c, e = .returned (.tuple #[.slice (some ⟨g, 0, none⟩) (leb (zz t)).length c, .int .i64 0]) ∧ w.heap.size ≤ g ∧ Row w' w'.heap.size (some ⟨g, 0, none⟩) (leb (zz t)).length (ints .u8 (leb (zz t))) ∧ Below w.heap.size w w' := by
  have := S_any t w
  rw [sOut, sErr, if_pos h, if_pos h] at this
  exact outB _ rfl (leb_pos _) this
theorem tB (s : ByteArray) (m : Nat) (w : World) (h : s.size ≤ 4096) (hm : (leb s.size ++ nums s).length = m) :
    Calls Tryd.prog 27 #[.string s] w fun e w' => ∃ g c, e = .returned (.tuple #[.slice (some ⟨g, 0, none⟩) m c, .int .i64 0]) ∧ w.heap.size ≤ g ∧ Row w' w'.heap.size (some ⟨g, 0, none⟩) m (ints .u8 (leb s.size ++ nums s)) ∧ Below w.heap.size w w' := by
  have := Text_any s w (by omega)
  rw [tOut, tErr, if_neg (by omega), if_neg (by omega)] at this
  exact outB _ hm (by rw [← hm, List.length_append]; have := leb_pos s.size; omega) this
def putB (l : List Int) : List Int := l ++ rowI (sumOf 0 l)
def packL (es : List (Int × ByteArray)) : List Int := if chkB (mm es) = 0 then putB (encB (mm es)) else []
theorem mm_u8 (es : List (Int × ByteArray)) : ∀ e ∈ mm es, Byt8 e.2 := by
  intro e he
  obtain ⟨a, _, rfl⟩ := List.mem_map.1 he
  exact nums_byte a.2
/-- Of entries that may be: their number, times and lines. -/
theorem packs_ok {es : List (Int × ByteArray)} (h : chkB (mm es) = 0) : 1 ≤ es.length ∧ es.length ≤ 32 ∧ TimesOk (entT (mm es)) ∧ (∀ k, k < es.length → (entT (mm es)).getD k 0 = (es.getD k (0, ByteArray.empty)).1 ∧ (entL (mm es)).getD k [] = nums (es.getD k (0, ByteArray.empty)).2 ∧ (es.getD k (0, ByteArray.empty)).2.size ≤ 4096) := by
  obtain ⟨h1, h2, h3, h4⟩ := chkB_ok h
  rw [mm_len] at h1 h2
  refine ⟨h1, h2, h3, fun k hk => ?_⟩
  have e1 : (entL (mm es)).getD k [] = nums (es.getD k (0, ByteArray.empty)).2 := by simp [entL, mm, List.getD_eq_getElem?_getD, hk]
  refine ⟨by simp [entT, mm, List.getD_eq_getElem?_getD, hk], e1, ?_⟩
  have h5 := h4 ((entL (mm es)).getD k []) (by
    rw [List.getD_eq_getElem?_getD, List.getElem?_eq_getElem (by rw [entL_len, mm_len]; exact hk)]; exact List.getElem_mem _)
  rw [e1, nums_len] at h5
  exact h5

set_option maxRecDepth 100000 in
set_option maxHeartbeats 4000000 in
theorem Pack_ok (A : Option Addr) (n c : Nat) (es : List (Int × ByteArray)) (w : World) (hr : RowE w w.heap.size A n es) (hk0 : chkB (mm es) = 0) :
    Calls Tryd.prog 11 #[.slice A n c] w (Out w (putB (encB (mm es))) 0) := by
  obtain ⟨p1, p2, p3, p4⟩ := packs_ok hk0
  have hl := hr.1
  rw [hl] at p1 p2 p4
  have HC := Check_any A n c es w hr (by omega)
  rw [hk0] at HC
  replace HC := Lib.hid HC
  obtain ⟨b0, off, rfl, hb0, hcl⟩ := hr.2 (by omega)
  have HL := Lib.hid hl
  have HP := Lib.hid p4
  have HT := Lib.hid p3
  have HK := Lib.hid hk0
  have HCl := Lib.hid (fun (w' : World) (b : Below w.heap.size w w') (j : Nat) (hj : j < n) => And.intro ((b.cell (p := ⟨b0, off + j * 2, none⟩) hb0).trans (hcl j hj).1) ((b.cell (p := ⟨b0, off + j * 2 + 1, none⟩) hb0).trans (hcl j hj).2))
  have hn1 : 1 ≤ n := p1
  have hn2 : n ≤ 32 := p2
  clear hr hk0 p1 p2 p3 p4 hcl hl
  go_enter Tryd.func11, Tryd.ntmps11
  go_wp2_with fail
  with_reducible refine HC.out.mono ?_
  rintro e w1 ⟨rfl, b1⟩
  go_wp2_with fail
  have buf := Buf.made w1
  have bb := b1.alloc b1.size (.cells #[.slice none 0 0, .int .i64 0, .int .i8 0] 51)
  have hle := b1.size
  have hgs : w1.heap.size ≤ (w1.alloc (.cells #[.slice none 0 0, .int .i64 0, .int .i8 0] 51)).heap.size := by simp
  obtain ⟨g0, hg0⟩ : ∃ g, w1.heap.size = g := ⟨_, rfl⟩
  obtain ⟨W, hW⟩ : ∃ W, w1.alloc (.cells #[.slice none 0 0, .int .i64 0, .int .i8 0] 51) = W := ⟨_, rfl⟩
  rw [hW] at buf bb hgs ⊢
  rw [hg0] at buf hle hgs ⊢
  clear hW hg0 b1
  with_reducible refine (uB n W (by omega)).mono ?_
  rintro e w2 ⟨g, c2, rfl, hg, r2, b2⟩
  have hlt := buf.lt
  replace buf := buf.old b2
  replace bb := next bb b2
  replace hgs := Nat.le_trans hgs b2.size
  have l8 := leb_len8 (n := n) (by omega)
  go_wp2_with fail
  with_reducible refine (put_any g0 g0 g _ c2 [] (leb n) 0 w2 buf hgs rfl (by omega) r2 (by simp; omega)).mono ?_
  rintro e w3 ⟨rfl, buf3, b3⟩
  replace bb := bb.trans (b3.mono hle)
  replace hgs := Nat.le_trans hgs b3.size
  clear buf r2 b2 b3 hlt hg
  obtain ⟨t0, ht0⟩ : ∃ t, (es.getD 0 (0, ByteArray.empty)).1 = t := ⟨_, rfl⟩
  have hs0 : sOk t0 := by
    have h1 := (HP.out 0 (by omega)).1
    rw [ht0] at h1
    rw [← h1]
    exact HT.out.1 _ (getD_mem' (by rw [entT_len, mm_len, HL.out]; omega))
  have hc0 := (HCl.out w3 bb 0 (by omega)).1
  rw [ht0, Nat.zero_mul, Nat.add_zero] at hc0
  have HB1 : Hid (leb n ++ leb (zz t0) = leb n ++ encT ((entT (mm es)).take 1)) := Lib.hid (by
    have h1 := take_snoc 0 (l := entT (mm es)) (k := 0) (by rw [entT_len, mm_len, HL.out]; omega)
    rw [List.take_zero, List.nil_append, (HP.out 0 (by omega)).1, ht0] at h1
    rw [h1, encT, encD, List.append_nil])
  have l9 := leb_len8 (zz_le hs0)
  have H0 := Lib.hid hs0
  clear ht0 hs0
  go_wp2_with fail
  with_reducible refine (sB t0 w3 H0.out).mono ?_
  rintro e w4 ⟨g, c4, rfl, hg, r4, b4⟩
  have hlt := buf3.lt
  replace buf3 := buf3.old b4
  replace bb := next bb b4
  replace hgs := Nat.le_trans hgs b4.size
  clear hc0
  go_wp2_with fail
  with_reducible refine (put_any g0 g0 g _ c4 ([] ++ leb n) (leb (zz t0)) 0 w4 buf3 hgs rfl (by omega) r4 (by simp; omega)).mono ?_
  rintro e w5 ⟨rfl, buf, b5⟩
  rw [List.nil_append, HB1.out] at buf
  replace bb := bb.trans (b5.mono hle)
  replace hgs := Nat.le_trans hgs b5.size
  clear buf3 r4 b4 b5 hlt hg
  go_wp2_with fail
  go_loopw [6] (fun s6 wr => ∃ k : Nat, 1 ≤ k ∧ k ≤ n ∧ s6 = .int .i64 k ∧ Buf wr g0 g0 (leb n ++ encT ((entT (mm es)).take k)) ∧ g0 ≤ wr.heap.size ∧ Below w.heap.size w wr) (fun i _ => n - (intOf i).toNat)
  case atStart => exact ⟨1, Nat.le_refl _, hn1, rfl, buf, hgs, bb⟩
  case round =>
    obtain ⟨k, hk1, hk2, rfl, bufk, hgk, hb⟩ := hrel
    rename World => wr
    have HLT : Hid (k ≤ (entT (mm es)).length) := Lib.hid (by rw [entT_len, mm_len, HL.out]; exact hk2)
    have hlT : (encT ((entT (mm es)).take k)).length ≤ 256 := by
      have h1 := encT_len ((entT (mm es)).take k) (fun t ht => HT.out.1 t (List.mem_of_mem_take ht))
      rw [List.length_take] at h1
      omega
    by_cases hlt : k < n
    · have hlt' : (k : Int) < (n : Int) := by omega
      obtain ⟨q, hq⟩ : ∃ q, k - 1 = q := ⟨_, rfl⟩
      obtain ⟨tk, htk⟩ : ∃ t, (es.getD k (0, ByteArray.empty)).1 = t := ⟨_, rfl⟩
      obtain ⟨tp, htp⟩ : ∃ t, (es.getD q (0, ByteArray.empty)).1 = t := ⟨_, rfl⟩
      have ck := (HCl.out wr hb k hlt).1
      have cp := (HCl.out wr hb q (by omega)).1
      rw [htk] at ck
      rw [htp] at cp
      have e1 := (HP.out k hlt).1
      have e2 := (HP.out q (by omega)).1
      rw [htk] at e1
      rw [htp] at e2
      have o1 := HT.out.1 _ (getD_mem' (ts := entT (mm es)) (k := k) (by rw [entT_len, mm_len, HL.out]; exact hlt))
      have o2 := HT.out.1 _ (getD_mem' (ts := entT (mm es)) (k := q) (by rw [entT_len, mm_len, HL.out]; omega))
      have o3 := HT.out.2 q (by rw [entT_len, mm_len, HL.out]; omega)
      rw [show q + 1 = k by omega, e1, e2] at o3
      rw [e1] at o1
      rw [e2] at o2
      unfold sOk at o1 o2
      obtain ⟨dn, hdn⟩ : ∃ d : Nat, (tk - tp).toNat = d := ⟨_, rfl⟩
      have HE : Hid (leb n ++ encT ((entT (mm es)).take k) ++ leb dn = leb n ++ encT ((entT (mm es)).take (k + 1))) := Lib.hid (by
        rw [take_snoc 0 (by rw [entT_len, mm_len, HL.out]; exact hlt), encT_snoc _ tp _ (by
          have := last_take (l := entT (mm es)) (k := q) (by rw [entT_len, mm_len, HL.out]; omega)
          rw [show q + 1 = k by omega, e2] at this
          exact this), e1, hdn, List.append_assoc])
      have hd9 : dn ≤ 18014398509481982 := by omega
      have hqi : (k : Int) - 1 = (q : Int) := by omega
      have hq0 : (0 : Int) ≤ (q : Int) := by omega
      have hqn : (q : Int) < (n : Int) := by omega
      have hsub : tk - tp = (dn : Int) := by omega
      have hk1' : k + 1 ≤ n := hlt
      have HB := Lib.hid hb
      have HBf := Lib.hid bufk
      have l10 := leb_len8 hd9
      have hwq : IntKind.i64.wrap (q : Int) = (q : Int) := IntWalk.i64_in _ (by omega)
      have hwd : IntKind.i64.wrap (dn : Int) = (dn : Int) := IntWalk.i64_in _ (by omega)
      have HLg := Lib.hid bufk.lt
      have HSf : Hid (∀ w', Below w.heap.size w w' → (Below w.heap.size w w' ∧ w'.cell? ⟨b0, off + k * 2, none⟩ = some (.int .i64 tk) ∧ w'.cell? ⟨b0, off + q * 2, none⟩ = some (.int .i64 tp))) := Lib.hid (fun w' b => ⟨b, by rw [(HCl.out w' b k hlt).1, htk], by rw [(HCl.out w' b q (by omega)).1, htp]⟩)
      have HS0 := Lib.hid (HSf.out wr.drew hb.drew)
      clear htk htp e1 e2 o1 o2 o3 hdn hq hb bufk HLT ck cp
      go_wp2_with fail
      go_region_held3 (fun w' => Below w.heap.size w w' ∧ w'.cell? ⟨b0, off + k * 2, none⟩ = some (.int .i64 tk) ∧ w'.cell? ⟨b0, off + q * 2, none⟩ = some (.int .i64 tp))
        (first | exact HS0.out | assumption)
        ((first
          | (go_at_call 25
             with_reducible refine (uB dn _ hd9).mono ?_
             rintro e w6 ⟨g, c6, rfl, hg, r6, b6⟩
             have hb6 := next HB.out.drew b6
             have s6 := HSf.out w6 hb6
             have bd6 := Buf.old (w := wr.drew) HBf.out b6
             have hlt9 : g0 < wr.drew.heap.size := HLg.out
             have hgd6 : g0 ≤ w6.heap.size := Nat.le_trans hgk b6.size)
          | (go_at_call 24
             with_reducible refine (put_any g0 g0 g _ c6 _ (leb dn) 0 w6 bd6 hgd6 rfl (by omega) r6 (by rw [List.length_append]; omega)).mono ?_
             rintro e w7 ⟨rfl, bd7, b7⟩
             rw [HE.out] at bd7
             have hb7 := hb6.trans (b7.mono hle)
             have s7 := HSf.out w7 hb7)))
      have hgd := Nat.le_trans hgd6 b7.size
      have hbd := hb7
      clear r6 b6 b7 hlt9 hg hlT s6 s7 hb6 hb7 bd6
      go_wp2_with fail
      refine ⟨⟨k + 1, by omega, hk1', by go_num, bd7, hgd, hbd⟩, ?_⟩
      simp [intOf]
      omega
    · have hkn : k = n := by omega
      subst hkn
      rw [List.take_of_length_le (by rw [entT_len, mm_len, HL.out]; exact Nat.le_refl _)] at bufk hlT
      have HE0 : Hid (leb k ++ encT (entT (mm es)) = leb k ++ encT (entT (mm es)) ++ encL ((entL (mm es)).take 0)) := Lib.hid (by simp [encL])
      rw [HE0.out] at bufk
      clear hlt HLT
      go_wp2_with fail
      rename World => wr0
      go_loopw [52] (fun s52 wr => ∃ j : Nat, j ≤ k ∧ s52 = .int .i64 j ∧ Buf wr g0 g0 (leb k ++ encT (entT (mm es)) ++ encL ((entL (mm es)).take j)) ∧ g0 ≤ wr.heap.size ∧ Below w.heap.size w wr) (fun i _ => k - (intOf i).toNat)
      case atStart => exact ⟨0, Nat.zero_le _, rfl, bufk, hgk, hb⟩
      case round =>
        obtain ⟨j, hj, rfl, bufj, hgj, hbj⟩ := hrel
        rename World => wr
        have hlL : (encL ((entL (mm es)).take j)).length ≤ 5000 * j := by
          have h1 := encL_len ((entL (mm es)).take j) (fun s hs => (chkB_ok HK.out).2.2.2 s (List.mem_of_mem_take hs))
          rw [List.length_take] at h1
          have h2 : min j (entL (mm es)).length ≤ j := Nat.min_le_left _ _
          omega
        by_cases hlt : j < k
        · have hlt' : (j : Int) < (k : Int) := by omega
          obtain ⟨t, ht⟩ : ∃ t, (es.getD j (0, ByteArray.empty)).1 = t := ⟨_, rfl⟩
          obtain ⟨s, hs⟩ : ∃ s, (es.getD j (0, ByteArray.empty)).2 = s := ⟨_, rfl⟩
          obtain ⟨c1, c2⟩ := HCl.out wr hbj j hlt
          rw [ht] at c1
          rw [hs] at c2
          obtain ⟨_, e2, e3⟩ := HP.out j hlt
          rw [hs] at e2 e3
          have HE : Hid (leb k ++ encT (entT (mm es)) ++ encL ((entL (mm es)).take j) ++ (leb s.size ++ nums s) = leb k ++ encT (entT (mm es)) ++ encL ((entL (mm es)).take (j + 1))) := Lib.hid (by
            rw [take_snoc [] (by rw [entL_len, mm_len, HL.out]; exact hlt), encL_snoc, e2, nums_len, List.append_assoc _ _ (leb s.size ++ nums s)])
          have hls : (leb s.size ++ nums s).length ≤ 5000 := by
            have := leb_len8 (n := s.size) (by omega)
            rw [List.length_append, nums_len]; omega
          have hj1 : j + 1 ≤ k := hlt
          obtain ⟨m, hm⟩ : ∃ m, (leb s.size ++ nums s).length = m := ⟨_, rfl⟩
          rw [hm] at hls
          have CT := Lib.hid (fun w' => tB s m w' e3 hm)
          have HM := Lib.hid hm
          clear hm
          have bd := LibA.IsBuffer.alloc bufj (.cells #[.int .i64 t, .string s] 43)
          have hbd := hbj.alloc hbj.size (.cells #[.int .i64 t, .string s] 43)
          have hgd : g0 ≤ (wr.alloc (.cells #[.int .i64 t, .string s] 43)).heap.size := by simp; omega
          have HBD : Hid (Buf (wr.alloc (.cells #[.int .i64 t, .string s] 43)) g0 g0 (leb k ++ encT (entT (mm es)) ++ encL ((entL (mm es)).take j))) := Lib.hid bd
          have HBB := Lib.hid hbd
          clear ht hs e2 hbj bd hbd bufj
          go_wp2_with fail
          obtain ⟨ws, hws⟩ : ∃ W, wr.alloc (.cells #[.int .i64 t, .string s] 43) = W := ⟨_, rfl⟩
          rw [hws] at HBD HBB hgd ⊢
          clear hws c1 c2
          have bd := HBD.out
          have hbd := HBB.out
          have hlt9 := bd.lt
          with_reducible refine (CT.out ws).mono ?_
          rintro e w6 ⟨g, c6, rfl, hg, r6, b6⟩
          replace bd := bd.old b6
          replace hbd := next hbd b6
          replace hgd := Nat.le_trans hgd b6.size
          clear HBD HBB
          go_wp2_with fail
          with_reducible refine (put_any g0 g0 g m c6 _ (leb s.size ++ nums s) 0 w6 bd hgd HM.out (by omega) r6 (by rw [List.length_append, List.length_append]; omega)).mono ?_
          rintro e w7 ⟨rfl, bd7, b7⟩
          rw [HE.out] at bd7
          replace hbd := hbd.trans (b7.mono hle)
          replace hgd := Nat.le_trans hgd b7.size
          clear bd r6 b6 b7 hlt9 hg
          go_wp2_with fail
          refine ⟨⟨j + 1, hj1, by go_num, bd7, hgd, hbd⟩, ?_⟩
          simp [intOf]
          omega
        · have hjk : j = k := by omega
          subst hjk
          rw [List.take_of_length_le (by rw [entL_len, mm_len, HL.out]; exact Nat.le_refl _)] at bufj hlL
          have HF : Hid (leb j ++ encT (entT (mm es)) ++ encL (entL (mm es)) = encB (mm es)) := Lib.hid (by rw [encB, mm_len, HL.out, List.append_assoc])
          rw [HF.out] at bufj
          have hE1 := encB_len HK.out
          have hE2 := encB_u8 HK.out (mm_u8 es)
          obtain ⟨L, hL⟩ : ∃ L, encB (mm es) = L := ⟨_, rfl⟩
          have hp1 : 0 < L.length := by
            rw [← hL, encB, List.length_append]; have := leb_pos (mm es).length; omega
          rw [hL] at bufj hE1 hE2 ⊢
          have HU : Hid (U8 L) := Lib.hid (show U8 L from hE2)
          have HLe := Lib.hid hL
          obtain ⟨ln, hln⟩ : ∃ n, L.length = n := ⟨_, rfl⟩
          rw [hln] at hp1 hE1
          have HBj := Lib.hid hbj
          have CB := Bytes_any g0 g0 ln L wr bufj hln hp1
          have hpl : Hid ((putB L).length = ln + 4) := Lib.hid (by rw [putB, List.length_append, rowI_len, hln])
          clear hln hL hE2 hbj bufj hlt hlL hlT HF
          go_wp2_with fail
          with_reducible refine CB.mono ?_
          rintro e w8 ⟨g, c8, rfl, r8, b8⟩
          clear CB
          go_wp2_with fail
          with_reducible refine (Put_at (some ⟨g, 0, none⟩) c8 _ ln L w8 (r8.on b8) (Nat.le_refl _) HU.out (by omega)).mono ?_
          rintro e w9 ⟨A9, c9, rfl, o9, b9⟩
          have hF : Out w (putB L) 0 (.returned (.tuple #[.slice A9 (ln + 4) c9, .int .i64 0])) w9 :=
            ⟨A9, c9, by rw [hpl.out], by rw [hpl.out]; exact own_low o9 (next HBj.out b8).size, next (next HBj.out b8) b9⟩
          have HF := Lib.hid hF
          clear hF o9 b9
          go_wp2
          go_ret2
          rw [HLe.out]
          exact HF.out

theorem Pack_any (A : Option Addr) (n c : Nat) (es : List (Int × ByteArray)) (w : World) (hr : RowE w w.heap.size A n es) (hn : n ≤ 9223372036854775807) :
    Calls Tryd.prog 11 #[.slice A n c] w (Out w (packL es) (chkB (mm es))) := by
  by_cases hk : chkB (mm es) = 0
  · rw [packL, if_pos hk, hk]
    exact Pack_ok A n c es w hr hk
  · have HP : Hid (packL es = []) := Lib.hid (by rw [packL, if_neg hk])
    have HC := Lib.hid (Check_any A n c es w hr hn)
    obtain ⟨x, hx⟩ : ∃ x, chkB (mm es) = x := ⟨_, rfl⟩
    rw [hx] at HC hk
    rw [HP.out, hx]
    have hb : (x != 0) = true := by simp [bne, hk]
    clear hr hx hk HP
    go_enter Tryd.func11, Tryd.ntmps11
    go_wp2_with fail
    with_reducible refine HC.out.mono ?_
    rintro e w1 ⟨rfl, b1⟩
    go_wp2
    go_ret2
    exact ⟨none, 0, rfl, World.ownsRow_nil _ _ _ _, b1⟩

theorem own_on {w w' : World} {base n : Nat} {v : Value} {xs : List Value} (h : w.ownsRow base 5 1 v n xs) (hb : Below w.heap.size w w') : w'.ownsRow base 5 1 v n xs :=
  h.kept (row := none) ⟨hb.os, hb.tape, hb.output, hb.size, fun j hj _ => hb.block j hj⟩ (by rcases h : v.ownBlock with _ | g <;> simp)
/-- A result of bytes, as it reads. -/
theorem outR {f : Nat} {args : Array Value} {w : World} {l : List Int} {x : Int} (m : Nat) (hm : l.length = m) (h : Calls Tryd.prog f args w (Out w l x)) :
    Calls Tryd.prog f args w fun e w' => ∃ A c, e = .returned (.tuple #[.slice A m c, .int .i64 x]) ∧ w'.ownsRow w.heap.size 5 1 (.slice A m c) m (ints .u8 l) ∧ Below w.heap.size w w' := by
  subst hm
  refine h.mono ?_
  rintro e w' ⟨A, c, rfl, o, b⟩
  exact ⟨A, c, rfl, o, b⟩
theorem ruB (n m : Nat) (w : World) (h : n ≤ 18014398509481982) (hm : (leb n).length = m) :
    Calls Tryd.prog 29 #[.int .i64 n] w fun e w' => ∃ A c, e = .returned (.tuple #[.slice A m c, .int .i64 0]) ∧ w'.ownsRow w.heap.size 5 1 (.slice A m c) m (ints .u8 (leb n)) ∧ Below w.heap.size w w' := by
  have := rU_any n w
  rw [uOut, uErr, if_neg (by omega), if_neg (by omega), Int.toNat_natCast] at this
  exact outR m hm this
theorem rsB (t : Int) (m : Nat) (w : World) (h : sOk t) (hm : (leb (zz t)).length = m) :
    Calls Tryd.prog 30 #[.int .i64 t] w fun e w' => ∃ A c, e = .returned (.tuple #[.slice A m c, .int .i64 0]) ∧ w'.ownsRow w.heap.size 5 1 (.slice A m c) m (ints .u8 (leb (zz t))) ∧ Below w.heap.size w w' := by
  have := rS_any t w
  rw [sOut, sErr, if_pos h, if_pos h] at this
  exact outR m hm this
theorem rtB (s : ByteArray) (m : Nat) (w : World) (h : s.size ≤ 4096) (hm : (leb s.size ++ nums s).length = m) :
    Calls Tryd.prog 31 #[.string s] w fun e w' => ∃ A c, e = .returned (.tuple #[.slice A m c, .int .i64 0]) ∧ w'.ownsRow w.heap.size 5 1 (.slice A m c) m (ints .u8 (leb s.size ++ nums s)) ∧ Below w.heap.size w w' := by
  have := rText_any s w (by omega)
  rw [tOut, tErr, if_neg (by omega), if_neg (by omega)] at this
  exact outR m hm this

set_option maxRecDepth 100000 in
set_option maxHeartbeats 4000000 in
theorem rPack_ok (A : Option Addr) (n c : Nat) (es : List (Int × ByteArray)) (w : World) (hr : RowE w w.heap.size A n es) (hk0 : chkB (mm es) = 0) :
    Calls Tryd.prog 12 #[.slice A n c] w (Out w (putB (encB (mm es))) 0) := by
  obtain ⟨i0, hi, hz0, hz1, hz2⟩ := info_parts u8_info
  obtain ⟨p1, p2, p3, p4⟩ := packs_ok hk0
  have hl := hr.1
  rw [hl] at p1 p2 p4
  have HC := rCheck_any A n c es w hr (by omega)
  rw [hk0] at HC
  replace HC := Lib.hid HC
  obtain ⟨b0, off, rfl, hb0, hcl⟩ := hr.2 (by omega)
  have HL := Lib.hid hl
  have HP := Lib.hid p4
  have HT := Lib.hid p3
  have HK := Lib.hid hk0
  have HCl := Lib.hid (fun (w' : World) (b : Below w.heap.size w w') (j : Nat) (hj : j < n) => And.intro ((b.cell (p := ⟨b0, off + j * 2, none⟩) hb0).trans (hcl j hj).1) ((b.cell (p := ⟨b0, off + j * 2 + 1, none⟩) hb0).trans (hcl j hj).2))
  have hn1 : 1 ≤ n := p1
  have hn2 : n ≤ 32 := p2
  clear hr hk0 p1 p2 p3 p4 hcl hl
  obtain ⟨m0, hm0⟩ : ∃ m, (leb n).length = m := ⟨_, rfl⟩
  have l8 : m0 ≤ 8 := by rw [← hm0]; exact leb_len8 (by omega)
  have CU := Lib.hid (fun w' => ruB n m0 w' (by omega) hm0)
  have HM0 := Lib.hid hm0
  clear hm0
  go_enter Tryd.func12, Tryd.ntmps12
  go_wp2_with fail
  with_reducible refine HC.out.mono ?_
  rintro e w1 ⟨rfl, b1⟩
  go_wp2_with fail
  with_reducible refine (CU.out w1).mono ?_
  rintro e w2 ⟨A2, c2, rfl, o2, b2⟩
  have bb := next b1 b2
  replace o2 := own_low o2 b1.size
  have HE0 : Hid (leb n = leb n ++ encT ((entT (mm es)).take 0)) := Lib.hid (by simp [encT])
  rw [HE0.out] at o2
  clear b1 b2
  go_wp2_with fail
  go_loopw [5, 7] (fun s5 s7 wr => ∃ (k m : Nat) (A : Option Addr) (c : Nat), k ≤ n ∧ s7 = .int .i64 k ∧ s5 = .slice A m c ∧ m ≤ 8 + 8 * k ∧ wr.ownsRow w.heap.size 5 1 (.slice A m c) m (ints .u8 (leb n ++ encT ((entT (mm es)).take k))) ∧ Below w.heap.size w wr) (fun _ i _ => n - (intOf i).toNat)
  case atStart => exact ⟨0, m0, A2, c2, Nat.zero_le _, rfl, rfl, by omega, o2, bb⟩
  case round =>
    obtain ⟨k, m, A5, c5, hk2, rfl, rfl, hm, ok, hb⟩ := hrel
    rename World => wr
    by_cases hlt : k < n
    · have hlt' : (k : Int) < (n : Int) := by omega
      obtain ⟨tk, htk⟩ : ∃ t, (es.getD k (0, ByteArray.empty)).1 = t := ⟨_, rfl⟩
      have ck := (HCl.out wr hb k hlt).1
      rw [htk] at ck
      have e1 := (HP.out k hlt).1
      rw [htk] at e1
      have o1 := HT.out.1 _ (getD_mem' (ts := entT (mm es)) (k := k) (by rw [entT_len, mm_len, HL.out]; exact hlt))
      rw [e1] at o1
      have hk1' : k + 1 ≤ n := hlt
      by_cases k0 : k = 0
      · subst k0
        rw [Nat.zero_mul, Nat.add_zero] at ck
        obtain ⟨m1, hm1⟩ : ∃ m, (leb (zz tk)).length = m := ⟨_, rfl⟩
        have l9 : m1 ≤ 8 := by rw [← hm1]; exact leb_len8 (zz_le o1)
        have CS := rsB tk m1 wr o1 hm1
        have HE : Hid (leb n ++ leb (zz tk) = leb n ++ encT ((entT (mm es)).take 1)) := Lib.hid (by
          have h1 := take_snoc 0 (l := entT (mm es)) (k := 0) (by rw [entT_len, mm_len, HL.out]; omega)
          rw [List.take_zero, List.nil_append, e1] at h1
          rw [h1, encT, encD, List.append_nil])
        rw [← HE0.out] at ok
        have HOk := Lib.hid ok
        have HB := Lib.hid hb
        clear hm1 e1 o1 htk ok hb
        go_wp2_with fail
        with_reducible refine CS.mono ?_
        rintro e w6 ⟨A6, c6, rfl, o6, b6⟩
        have r6 := Row.own o6
        have o5 := own_on HOk.out b6
        have hb6 := next HB.out b6
        have hs6 := hb6.size
        clear CS o6
        go_wp2_with (at_builtin; refine wpList_app _ rfl (.tmp 56) (.tmp 57) 24 rfl w.heap.size 5 i0 (.int .u8 0) 1 Tryd.underlying24 hi hz0 hz1 hz2 rfl _ _ _ rfl o5 _ _ _ _ _ rfl r6 (ints_one _ _) (by unfold maxLen; omega) (by omega) hs6 ?_)
        intro v7 w7 o7 _ h7
        obtain ⟨A7, c7, rfl⟩ := own_slice o7
        rw [← ints_append, HE.out] at o7
        have hb7 := hb6.trans h7
        clear o5 r6 h7 hb6 hs6 b6
        go_wp2_with fail
        refine ⟨⟨0 + 1, m + m1, A7, c7, hk1', by go_num, rfl, by omega, o7, hb7⟩, ?_⟩
        simp [intOf]
        omega
      · obtain ⟨q, hq⟩ : ∃ q, k - 1 = q := ⟨_, rfl⟩
        obtain ⟨tp, htp⟩ : ∃ t, (es.getD q (0, ByteArray.empty)).1 = t := ⟨_, rfl⟩
        have e2 := (HP.out q (by omega)).1
        rw [htp] at e2
        have o2 := HT.out.1 _ (getD_mem' (ts := entT (mm es)) (k := q) (by rw [entT_len, mm_len, HL.out]; omega))
        have o3 := HT.out.2 q (by rw [entT_len, mm_len, HL.out]; omega)
        rw [show q + 1 = k by omega, e1, e2] at o3
        rw [e2] at o2
        unfold sOk at o1 o2
        obtain ⟨dn, hdn⟩ : ∃ d : Nat, (tk - tp).toNat = d := ⟨_, rfl⟩
        have HE : Hid (leb n ++ encT ((entT (mm es)).take k) ++ leb dn = leb n ++ encT ((entT (mm es)).take (k + 1))) := Lib.hid (by
          rw [take_snoc 0 (by rw [entT_len, mm_len, HL.out]; exact hlt), encT_snoc _ tp _ (by
            have := last_take (l := entT (mm es)) (k := q) (by rw [entT_len, mm_len, HL.out]; omega)
            rw [show q + 1 = k by omega, e2] at this
            exact this), e1, hdn, List.append_assoc])
        have hd9 : dn ≤ 18014398509481982 := by omega
        have hqi : (k : Int) - 1 = (q : Int) := by omega
        have hq0 : (0 : Int) ≤ (q : Int) := by omega
        have hqn : (q : Int) < (n : Int) := by omega
        have hsub : tk - tp = (dn : Int) := by omega
        have hkz : ((k : Int) == 0) = false := beq_eq_false_iff_ne.2 (by omega)
        obtain ⟨m1, hm1⟩ : ∃ m, (leb dn).length = m := ⟨_, rfl⟩
        have l9 : m1 ≤ 8 := by rw [← hm1]; exact leb_len8 hd9
        have CU2 := Lib.hid (fun w' => ruB dn m1 w' hd9 hm1)
        have HB := Lib.hid hb
        have HOk := Lib.hid ok
        have hwq : IntKind.i64.wrap (q : Int) = (q : Int) := IntWalk.i64_in _ (by omega)
        have hwd : IntKind.i64.wrap (dn : Int) = (dn : Int) := IntWalk.i64_in _ (by omega)
        have HSf : Hid (∀ w', Below w.heap.size w w' → (Below w.heap.size w w' ∧ w'.cell? ⟨b0, off + k * 2, none⟩ = some (.int .i64 tk) ∧ w'.cell? ⟨b0, off + q * 2, none⟩ = some (.int .i64 tp))) := Lib.hid (fun w' b => ⟨b, by rw [(HCl.out w' b k hlt).1, htk], by rw [(HCl.out w' b q (by omega)).1, htp]⟩)
        have HS0 := Lib.hid (HSf.out wr.drew hb.drew)
        clear htk htp e1 e2 o1 o2 o3 hdn hq hb ok ck hm1
        go_wp2_with fail
        go_region_held3 (fun w' => Below w.heap.size w w' ∧ w'.cell? ⟨b0, off + k * 2, none⟩ = some (.int .i64 tk) ∧ w'.cell? ⟨b0, off + q * 2, none⟩ = some (.int .i64 tp))
          (first | exact HS0.out | assumption)
          ((first
            | (go_at_call 29
               with_reducible refine (CU2.out _).mono ?_
               rintro e w6 ⟨A6, c6, rfl, o6, b6⟩
               have hb6 := next HB.out.drew b6
               have s6 := HSf.out w6 hb6)))
        have r6 := Row.own o6
        have b6' : Below wr.heap.size wr w6 := ⟨b6.os, b6.tape, b6.output, b6.size, b6.block⟩
        have o5 := own_on HOk.out b6'
        have hs6 := hb6.size
        clear o6 s6 b6
        go_wp2_with (at_builtin; refine wpList_app _ rfl (.tmp 56) (.tmp 57) 24 rfl w.heap.size 5 i0 (.int .u8 0) 1 Tryd.underlying24 hi hz0 hz1 hz2 rfl _ _ _ rfl o5 _ _ _ _ _ rfl r6 (ints_one _ _) (by unfold maxLen; omega) (by omega) hs6 ?_)
        intro v7 w7 o7 _ h7
        obtain ⟨A7, c7, rfl⟩ := own_slice o7
        rw [← ints_append, HE.out] at o7
        have hb7 := hb6.trans h7
        clear o5 r6 h7 hb6 hs6 b6'
        go_wp2_with fail
        refine ⟨⟨k + 1, m + m1, A7, c7, hk1', by go_num, rfl, by omega, o7, hb7⟩, ?_⟩
        simp [intOf]
        omega
    · have hkn : k = n := by omega
      subst hkn
      rw [List.take_of_length_le (by rw [entT_len, mm_len, HL.out]; exact Nat.le_refl _)] at ok
      have HE2 : Hid (leb k ++ encT (entT (mm es)) = leb k ++ encT (entT (mm es)) ++ encL ((entL (mm es)).take 0)) := Lib.hid (by simp [encL])
      rw [HE2.out] at ok
      clear hlt
      go_wp2_with fail
      rename World => wr0
      go_loopw [5, 9] (fun s5 s9 wr => ∃ (j m : Nat) (A : Option Addr) (c : Nat), j ≤ k ∧ s9 = .int .i64 j ∧ s5 = .slice A m c ∧ m ≤ 300 + 5000 * j ∧ wr.ownsRow w.heap.size 5 1 (.slice A m c) m (ints .u8 (leb k ++ encT (entT (mm es)) ++ encL ((entL (mm es)).take j))) ∧ Below w.heap.size w wr) (fun _ i _ => k - (intOf i).toNat)
      case atStart => exact ⟨0, m, A5, c5, Nat.zero_le _, rfl, rfl, by omega, ok, hb⟩
      case round =>
        obtain ⟨j, m, A5, c5, hj, rfl, rfl, hm, oj, hbj⟩ := hrel
        rename World => wr
        by_cases hlt : j < k
        · have hlt' : (j : Int) < (k : Int) := by omega
          obtain ⟨s, hs⟩ : ∃ s, (es.getD j (0, ByteArray.empty)).2 = s := ⟨_, rfl⟩
          have c2 := (HCl.out wr hbj j hlt).2
          rw [hs] at c2
          obtain ⟨_, e2, e3⟩ := HP.out j hlt
          rw [hs] at e2 e3
          have HE : Hid (leb k ++ encT (entT (mm es)) ++ encL ((entL (mm es)).take j) ++ (leb s.size ++ nums s) = leb k ++ encT (entT (mm es)) ++ encL ((entL (mm es)).take (j + 1))) := Lib.hid (by
            rw [take_snoc [] (by rw [entL_len, mm_len, HL.out]; exact hlt), encL_snoc, e2, nums_len, List.append_assoc _ _ (leb s.size ++ nums s)])
          have hls : (leb s.size ++ nums s).length ≤ 5000 := by
            have := leb_len8 (n := s.size) (by omega)
            rw [List.length_append, nums_len]; omega
          have hj1 : j + 1 ≤ k := hlt
          obtain ⟨m1, hm1⟩ : ∃ m, (leb s.size ++ nums s).length = m := ⟨_, rfl⟩
          rw [hm1] at hls
          have CT := fun w' => rtB s m1 w' e3 hm1
          obtain ⟨Sx, hSx⟩ : ∃ l, leb s.size ++ nums s = l := ⟨_, rfl⟩
          obtain ⟨Lj, hLj⟩ : ∃ l, leb k ++ encT (entT (mm es)) ++ encL ((entL (mm es)).take j) = l := ⟨_, rfl⟩
          rw [hSx] at CT
          rw [hLj] at oj
          replace CT := Lib.hid CT
          replace HE : Hid (Lj ++ Sx = leb k ++ encT (entT (mm es)) ++ encL ((entL (mm es)).take (j + 1))) := Lib.hid (by rw [← hLj, ← hSx]; exact HE.out)
          have HOj := Lib.hid oj
          have HB := Lib.hid hbj
          clear hm1 hs e2 hbj oj hSx hLj
          go_wp2_with fail
          with_reducible refine (CT.out wr).mono ?_
          rintro e w6 ⟨A6, c6, rfl, o6, b6⟩
          have r6 := Row.own o6
          have o5 := own_on HOj.out b6
          have hb6 := next HB.out b6
          have hs6 := hb6.size
          clear o6 c2
          go_wp2_with (at_builtin; refine wpList_app _ rfl (.tmp 74) (.tmp 75) 24 rfl w.heap.size 5 i0 (.int .u8 0) 1 Tryd.underlying24 hi hz0 hz1 hz2 rfl _ _ _ rfl o5 _ _ _ _ _ rfl r6 (ints_one _ _) (by unfold maxLen; omega) (by omega) hs6 ?_)
          intro v7 w7 o7 _ h7
          obtain ⟨A7, c7, rfl⟩ := own_slice o7
          rw [← ints_append, HE.out] at o7
          have hb7 := hb6.trans h7
          clear o5 r6 h7 hb6 hs6 b6
          go_wp2_with fail
          refine ⟨⟨j + 1, m + m1, A7, c7, hj1, by go_num, rfl, by omega, o7, hb7⟩, ?_⟩
          simp [intOf]
          omega
        · have hjk : j = k := by omega
          subst hjk
          rw [List.take_of_length_le (by rw [entL_len, mm_len, HL.out]; exact Nat.le_refl _)] at oj
          have HF : Hid (leb j ++ encT (entT (mm es)) ++ encL (entL (mm es)) = encB (mm es)) := Lib.hid (by rw [encB, mm_len, HL.out, List.append_assoc])
          rw [HF.out] at oj
          have hE2 := encB_u8 HK.out (mm_u8 es)
          obtain ⟨L, hL⟩ : ∃ L, encB (mm es) = L := ⟨_, rfl⟩
          rw [hL] at oj hE2
          have HU : Hid (U8 L) := Lib.hid (show U8 L from hE2)
          have HLe := Lib.hid hL
          have hln : L.length = m := by have := oj.1; rwa [ints_len, Nat.mul_one] at this
          have hpl : Hid ((putB L).length = m + 4) := Lib.hid (by rw [putB, List.length_append, rowI_len, hln])
          have CP := rPut_at A5 c5 _ m L wr (Row.own oj) (Nat.le_refl _) HU.out (by omega)
          have HBj := Lib.hid hbj
          clear hln hL hE2 hbj oj hlt HF
          go_wp2_with fail
          with_reducible refine CP.mono ?_
          rintro e w9 ⟨A9, c9, rfl, o9, b9⟩
          have hF : Out w (putB L) 0 (.returned (.tuple #[.slice A9 (m + 4) c9, .int .i64 0])) w9 :=
            ⟨A9, c9, by rw [hpl.out], by rw [hpl.out]; exact own_low o9 HBj.out.size, next HBj.out b9⟩
          have HF := Lib.hid hF
          clear hF o9 b9
          go_wp2
          go_ret2
          rw [HLe.out]
          exact HF.out
theorem rPack_any (A : Option Addr) (n c : Nat) (es : List (Int × ByteArray)) (w : World) (hr : RowE w w.heap.size A n es) (hn : n ≤ 9223372036854775807) :
    Calls Tryd.prog 12 #[.slice A n c] w (Out w (packL es) (chkB (mm es))) := by
  by_cases hk : chkB (mm es) = 0
  · rw [packL, if_pos hk, hk]
    exact rPack_ok A n c es w hr hk
  · have HP : Hid (packL es = []) := Lib.hid (by rw [packL, if_neg hk])
    have HC := Lib.hid (rCheck_any A n c es w hr hn)
    obtain ⟨x, hx⟩ : ∃ x, chkB (mm es) = x := ⟨_, rfl⟩
    rw [hx] at HC hk
    rw [HP.out, hx]
    have hb : (x != 0) = true := by simp [bne, hk]
    clear hr hx hk HP
    go_enter Tryd.func12, Tryd.ntmps12
    go_wp2_with fail
    with_reducible refine HC.out.mono ?_
    rintro e w1 ⟨rfl, b1⟩
    go_wp2
    go_ret2
    exact ⟨none, 0, rfl, World.ownsRow_nil _ _ _ _, b1⟩
end Go.Proofs.YtpeepolmbcakbaaDoor
