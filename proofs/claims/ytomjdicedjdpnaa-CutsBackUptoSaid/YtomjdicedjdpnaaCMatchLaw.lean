/- CutsMatch, walked. -/
import Derived.Test.YtomjdicedjdpnaaCStrs
namespace Go.Proofs.Ytomjdicedjdpnaa
open Go.RowKit

theorem ofl_sz (l : List Nat) : (ofl l).size = l.length := by simp [ofl, ByteArray.size]
theorem caps_small {p : ByteArray} (hp : p.size ≤ 400) : (ofl (segs 0 (bl p)).1).size ≤ 1000000 ∧ ∀ x ∈ capsL (bl p), x.2.size ≤ 1000000 := by
  have h := segs_len 0 (bl p)
  rw [bl_len] at h
  refine ⟨by rw [ofl_sz]; omega, fun x hx => ?_⟩
  unfold capsL at hx
  obtain ⟨y, hy, rfl⟩ := List.mem_map.1 hx
  have := (h.2.2 y hy).2
  rw [ofl_sz]
  omega
/-- What Match answers, in one form. -/
def MFl (w : World) (r : Option (List Lb)) (e : Ending) (w' : World) : Prop :=
  ∃ A n c, e = .returned (.tuple #[.slice A n c, .bool r.isSome]) ∧ Below w.heap.size w w' ∧ RowL w' w'.heap.size A n (r.getD [])
theorem MOut.flat {w w' : World} {r : Option (List Lb)} {e : Ending} (h : MOut w r e w') : MFl w r e w' := by
  rcases h with ⟨b, ⟨rfl, rfl⟩ | ⟨l, A, n, c, rfl, rfl, hr, _, _⟩⟩
  · exact ⟨none, 0, 0, rfl, b, rfl, fun h => absurd h (by omega)⟩
  · exact ⟨A, n, c, rfl, b, hr⟩
theorem put_len (n v : ByteArray) (acc : List Lb) : (putN n v acc).length ≤ acc.length + 1 := by
  unfold putN
  split
  · omega
  · exact set_len n v
theorem go_len : ∀ (l : List Lb) (left : ByteArray) (acc : List Lb), ((goM l left acc).getD []).length ≤ acc.length + l.length
  | [], left, acc => by simp [goM]
  | (n, lit) :: r, left, acc => by
    unfold goM
    split
    · have := go_len r ByteArray.empty (putN n left acc)
      have := put_len n left acc
      simp only [List.length_cons]
      omega
    · split
      · simp
      · have := go_len r (left.extract ((idx left lit).toNat + lit.size) left.size) (putN n (left.extract 0 (idx left lit).toNat) acc)
        have := put_len n (left.extract 0 (idx left lit).toNat) acc
        simp only [List.length_cons]
        omega
theorem match_len (A : ByteArray) (l : List Lb) (line : ByteArray) : ((matchC A l line).getD []).length ≤ l.length := by
  unfold matchC
  split
  · have := go_len l (line.extract A.size line.size) []
    simpa using this
  · simp
theorem same_self (A A' : Option Addr) (n m c c' : Nat) (l : List Lb) (w : World) (hr : RowL w w.heap.size A n l) (hs : RowL w w.heap.size A' m l) (hl : l.length ≤ 1000) : Calls Try.prog 13 #[.slice A n c, .slice A' m c'] w fun e w' => e = .returned (.bool true) ∧ Below w.heap.size w w' := by
  have h := same18_any A A' n m c c' l l w hr hs (by have := hr.1; omega) (by have := hs.1; omega)
  rwa [decide_eq_true rfl] at h
theorem names_few {p : List Nat} (h : okC p) : (nmsL (capsL p)).length ≤ 1000 := by
  unfold nmsL
  refine Nat.le_trans (List.length_filter_le _ _) ?_
  rw [List.length_map]
  have := caps_len p
  have := h.1
  omega
theorem texts_self (A A' : Option Addr) (n c c' : Nat) (l : List ByteArray) (w : World) (hr : Row w w.heap.size A n (strs l)) (hs : Row w w.heap.size A' n (strs l)) (hn : n ≤ 100000000) : Calls Try.prog 14 #[.slice A n c, .slice A' n c'] w fun e w' => e = .returned (.bool true) ∧ Below w.heap.size w w' := by
  have h := texts_any A A' n n c c' l l w hr hs hn hn
  rwa [decide_eq_true rfl] at h
set_option maxRecDepth 100000 in
set_option maxHeartbeats 8000000 in
theorem CutsMatch_in (s : ByteArray) (A : Option Addr) (es : List ByteArray) (c : Nat) (w : World) (hs : s.size ≤ 140737488351232) (hr : Row w w.heap.size A es.length (strs es)) (_ : es.length ≤ c) (_ : ∀ x ∈ es, x.size ≤ maxLen) (hM : MX w) :
    Calls Try.prog 3 #[.string s, .slice A es.length c] w fun e w' => e = .returned (.bool true) ∧ Below w.heap.size w w' := by
  obtain ⟨n, hn⟩ : ∃ n, es.length = n := ⟨_, rfl⟩
  rw [hn] at hr ⊢
  have HN := Lib.hid hn
  obtain ⟨k, hk⟩ : ∃ k : Nat, min (s.size : Int) 400 = (k : Int) := ⟨min s.size 400, by omega⟩
  have hk2 : (k : Int) ≤ (s.size : Int) := by omega
  have hk0 : (0 : Int) ≤ (k : Int) := by omega
  obtain ⟨p, hp⟩ : ∃ t, s.extract 0 k = t := ⟨_, rfl⟩
  have hps : p.size ≤ 400 := by rw [← hp, ByteArray.size_extract]; omega
  have HC := Lib.hid (New_any p (by omega) w hM)
  have HC2 := Lib.hid (fun v (h : MX v) => rNew_any p (by omega) v)
  have HR := Lib.hid hr
  have HM := Lib.hid hM
  clear hr hM hs hn
  go_enter Try.func3, Try.ntmps3
  go_wp2_with fail
  with_reducible refine HC.out.mono ?_
  rintro e w1 ⟨b1, ⟨hok, b, rfl, hc⟩ | ⟨hno, rfl⟩⟩
  · have HB := Lib.hid b1
    have HC1 := Lib.hid hc
    replace HM := Lib.hid (HM.out.on b1)
    replace HR := Lib.hid (HR.out.on b1)
    have C := Lib.hid (HC2.out w1 HM.out)
    clear b1 hc HC HC2
    go_wp2_with fail
    with_reducible refine C.out.mono ?_
    rintro e w2 ⟨b2, ⟨_, b', rfl, hc2⟩ | ⟨hno, rfl⟩⟩
    · replace HB := Lib.hid (next HB.out b2)
      replace HC1 := Lib.hid (HC1.out.on b2)
      replace HM := Lib.hid (HM.out.on b2)
      replace HR := Lib.hid (HR.out.on b2)
      have HC2 := Lib.hid hc2
      have HK := Lib.hid (And.intro hok hps)
      clear C b2 hc2 hok hps hk hk2 hk0 hp
      go_wp2_with fail
      go_loopw [9] (fun i v => ∃ j : Nat, j ≤ n ∧ j ≤ 10 ∧ i = .int .i64 (j : Int) ∧ Hid (Below w2.heap.size w2 v)) (fun i _ => 10 - (intOf i).toNat)
      case atStart => exact ⟨0, by omega, by omega, rfl, Lib.hid (Below.refl _ _)⟩
      case round =>
        obtain ⟨j, hj, hj10, rfl, HBw⟩ := hrel
        rename World => v
        by_cases h10 : j < 10
        · have d10 : (j : Int) < 10 := by omega
          have f10 : decide ((j : Int) < 10) = true := decide_eq_true d10
          by_cases hjn : j < n
          · have djn : (j : Int) < (n : Int) := by omega
            have fjn : decide ((j : Int) < (n : Int)) = true := decide_eq_true djn
            have g0 : (0 : Int) ≤ (j : Int) := by omega
            obtain ⟨b0, off, rfl, hb1, h1⟩ := HR.out.2 (by omega)
            have hjl : j < es.length := by rw [HN.out]; exact hjn
            have a1 := (HBw.out.cell (p := ⟨b0, off + j, none⟩) hb1).trans ((h1 j hjn).trans (strs_get _ _ hjl))
            obtain ⟨x, hx⟩ : ∃ x, es.getD j ByteArray.empty = x := ⟨_, rfl⟩
            rw [hx] at a1
            obtain ⟨m, hm⟩ : ∃ m : Nat, min (x.size : Int) 2000 = (m : Int) := ⟨min x.size 2000, by omega⟩
            have hm2 : (m : Int) ≤ (x.size : Int) := by omega
            have hm0 : (0 : Int) ≤ (m : Int) := by omega
            obtain ⟨t, ht⟩ : ∃ t, x.extract 0 m = t := ⟨_, rfl⟩
            have hts : t.size ≤ 2000 := by rw [← ht, ByteArray.size_extract]; omega
            have hsm := caps_small HK.out.2
            have HJ := Lib.hid h10
            have HJn := Lib.hid hjn
            have HB0 := Lib.hid (Nat.lt_of_lt_of_le hb1 HBw.out.size)
            obtain ⟨r, hr⟩ : ∃ r, matchC (ofl (segs 0 (bl p)).1) (capsL (bl p)) t = r := ⟨_, rfl⟩
            have HS0 : Hid (Below v.heap.size v v.drew ∧ v.drew.cell? ⟨b0, off + j, none⟩ = some (.string x)) := Lib.hid ⟨(Below.refl _ _).drew, a1⟩
            have C := Lib.hid (fun v' (h : Below v.heap.size v v' ∧ v'.cell? ⟨b0, off + j, none⟩ = some (.string x)) => (show Calls Try.prog 11 #[.pointer (some ⟨b, 0, none⟩), .string t] v' (MFl v' r) from hr ▸ (Match_any b _ _ t v' ((HC1.out.on HBw.out).on h.1) (caps_ne HK.out.1) (Nat.le_trans (okC_len HK.out.1) (by omega)) (by omega) ((HM.out.on HBw.out).on h.1)).mono fun _ _ k => k.flat))
            have CR := Lib.hid (fun v' (h : Below v.heap.size v v' ∧ v'.cell? ⟨b0, off + j, none⟩ = some (.string x)) => (show Calls Try.prog 12 #[.pointer (some ⟨b', 0, none⟩), .string t] v' (MFl v' r) from hr ▸ (rMatch_any b' _ _ t v' ((HC2.out.on HBw.out).on h.1) (Nat.le_trans (okC_len HK.out.1) (by omega)) hsm.1 hsm.2 (by omega)).mono fun _ _ k => k.flat))
            have HL : Hid ((r.getD []).length ≤ 1000) := Lib.hid (by rw [← hr]; exact Nat.le_trans (match_len _ _ _) (Nat.le_trans (okC_len HK.out.1) (by omega)))
            clear hsm h1 hx hb1 hts hr
            go_wp2_with fail
            go_region_held3 (fun w' => Below v.heap.size v w' ∧ w'.cell? ⟨b0, off + j, none⟩ = some (.string x)) (first | exact HS0.out | assumption)
              ((first
                | (go_at_call 11
                   with_reducible refine (C.out _ (by first | exact HS0.out | assumption)).mono ?_
                   rintro e v1 ⟨A1, n1, c1, rfl, b1, r1⟩
                   have S1 : Below v.heap.size v v1 ∧ v1.cell? ⟨b0, off + j, none⟩ = some (.string x) := ⟨next HS0.out.1 b1, (b1.cell (p := ⟨b0, off + j, none⟩) HB0.out).trans HS0.out.2⟩)))
            have HS1 : Hid (Below v.heap.size v v1.drew ∧ v1.drew.cell? ⟨b0, off + j, none⟩ = some (.string x)) := Lib.hid ⟨S1.1.drew, S1.2⟩
            have HB0' := Lib.hid (Nat.lt_of_lt_of_le HB0.out S1.1.size)
            have a2 := S1.2
            have HR1 := Lib.hid r1
            clear b1 r1 S1 a1 HS0 C
            rename_i hHeld
            clear hHeld
            go_wp2_with fail
            go_region_held3 (fun w' => Below v.heap.size v w' ∧ w'.cell? ⟨b0, off + j, none⟩ = some (.string x)) (first | exact HS1.out | assumption)
              ((first
                | (go_at_call 12
                   with_reducible refine (CR.out _ (by first | exact HS1.out | assumption)).mono ?_
                   rintro e v2 ⟨A2, n2, c2, rfl, b2, r2⟩
                   have S2 : Below v.heap.size v v2 ∧ v2.cell? ⟨b0, off + j, none⟩ = some (.string x) := ⟨next HS1.out.1 b2, (b2.cell (p := ⟨b0, off + j, none⟩) HB0'.out).trans HS1.out.2⟩)))
            replace HR1 := Lib.hid ((HR1.out.on (Below.refl _ _).drew).on b2)
            have HR2 := Lib.hid r2
            have HB2 := Lib.hid S2.1
            have hlr := HL.out
            have C := Lib.hid (same_self A1 A2 n1 n2 c1 c2 (r.getD []) v2 HR1.out HR2.out hlr)
            generalize r.isSome = q at *
            have qq : (q == q) = true := beq_self_eq_true q
            clear b2 r2 S2 HS1 CR hlr
            go_wp2_with fail
            with_reducible refine C.out.mono ?_
            rintro e v3 ⟨rfl, b3⟩
            have HB3 := Lib.hid (next HBw.out (next HB2.out b3))
            clear b3 C
            go_wp2_with fail
            exact ⟨⟨j + 1, HJn.out, HJ.out, by go_num, HB3⟩, by have := HJ.out; simp [intOf]; omega⟩
          · have djn : ¬ (j : Int) < (n : Int) := by omega
            have fjn : decide ((j : Int) < (n : Int)) = false := decide_eq_false djn
            clear hjn
            have HB9 := Lib.hid (next HB.out HBw.out)
            have C := Lib.hid (Names_any b _ _ v (HC1.out.on HBw.out) (Nat.le_trans (okC_len HK.out.1) (by omega)))
            have C2 := Lib.hid (fun u (h : Below v.heap.size v u) => rNames_any b' _ _ u ((HC2.out.on HBw.out).on h) (Nat.le_trans (okC_len HK.out.1) (by omega)))
            have C3 := Lib.hid (fun u (h : Below v.heap.size v u) => works_any u ((HM.out.on HBw.out).on h))
            obtain ⟨ss, hss⟩ : ∃ ss, nmsL (capsL (bl p)) = ss := ⟨_, rfl⟩
            rw [hss] at C C2
            have hsl : ss.length ≤ 1000 := by rw [← hss]; exact names_few HK.out.1
            clear hss
            go_wp2_with fail
            with_reducible refine C.out.mono ?_
            rintro e y1 ⟨A1, c1, rfl, o1, b1⟩
            replace C := Lib.hid (C2.out y1 b1)
            have HY := Lib.hid b1
            have HO := Lib.hid o1
            clear b1 o1 C2
            go_wp2_with fail
            with_reducible refine C.out.mono ?_
            rintro e y2 ⟨A2, c2, rfl, o2, b2⟩
            replace HO := Lib.hid ((Row.own HO.out).on b2)
            have HO2 := Lib.hid (Row.own o2)
            replace HY := Lib.hid (next HY.out b2)
            replace C := Lib.hid (texts_self A1 A2 _ c1 c2 ss y2 HO.out HO2.out (by omega))
            clear b2 o2
            go_wp2_with fail
            with_reducible refine C.out.mono ?_
            rintro e y3 ⟨rfl, b3⟩
            replace HY := Lib.hid (next HY.out b3)
            replace C := Lib.hid (C3.out y3 HY.out)
            clear b3
            go_wp2_with fail
            with_reducible refine C.out.mono ?_
            rintro e y4 ⟨rfl, b4⟩
            replace HY := Lib.hid (next HB9.out (next HY.out b4))
            go_wp2_with fail
            go_ret
            exact ⟨rfl, HY.out⟩
        · have djn : ¬ (j : Int) < 10 := by omega
          have fjn : decide ((j : Int) < 10) = false := decide_eq_false djn
          by_cases hjn : j < n
          · have djn : (j : Int) < (n : Int) := by omega
            have fjn : decide ((j : Int) < (n : Int)) = true := decide_eq_true djn
            have HB9 := Lib.hid (next HB.out HBw.out)
            have C := Lib.hid (Names_any b _ _ v (HC1.out.on HBw.out) (Nat.le_trans (okC_len HK.out.1) (by omega)))
            have C2 := Lib.hid (fun u (h : Below v.heap.size v u) => rNames_any b' _ _ u ((HC2.out.on HBw.out).on h) (Nat.le_trans (okC_len HK.out.1) (by omega)))
            have C3 := Lib.hid (fun u (h : Below v.heap.size v u) => works_any u ((HM.out.on HBw.out).on h))
            obtain ⟨ss, hss⟩ : ∃ ss, nmsL (capsL (bl p)) = ss := ⟨_, rfl⟩
            rw [hss] at C C2
            have hsl : ss.length ≤ 1000 := by rw [← hss]; exact names_few HK.out.1
            clear hss
            go_wp2_with fail
            with_reducible refine C.out.mono ?_
            rintro e y1 ⟨A1, c1, rfl, o1, b1⟩
            replace C := Lib.hid (C2.out y1 b1)
            have HY := Lib.hid b1
            have HO := Lib.hid o1
            clear b1 o1 C2
            go_wp2_with fail
            with_reducible refine C.out.mono ?_
            rintro e y2 ⟨A2, c2, rfl, o2, b2⟩
            replace HO := Lib.hid ((Row.own HO.out).on b2)
            have HO2 := Lib.hid (Row.own o2)
            replace HY := Lib.hid (next HY.out b2)
            replace C := Lib.hid (texts_self A1 A2 _ c1 c2 ss y2 HO.out HO2.out (by omega))
            clear b2 o2
            go_wp2_with fail
            with_reducible refine C.out.mono ?_
            rintro e y3 ⟨rfl, b3⟩
            replace HY := Lib.hid (next HY.out b3)
            replace C := Lib.hid (C3.out y3 HY.out)
            clear b3
            go_wp2_with fail
            with_reducible refine C.out.mono ?_
            rintro e y4 ⟨rfl, b4⟩
            replace HY := Lib.hid (next HB9.out (next HY.out b4))
            go_wp2_with fail
            go_ret
            exact ⟨rfl, HY.out⟩
          · have djn : ¬ (j : Int) < (n : Int) := by omega
            have fjn : decide ((j : Int) < (n : Int)) = false := decide_eq_false djn
            have HB9 := Lib.hid (next HB.out HBw.out)
            have C := Lib.hid (Names_any b _ _ v (HC1.out.on HBw.out) (Nat.le_trans (okC_len HK.out.1) (by omega)))
            have C2 := Lib.hid (fun u (h : Below v.heap.size v u) => rNames_any b' _ _ u ((HC2.out.on HBw.out).on h) (Nat.le_trans (okC_len HK.out.1) (by omega)))
            have C3 := Lib.hid (fun u (h : Below v.heap.size v u) => works_any u ((HM.out.on HBw.out).on h))
            obtain ⟨ss, hss⟩ : ∃ ss, nmsL (capsL (bl p)) = ss := ⟨_, rfl⟩
            rw [hss] at C C2
            have hsl : ss.length ≤ 1000 := by rw [← hss]; exact names_few HK.out.1
            clear hss
            go_wp2_with fail
            with_reducible refine C.out.mono ?_
            rintro e y1 ⟨A1, c1, rfl, o1, b1⟩
            replace C := Lib.hid (C2.out y1 b1)
            have HY := Lib.hid b1
            have HO := Lib.hid o1
            clear b1 o1 C2
            go_wp2_with fail
            with_reducible refine C.out.mono ?_
            rintro e y2 ⟨A2, c2, rfl, o2, b2⟩
            replace HO := Lib.hid ((Row.own HO.out).on b2)
            have HO2 := Lib.hid (Row.own o2)
            replace HY := Lib.hid (next HY.out b2)
            replace C := Lib.hid (texts_self A1 A2 _ c1 c2 ss y2 HO.out HO2.out (by omega))
            clear b2 o2
            go_wp2_with fail
            with_reducible refine C.out.mono ?_
            rintro e y3 ⟨rfl, b3⟩
            replace HY := Lib.hid (next HY.out b3)
            replace C := Lib.hid (C3.out y3 HY.out)
            clear b3
            go_wp2_with fail
            with_reducible refine C.out.mono ?_
            rintro e y4 ⟨rfl, b4⟩
            replace HY := Lib.hid (next HB9.out (next HY.out b4))
            go_wp2_with fail
            go_ret
            exact ⟨rfl, HY.out⟩
    · exact absurd hok hno
  · have HB := Lib.hid b1
    replace HM := Lib.hid (HM.out.on b1)
    have C := Lib.hid (HC2.out w1 HM.out)
    clear b1 HC HC2
    go_wp2_with fail
    with_reducible refine C.out.mono ?_
    rintro e w2 ⟨b2, ⟨hok, b', rfl, hc2⟩ | ⟨_, rfl⟩⟩
    · exact absurd hok hno
    · replace HB := Lib.hid (next HB.out b2)
      have C := Lib.hid (works_any w2 (HM.out.on b2))
      clear b2
      go_wp2_with fail
      with_reducible refine C.out.mono ?_
      rintro e w3 ⟨rfl, b2⟩
      replace HB := Lib.hid (next HB.out b2)
      go_wp2_with fail
      go_ret
      exact ⟨rfl, HB.out⟩
end Go.Proofs.Ytomjdicedjdpnaa
