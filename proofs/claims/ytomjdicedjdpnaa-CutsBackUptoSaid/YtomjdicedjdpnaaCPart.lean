/- The document's part. -/
import Derived.Test.YtomjdicedjdpnaaCMath
import Derived.Test.YtomjdicedjdpnaaLZName
namespace Go.Proofs.Ytomjdicedjdpnaa
open Go.RowKit

/-- How many bytes a capture takes. -/
def capS (L : List Nat) : Nat := if capN L = [] then 0 else (capN L).length + 2
theorem ext_bl (s : ByteArray) (i j : Nat) : bl (s.extract i j) = ((bl s).take j).drop i := bl_extract s i j
theorem name_und : nmS ⟨#[95]⟩ = true := by rfl
theorem capN_at {t : List Nat} {k : Nat} (hk : k < t.length) (h0 : 62 ∉ t.take k) (h : t.getD k 0 = 62) : capN (60 :: t) = if nameB (t.take k) = true then t.take k else [] := by
  have hs : t = t.take k ++ 62 :: t.drop (k + 1) := by
    have e : t[k] = 62 := by rw [← h, List.getD_eq_getElem?_getD, List.getElem?_eq_getElem hk]; rfl
    have h2 := (List.take_append_drop k t).symm
    rwa [List.drop_eq_getElem_cons hk, e] at h2
  by_cases hn : nameB (t.take k) = true
  · rw [if_pos hn]
    conv => lhs; rw [hs]
    exact capN_of _ hn
  · rw [if_neg hn, capN_cons, if_neg]
    rintro ⟨_, _, k3⟩
    rw [hs, pre62_app _ h0] at k3
    exact hn k3
theorem capN_never {t : List Nat} (h : 62 ∉ t) : capN (60 :: t) = [] := by rw [capN_cons, if_neg (fun k => h k.2.1)]
set_option maxRecDepth 100000 in
set_option maxHeartbeats 4000000 in
theorem rPart18_any (s : ByteArray) (hsz : s.size ≤ 1000000) (w : World) : Calls Try.prog 29 #[.string s] w fun e w' => e = .returned (.tuple #[.string (ofl (capN (bl s))), .int .i64 (capS (bl s) : Int)]) ∧ w = w' := by
  rcases hL : bl s with _ | ⟨c, t⟩
  · have h0 := empty_yes hL
    clear hL
    go_enter Try.func29, Try.ntmps29
    go_wp2_with fail
    go_ret2
    exact ⟨rfl, rfl⟩
  · obtain ⟨hc8, hln, h00, h0⟩ := first_byte hL
    have hne := isEmpty_no hL
    have HL := Lib.hid hL
    have hs0 : (0 : Int) < (s.size : Int) := by omega
    by_cases hc : c = 60
    · subst hc
      have HS := Lib.hid hln
      have HN : Hid (∀ j, t.getD j 0 = (bl s).getD (j + 1) 0) := Lib.hid (fun j => by rw [hL]; rfl)
      have hs1 : 1 ≤ s.size := by omega
      clear hL hln
      go_enter Try.func29, Try.ntmps29
      go_wp2_with fail
      go_loopw [4] (fun i wr => ∃ k : Nat, k + 1 ≤ s.size ∧ i = .int .i64 ((k + 1 : Nat) : Int) ∧ Hid (62 ∉ t.take k) ∧ w = wr) (fun i _ => s.size - (intOf i).toNat)
      case atStart => exact ⟨0, hs1, rfl, Lib.hid (by simp), rfl⟩
      case round =>
        obtain ⟨k, hk, rfl, HT, rfl⟩ := hrel
        by_cases hlt : k + 1 < s.size
        · obtain ⟨d, hd, hd2, hat⟩ := str_at hlt
          rw [← HN.out k] at hd
          have hkt : k < t.length := by have := HS.out; omega
          obtain ⟨q, hq⟩ : ∃ q, k + 1 = q := ⟨_, rfl⟩
          have hq1 : 1 ≤ q := by omega
          have hlq : q < s.size := by omega
          have hat2 : (s[q]'hlq).toNat = d := by subst hq; exact hat
          have hkq : q ≤ s.size := by omega
          clear hat
          have HKl := Lib.hid hlq
          simp only [hq]
          clear hlt hk
          have g0 : (0 : Int) ≤ (q : Int) := by omega
          have g1 : (q : Int) < (s.size : Int) := by omega
          have g2 : (1 : Int) ≤ (q : Int) := by omega
          have g3 : (q : Int) ≤ (s.size : Int) := by omega
          have f2 : decide ((q : Int) < (s.size : Int)) = true := decide_eq_true g1
          have HK := Lib.hid (And.intro hkt (And.intro hd hq))
          by_cases h62 : d = 62
          · subst h62
            have hX : bl (s.extract 1 q) = t.take k := by rw [ext_bl, HL.out, ← hq]; rfl
            have hcap := capN_at hkt HT.out hd
            have hlen : (t.take k).length = k := by rw [List.length_take]; omega
            obtain ⟨X, hXe⟩ : ∃ X, s.extract 1 q = X := ⟨_, rfl⟩
            rw [hXe] at hX
            have hoX : ofl (t.take k) = X := by rw [← hX]; exact bl_inj (bl_ofl (bl_byt X))
            by_cases hu : X = ⟨#[95]⟩
            · have hn : nameB (t.take k) = true := by rw [← hX, hu]; exact name_und
              rw [if_pos hn] at hcap
              have HR : Hid (ofl (capN (60 :: t)) = X ∧ (capS (60 :: t) : Int) = (q : Int) + 1) := Lib.hid (by
                unfold capS
                rw [hcap, if_neg (nameB_chars hn).1, hlen]
                exact ⟨hoX, by omega⟩)
              have t1 : (X.toList == [95]) = true := (lit_eq X [95]).trans (decide_eq_true hu)
              clear hX hcap hlen hoX hu hn hd hkt hq hd2
              go_wp2_with fail
              go_ret2
              rw [HR.out.1, HR.out.2]
              exact ⟨rfl, rfl⟩
            · have t1 : (X.toList == [95]) = false := (lit_eq X [95]).trans (decide_eq_false hu)
              have HI := Lib.hid (rIsName_any X)
              have hnm : nmS X = nameB (t.take k) := by unfold nmS; rw [hX]
              cases hn : nameB (t.take k) with
              | true =>
                rw [if_pos hn] at hcap
                have HR : Hid (ofl (capN (60 :: t)) = X ∧ (capS (60 :: t) : Int) = (q : Int) + 1) := Lib.hid (by
                  unfold capS
                  rw [hcap, if_neg (nameB_chars hn).1, hlen]
                  exact ⟨hoX, by omega⟩)
                rw [hn] at hnm
                rw [hnm] at HI
                clear hX hcap hlen hoX hu hn hd hkt hq hd2 hnm
                go_wp2_with fail
                with_reducible refine (HI.out _).mono ?_
                rintro e w2 ⟨rfl, rfl⟩
                go_wp2_with fail
                go_ret2
                rw [HR.out.1, HR.out.2]
                exact ⟨rfl, rfl⟩
              | false =>
                rw [if_neg (by rw [hn]; simp)] at hcap
                have HR : Hid (capN (60 :: t) = []) := Lib.hid hcap
                rw [hn] at hnm
                rw [hnm] at HI
                clear hX hcap hlen hoX hu hn hd hkt hq hd2 hnm
                go_wp2_with fail
                with_reducible refine (HI.out _).mono ?_
                rintro e w2 ⟨rfl, rfl⟩
                go_wp2_with fail
                go_ret2
                unfold capS
                rw [HR.out]
                exact ⟨rfl, rfl⟩
          · have t2 : (((d : Nat) : Int) == 62) = false := by rw [beq_eq_false_iff_ne]; omega
            have HT2 : Hid (62 ∉ t.take (k + 1)) := Lib.hid (by
              rw [List.take_succ_eq_append_getElem hkt]
              have e : t[k] = d := by rw [← hd, List.getD_eq_getElem?_getD, List.getElem?_eq_getElem hkt]; rfl
              rw [e]
              intro m
              rcases List.mem_append.1 m with m | m
              · exact HT.out m
              · exact h62 (List.mem_singleton.1 m).symm)
            clear hd hkt hd2 h62 hq
            go_wp2_with fail
            exact ⟨⟨k + 1, by have := HKl.out; have := HK.out.2.2; omega, by have := HK.out.2.2; subst this; go_num, HT2, trivial⟩, by have := HKl.out; simp [intOf]; omega⟩
        · have HF : Hid (capN (60 :: t) = []) := Lib.hid (capN_never (by
            have h := HT.out
            rwa [List.take_of_length_le (by have := HS.out; omega)] at h))
          have f2 : decide (((k + 1 : Nat) : Int) < (s.size : Int)) = false := decide_eq_false (by omega)
          go_wp2_with fail
          go_ret2
          unfold capS
          rw [HF.out]
          exact ⟨rfl, rfl⟩
    · have t1 : ((c : Int) == 60) = false := by rw [beq_eq_false_iff_ne]; omega
      have HF : Hid (capN (c :: t) = []) := Lib.hid (capN_other t hc)
      clear hL hln hc
      go_enter Try.func29, Try.ntmps29
      go_wp2_with fail
      go_ret2
      unfold capS
      rw [HF.out]
      exact ⟨rfl, rfl⟩
end Go.Proofs.Ytomjdicedjdpnaa
