/- BlockUnpacks: the walk. -/
import Derived.Test.YtpeepolmbcakbaaDoorBRUnpW
namespace Go.Proofs.YtpeepolmbcakbaaDoor
open Go.RowKit

theorem RowE.only {w w' : World} {g n : Nat} {A : Option Addr} {es : List (Int × ByteArray)} (h : RowE w w.heap.size A n es) (ho : Only g w w') (hA : ∀ x, A = some x → x.block ≠ g) : RowE w' w'.heap.size A n es :=
  ⟨h.1, fun h0 => by
    obtain ⟨b, off, e, hb, hc⟩ := h.2 h0
    have hne := hA _ e
    have hk : ∀ i, w'.cell? ⟨b, i, none⟩ = w.cell? ⟨b, i, none⟩ := fun i => World.cell?_of_block (ho.block b hb (fun e' => hne (by injection e')))
    exact ⟨b, off, e, Nat.lt_of_lt_of_le hb ho.size, fun j hj => ⟨(hk _).trans (hc j hj).1, (hk _).trans (hc j hj).2⟩⟩⟩
def UnHigh (w : World) (es : List (Int × ByteArray)) (m : Nat) (x : Int) (e : Ending) (w' : World) : Prop :=
  ∃ A c, e = .returned (.tuple #[.slice A m c, .int .i64 x]) ∧ RowE w' w'.heap.size A m es ∧ (∀ a, A = some a → w.heap.size ≤ a.block) ∧ Below w.heap.size w w'
theorem Unpack_high (A : Option Addr) (n c : Nat) (b : List Int) (w : World) (es : List (Int × ByteArray)) (m : Nat) (x : Int) (h : esU b = es ∧ xU b = x) (hm : es.length = m) (hr : Row w w.heap.size A n (ints .u8 b)) (hn : b.length = n) (hu : U8 b) (hl : n ≤ 150000000000000) (hc : n ≤ c) (hc2 : c ≤ 9223372036854775807) :
    Calls Tryd.prog 19 #[.slice A n c] w (UnHigh w es m x) := by
  obtain ⟨rfl, rfl⟩ := h
  subst hm
  refine (Unpack_any A n c b w hr hn hu hl hc hc2).mono ?_
  rintro e w' ⟨A', c', rfl, o, b'⟩
  exact ⟨A', c', rfl, ecE_own o rfl, fun a e => (o.lt a.block (by rw [e]; rfl)).1, b'⟩
theorem rUnpack_high (A : Option Addr) (n c : Nat) (b : List Int) (w : World) (es : List (Int × ByteArray)) (m : Nat) (x : Int) (h : esU b = es ∧ xU b = x) (hm : es.length = m) (hr : Row w w.heap.size A n (ints .u8 b)) (hn : b.length = n) (hu : U8 b) (hl : n ≤ 150000000000000) (hc : n ≤ c) (hc2 : c ≤ 9223372036854775807) :
    Calls Tryd.prog 20 #[.slice A n c] w (UnHigh w es m x) := by
  obtain ⟨rfl, rfl⟩ := h
  subst hm
  refine (rUnpack_any A n c b w hr hn hu hl hc hc2).mono ?_
  rintro e w' ⟨A', m', c', rfl, rfl, r, hA, b'⟩
  exact ⟨A', c', rfl, r, hA, b'⟩

set_option maxRecDepth 100000 in
set_option maxHeartbeats 4000000 in
theorem BlockUnpacks_wide (A : Option Addr) (l : List Int) (c : Nat) (w : World) (hr : Row w w.heap.size A l.length (ints .u8 l)) (hc : l.length ≤ c) (hcm : c ≤ 9223372036854775807) (hnl : l.length ≤ 140737488351232) (hu : U8 l) :
    Calls Tryd.prog 4 #[.slice A l.length c] w fun e w' => e = .returned (.bool true) ∧ Below w.heap.size w w' := by
  have HU : Hid (U8 l) := Lib.hid hu
  obtain ⟨n, hn⟩ : ∃ n, l.length = n := ⟨_, rfl⟩
  rw [hn] at hr hc hnl ⊢
  have HN := Lib.hid hn
  obtain ⟨es, hes⟩ : ∃ es, esU l = es := ⟨_, rfl⟩
  obtain ⟨m, hm⟩ : ∃ m, es.length = m := ⟨_, rfl⟩
  obtain ⟨x, hx⟩ : ∃ x, xU l = x := ⟨_, rfl⟩
  have hm32 : m ≤ 32 := by rw [← hm, ← hes]; exact esU_small
  have hxx : (x == x) = true := beq_self_eq_true x
  have HE := Lib.hid (And.intro hes hx)
  have HM := Lib.hid hm
  have HCp := Lib.hid (CopyBytes_at A c _ n l w hr (Nat.le_refl _) (by omega))
  have HR := Lib.hid hr
  clear hu hn hes hm hx hr
  go_enter Tryd.func4, Tryd.ntmps4
  go_wp2_with fail
  with_reducible refine HCp.out.mono ?_
  rintro e w1 ⟨A1, c1, rfl, o1, b1⟩
  replace HR := Lib.hid (HR.out.on b1)
  have HB := Lib.hid b1
  have HO := Lib.hid o1
  have hc11 : n ≤ c1 := own_cap o1
  have hc12 : c1 ≤ 9223372036854775807 := by
    rcases o1.2 with ⟨hv, _⟩ | ⟨g, cap, cur, hv, _, _, h1, h2, _⟩
    · injection hv with _ _ h3; omega
    · injection hv with _ _ h3; unfold maxLen at h2; omega
  have C1 := Lib.hid (Unpack_high A1 n c1 l w1 es m x HE.out HM.out (Row.own o1) HN.out HU.out (by omega) hc11 hc12)
  clear HCp b1 o1
  go_wp2_with fail
  with_reducible refine C1.out.mono ?_
  rintro e w2 ⟨A2, c2, rfl, r2, h2, b2⟩
  replace HR := Lib.hid (HR.out.on b2)
  replace HB := Lib.hid (next HB.out b2)
  have HO2 := Lib.hid (own_on HO.out b2)
  have HR2 := Lib.hid r2
  have C2 := Lib.hid (rUnpack_high A n c l w2 es m x HE.out HM.out HR.out HN.out HU.out (by omega) hc hcm)
  have hsz := b2.size
  clear C1 r2 b2
  go_wp2_with fail
  with_reducible refine C2.out.mono ?_
  rintro e w3 ⟨A3, c3, rfl, r3, h3, b3⟩
  replace HB := Lib.hid (next HB.out b3)
  have o3 := own_on HO2.out b3
  replace HR2 := Lib.hid (HR2.out.on b3)
  have HR3 := Lib.hid r3
  have HLo : Hid (∀ a, A1 = some a → a.block < w1.heap.size) := Lib.hid (fun a e => (HO.out.lt a.block (by rw [e]; rfl)).2)
  have H2 := Lib.hid h2
  have H3 := Lib.hid h3
  have hb := HB.out
  have r2' := HR2.out
  clear C2 HO HO2 b3 HB HR2 HR h2 h3 HR3
  go_wp2_with fail
  go_loopw [8] (fun s8 wr => ∃ (j : Nat) (y : List Int), j ≤ n ∧ s8 = .int .i64 j ∧ Hid (y.length = n ∧ U8 y) ∧ wr.ownsRow w.heap.size 5 1 (.slice A1 n c1) n (ints .u8 y) ∧ RowE wr wr.heap.size A2 m es ∧ RowE wr wr.heap.size A3 m es ∧ Below w.heap.size w wr) (fun i _ => n - (intOf i).toNat)
  case atStart => exact ⟨0, l, Nat.zero_le _, rfl, Lib.hid ⟨HN.out, HU.out⟩, o3, r2', r3, hb⟩
  case round =>
    obtain ⟨j, y, hj, rfl, HY, oj, e2, e3, hbj⟩ := hrel
    rename World => wr
    by_cases hlt : j < n
    · have hlt' : (j : Int) < (n : Int) := by omega
      have hj0 : (0 : Int) ≤ (j : Int) := by omega
      have hj1 : j + 1 ≤ n := hlt
      obtain ⟨⟨g, rfl⟩, _, _⟩ := own_some oj (by omega)
      obtain ⟨hgb, _⟩ := oj.lt g rfl
      obtain ⟨z, hz, hgz, _⟩ := byte_at HY.out.2 j (by rw [HY.out.1]; exact hlt)
      have hcell := (oj.cellAt j (by omega)).trans hgz
      have hfz := oj.frozenAt j
      have HX : Hid (bits .xor .u8 (z : Int) 255 = ((z ^^^ 255 : Nat) : Int) ∧ z ^^^ 255 < 256) := Lib.hid ⟨xor8 z 255 hz (by omega), Nat.xor_lt_two_pow (n := 8) hz (by omega)⟩
      have HF : Hid (∀ v : Nat, v < 256 → ∃ y' : List Int, (y'.length = n ∧ U8 y') ∧ (wr.setCell ⟨g, j, none⟩ (.int .u8 (v : Int))).ownsRow w.heap.size 5 1 (.slice (some ⟨g, 0, none⟩) n c1) n (ints .u8 y') ∧ RowE (wr.setCell ⟨g, j, none⟩ (.int .u8 (v : Int))) (wr.setCell ⟨g, j, none⟩ (.int .u8 (v : Int))).heap.size A2 m es ∧ RowE (wr.setCell ⟨g, j, none⟩ (.int .u8 (v : Int))) (wr.setCell ⟨g, j, none⟩ (.int .u8 (v : Int))).heap.size A3 m es ∧ Below w.heap.size w (wr.setCell ⟨g, j, none⟩ (.int .u8 (v : Int)))) := Lib.hid (fun v hv => by
        have on : Only g wr (wr.setCell ⟨g, j, none⟩ (.int .u8 (v : Int))) := (Only.refl g _).put _ _
        have hg1 := HLo.out _ rfl
        refine ⟨y.set j (v : Int), ⟨by rw [List.length_set]; exact HY.out.1, fun x hx => ?_⟩, ?_, e2.only on (fun a e h => ?_), e3.only on (fun a e h => ?_), on.below hbj hgb hbj.size⟩
        · rcases List.mem_or_eq_of_mem_set hx with h1 | rfl
          · exact HY.out.2 x h1
          · omega
        · have := (oj.stored j (.int .u8 (v : Int))).1
          rwa [show (ints .u8 y).set j (.int .u8 (v : Int)) = ints .u8 (y.set j (v : Int)) by simp [ints, List.map_set]] at this
        · have := H2.out a e
          simp only at hg1
          omega
        · have := H3.out a e
          simp only at hg1
          omega)
      clear oj hgz e2 e3 hbj HLo
      go_wp2_with fail
      rw [HX.out.1]
      obtain ⟨y', f1, f2, f3, f4, f5⟩ := HF.out _ HX.out.2
      refine ⟨⟨j + 1, y', hj1, by go_num, Lib.hid f1, f2, f3, f4, f5⟩, ?_⟩
      simp [intOf]
      omega
    · have hjn : j = n := by omega
      subst hjn
      clear hlt hj
      have HSm : Hid (Calls Tryd.prog 16 #[.slice A2 m c2, .slice A3 m c3] wr fun e w' => e = .returned (.bool true) ∧ Below wr.heap.size wr w') := Lib.hid (by
        have := SameE_any A2 A3 m m c2 c3 es es wr e2 e3 (by omega) (by omega)
        rwa [show decide (es = es) = true by simp] at this)
      have HW := Lib.hid hbj
      clear oj e2 e3 hbj
      go_wp2_with fail
      with_reducible refine HSm.out.mono ?_
      rintro e w7 ⟨rfl, b7⟩
      replace HW := Lib.hid (next HW.out b7)
      clear HSm b7
      go_wp2_with fail
      with_reducible refine (awake_true w7).mono ?_
      rintro e w8 ⟨rfl, b8⟩
      have hb8 := next HW.out b8
      go_wp2_with fail
      go_ret
      exact ⟨rfl, hb8⟩
theorem BlockUnpacks_walk (A : Option Addr) (l : List Int) (c : Nat) (w : World) (hr : Row w w.heap.size A l.length (ints .u8 l)) (hc : l.length ≤ c) (hs : c * 1 ≤ 140737488351232) (hw : ∀ x ∈ l, (Lit.int .u8 x).wf = true) :
    Calls Tryd.prog 4 #[.slice A l.length c] w fun e w' => e = .returned (.bool true) ∧ Below w.heap.size w w' :=
  BlockUnpacks_wide A l c w hr hc (by omega) (by omega) (fun x hx => by simpa [Lit.wf, IntKind.min, IntKind.max, IntKind.signed, IntKind.bits] using hw x hx)
end Go.Proofs.YtpeepolmbcakbaaDoor
