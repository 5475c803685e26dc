/- nat.subtract, in place. -/
import Derived.Test.YtlpfcilgndbopaaDoorNSub
import Derived.Deep.RegionWith
namespace Go.Proofs.YtlpfcilgndbopaaDoor
open Go.RowKit

theorem still_left {P : Program} {f : FuncId} {args : Array Value} {w : World} {v : Value}
    (h : Calls P f args w fun e w' => e = .returned v ∧ w = w') : Calls P f args w fun e w'' => e = .returned v ∧ w'' = w :=
  h.mono fun _ _ ⟨he, hm⟩ => ⟨he, hm.symm⟩

theorem set_drop {n k : Nat} {s a : List Int} (p : Int) (hs : s.length = k) (ha : a.length = n) (hk : k < n) : (ints .u32 (s ++ a.drop k)).set k (.int .u32 p) = ints .u32 ((s ++ [p]) ++ a.drop (k + 1)) := by
  subst hs
  unfold ints
  rw [← List.map_set, List.set_append_right _ _ (Nat.le_refl _), Nat.sub_self, List.drop_eq_getElem_cons (by omega), List.set_cons_zero, List.append_assoc, List.singleton_append]
theorem drop_at {n k : Nat} {s a : List Int} (hs : s.length = k) (ha : a.length = n) (hk : k < n) : (ints .u32 (s ++ a.drop k))[k]? = some (.int .u32 (a.getD k 0)) := by
  subst hs
  rw [ints_get _ _ _ (by rw [List.length_append, List.length_drop]; omega), List.getD_eq_getElem?_getD, List.getElem?_append_right (Nat.le_refl _), Nat.sub_self, List.getElem?_drop, Nat.add_zero, List.getD_eq_getElem?_getD]
theorem sub_step {a b s : List Int} {k : Nat} {z q : Int} (ha : Lim a) (hb : Lim b) (hz : 0 ≤ z ∧ z ≤ 1) (hs : s.length = k) (hq : (if a.getD k 0 < b.getD k 0 + z then 1 else 0) = q) (h : val s + low b k = low a k + 4294967296 ^ k * z.toNat) :
    val (s ++ [(a.getD k 0 - b.getD k 0 - z) % 4294967296]) + low b (k + 1) = low a (k + 1) + 4294967296 ^ (k + 1) * q.toNat := by
  have h1 := ha.at k
  have h2 := hb.at k
  rw [val_append, val_one, hs, low_succ, low_succ, Nat.pow_succ, Nat.mul_assoc]
  generalize (a.getD k 0) = x at *
  generalize (b.getD k 0) = y at *
  have e : ((x - y - z) % 4294967296).toNat + y.toNat + z.toNat = x.toNat + 4294967296 * q.toNat := by
    by_cases hlt : x < y + z
    · rw [if_pos hlt] at hq; omega
    · rw [if_neg hlt] at hq; omega
  have e2 := congrArg (4294967296 ^ k * ·) e
  simp only [Nat.mul_add] at e2
  omega
theorem sub_end {a b s : List Int} {n : Nat} {z : Int} (hs : s.length = n) (hl : Lim s) (ha : a.length = n) (hbl : low b n = val b) (hle : val b ≤ val a) (hz : 0 ≤ z ∧ z ≤ 1) (h : val s + low b n = low a n + 4294967296 ^ n * z.toNat) : val s = val a - val b := by
  have h1 := val_lt hl
  rw [hs] at h1
  rw [hbl, low_all (by omega)] at h
  rcases (show z = 0 ∨ z = 1 by omega) with rfl | rfl
  · simp at h; omega
  · simp at h; omega

set_option maxRecDepth 100000 in
set_option maxHeartbeats 1000000 in
theorem subtract_any (g n c base B : Nat) (A' : Option Addr) (n' c' : Nat) (a b : List Int) (w : World) (hown : w.ownsRow base 34 1 (.slice (some ⟨g, 0, none⟩) n c) n (ints .u32 a)) (hr' : Row w B A' n' (ints .u32 b)) (hB : B ≤ base) (hBw : B ≤ w.heap.size) (hbs : base ≤ g) (ha : Lim a) (hb : Lim b) (hn : n ≤ 1000000000)
    (hbl : low b n = val b) (hle : val b ≤ val a) :
    Calls Tryd.prog 50 #[.slice (some ⟨g, 0, none⟩) n c, .slice A' n' c'] w fun e w' => e = .returned (.tuple #[]) ∧ ∃ s, s.length = n ∧ Lim s ∧ val s = val a - val b ∧ w'.ownsRow base 34 1 (.slice (some ⟨g, 0, none⟩) n c) n (ints .u32 s) ∧ w.grownBy w' (some g) := by
  have hl := hown.1
  rw [ints_len, Nat.mul_one] at hl
  have HA := Lib.hid ha
  have HB := Lib.hid hb
  have HL := Lib.hid hl
  have HR := Lib.hid hr'
  have HE := Lib.hid (And.intro hbl hle)
  clear ha hb hl hr' hbl hle
  go_enter Tryd.func50, Tryd.ntmps50
  go_wp2
  go_loopw [4, 8] (fun cy i wr => ∃ (k : Nat) (z : Int) (s : List Int), k ≤ n ∧ i = .int .i64 k ∧ cy = .int .u32 z ∧ Hid (0 ≤ z ∧ z ≤ 1) ∧ Hid (s.length = k ∧ Lim s ∧ val s + low b k = low a k + 4294967296 ^ k * z.toNat) ∧
    wr.ownsRow base 34 1 (.slice (some ⟨g, 0, none⟩) n c) n (ints .u32 (s ++ a.drop k)) ∧ w.grownBy wr (some g)) (fun _ i _ => n - (intOf i).toNat)
  case atStart => exact ⟨0, 0, [], Nat.zero_le _, rfl, rfl, Lib.hid (by omega), Lib.hid ⟨rfl, Lim.nil, by rw [low_zero, low_zero]; rfl⟩, hown, World.grownBy.refl w _⟩
  case round =>
    obtain ⟨k, z, s, hk, rfl, rfl, HZ, HS, hown, hgr⟩ := hrel
    rename World => ws
    by_cases hkn : k < n
    · have hkz : (k : Int) < (n : Int) := by omega
      have hk0 : (0 : Int) ≤ (k : Int) := by omega
      have hcell0 := (hown.cellAt k (by omega)).trans (drop_at HS.out.1 HL.out hkn)
      have hfz := hown.frozenAt k
      have HQ := Lib.hid (sub_step (q := if a.getD k 0 < b.getD k 0 + z then 1 else 0) HA.out HB.out HZ.out HS.out.1 rfl HS.out.2.2)
      have hxl := HA.out.at k
      have hyl := HB.out.at k
      obtain ⟨x, hx⟩ : ∃ x, a.getD k 0 = x := ⟨_, rfl⟩
      obtain ⟨y, hy⟩ : ∃ y, b.getD k 0 = y := ⟨_, rfl⟩
      rw [hx] at hxl hcell0 HQ
      rw [hy] at hyl HQ
      have hcell : ws.cell? ⟨g, k, none⟩ = some (.int .u32 x) := hcell0
      obtain ⟨q, hq⟩ : ∃ q : Int, (if x < y + z then 1 else 0) = q := ⟨_, rfl⟩
      rw [hq] at HQ
      have HqZ : Hid (0 ≤ q ∧ q ≤ 1) := Lib.hid (by rw [← hq]; by_cases h : x < y + z <;> simp [h])
      have Hq := Lib.hid hq
      have HY := Lib.hid hy
      have HXL := Lib.hid hxl
      have HYL := Lib.hid hyl
      have HOwn := Lib.hid hown
      have hrw : Row ws B A' n' (ints .u32 b) := HR.out.keep fun p hp => World.cell?_of_block (hgr.block p.block (by omega) (fun e => by injection e with e; omega))
      clear hx hy hq hxl hyl hown hcell0
      have hp0 : 0 ≤ (x - y - z) % 4294967296 := by omega
      have hp1 : (x - y - z) % 4294967296 ≤ 4294967295 := by omega
      obtain ⟨p, hp⟩ : ∃ p, (x - y - z) % 4294967296 = p := ⟨_, rfl⟩
      rw [hp] at HQ hp0 hp1
      have HP := Lib.hid hp
      have HP01 := Lib.hid (And.intro hp0 hp1)
      clear hp hp0 hp1
      have cS : Calls Tryd.prog 75 #[.int .u32 x, .int .u32 y, .int .u32 z] ws.drew fun e w' => e = .returned (.tuple #[.int .u32 p, .int .u32 q]) ∧ ws.drew = w' := by
        have := Sub32_any x y z q ws.drew HXL.out HYL.out HZ.out Hq
        rwa [HP.out] at this
      have cL : Calls Tryd.prog 44 #[.slice A' n' c', .int .i64 k] ws.drew fun e w' => e = .returned (.int .u32 y) ∧ ws.drew = w' := limb_at _ _ _ _ b k y ws.drew (by exact hrw) (by omega) HY
      replace cS := Lib.hid cS
      replace cL := Lib.hid cL
      go_wp2_with fail
      go_region_with (first
        | (go_at_call 44
           refine cL.out.mono ?_
           rintro e w' ⟨rfl, rfl⟩)
        | (go_at_call 75
           refine cS.out.mono ?_
           rintro e w' ⟨rfl, rfl⟩))
      all_goals
        go_wp2
        go_roundw
        case rel =>
          refine ⟨k + 1, q, s ++ [p], by omega, by go_num, rfl, HqZ, Lib.hid ⟨by rw [List.length_append, HS.out.1]; rfl, HS.out.2.1.app (Lim.one HP01.out.1 HP01.out.2), HQ.out⟩, ?_, ?_⟩
          · have := (HOwn.out.stored k (.int .u32 p)).1
            rw [set_drop p HS.out.1 HL.out hkn] at this
            exact this
          · have h := (HOwn.out.stored k (.int .u32 p)).2
            exact hgr.trans ⟨h.os, h.tape, h.output, h.size, h.block⟩
        case measure => simp [intOf]; omega
    · obtain rfl : k = n := by omega
      have hv := sub_end HS.out.1 HS.out.2.1 HL.out HE.out.1 HE.out.2 HZ.out HS.out.2.2
      rw [List.drop_eq_nil_of_le (by have := HL.out; omega), List.append_nil] at hown
      clear hkn
      go_wp2
      go_end0
      exact ⟨rfl, s, HS.out.1, HS.out.2.1, hv, hown, hgr⟩
end Go.Proofs.YtlpfcilgndbopaaDoor
