/- vary.Reader: the small methods. -/
import Derived.Test.YtieknhlpgoedgaaPut
import Derived.Deep.QuietTactic
import Derived.BigQuiet
namespace Go.Proofs.Ytieknhlpgoedgaa
open Go.RowKit

theorem Err_nil (w : World) : Calls Try.prog 31 #[.pointer none] w fun e w' => e = .returned (.int .i64 1) ∧ w = w' := by
  go_enter Try.func31, Try.ntmps31
  go_wp2
  go_ret
  exact ⟨rfl, rfl⟩

theorem Err_zero (g : Nat) (v : Value) (x : Int) (w : World) (h : Blk w g 51 [.bool false, v, .int .i64 x]) :
    Calls Try.prog 31 #[.pointer (some ⟨g, 0, none⟩)] w fun e w' => e = .returned (.int .i64 1) ∧ w = w' := by
  have c0 : w.cell? ⟨g, 0, none⟩ = some (.bool false) := h.cell 0
  go_enter Try.func31, Try.ntmps31
  go_wp2
  go_ret
  exact ⟨rfl, rfl⟩

theorem Err_made (g : Nat) (v : Value) (x : Int) (w : World) (h : Blk w g 51 [.bool true, v, .int .i64 x]) :
    Calls Try.prog 31 #[.pointer (some ⟨g, 0, none⟩)] w fun e w' => e = .returned (.int .i64 x) ∧ w = w' := by
  have c0 : w.cell? ⟨g, 0, none⟩ = some (.bool true) := h.cell 0
  have c2 : w.cell? ⟨g, 2, none⟩ = some (.int .i64 x) := h.cell 2
  go_enter Try.func31, Try.ntmps31
  go_wp2
  go_ret
  exact ⟨rfl, rfl⟩

theorem fail_made (g : Nat) (m : Bool) (v : Value) (x y : Int) (w : World) (h : Blk w g 51 [.bool m, v, .int .i64 x]) :
    Calls Try.prog 39 #[.pointer (some ⟨g, 0, none⟩), .int .i64 y] w fun e w' => e = .returned (.int .i64 0) ∧ Only g w w' ∧ Blk w' g 51 [.bool m, .slice none 0 0, .int .i64 y] := by
  have c1 : w.cell? ⟨g, 1, none⟩ = some v := h.cell 1
  have c2 : w.cell? ⟨g, 2, none⟩ = some (.int .i64 x) := h.cell 2
  have f1 := h.frozen 1
  have f2 := h.frozen 2
  go_enter Try.func39, Try.ntmps39
  go_wp2
  go_ret
  exact ⟨rfl, ((Only.refl _ _).put _ _).put _ _, (h.put 2 _).put 1 _⟩

theorem U1_any (x : Int) (w : World) : Calls Try.prog 38 #[.int .u8 x] w fun e w' => e = .returned (.bool (decide (x < 128))) ∧ w = w' := by
  go_enter Try.func38, Try.ntmps38
  go_wp2
  go_ret
  exact ⟨rfl, rfl⟩

theorem Left_made (g : Nat) (A : Option Addr) (n c : Nat) (x : Int) (w : World) (h : Blk w g 51 [.bool true, .slice A n c, .int .i64 x]) (hx : x = 0 ∨ n = 0) :
    Calls Try.prog 32 #[.pointer (some ⟨g, 0, none⟩)] w fun e w' => e = .returned (.int .i64 n) ∧ w = w' := by
  have c1 : w.cell? ⟨g, 1, none⟩ = some (.slice A n c) := h.cell 1
  by_cases h0 : x = 0
  · subst h0
    go_enter Try.func32, Try.ntmps32
    go_wp2_with fail
    refine (Err_made g _ _ _ h).mono ?_
    rintro e w' ⟨rfl, rfl⟩
    go_wp2
    go_ret
    exact ⟨rfl, rfl⟩
  · have hn : n = 0 := by omega
    subst hn
    have hd : (x != 0) = true := by simp [h0]
    clear hx
    go_enter Try.func32, Try.ntmps32
    go_wp2_with fail
    refine (Err_made g _ _ _ h).mono ?_
    rintro e w' ⟨rfl, rfl⟩
    go_wp2
    go_ret
    exact ⟨rfl, rfl⟩

/-- slices.Clone of bytes. -/
theorem Clone_any (A : Option Addr) (c B : Nat) (l : List Int) (w : World) (hr : Row w B A l.length (ints .u8 l)) (hB : B ≤ w.heap.size) (hl : l.length ≤ 150000000000000) :
    Calls Try.prog 36 #[.slice A l.length c] w fun e w' => ∃ A' c', e = .returned (.slice A' l.length c') ∧ w'.ownsRow w.heap.size 5 1 (.slice A' l.length c') l.length (ints .u8 l) ∧ Below w.heap.size w w' := by
  obtain ⟨i0, hi, hz0, hz1, hz2⟩ := info_parts u8_info
  rcases A with _ | a
  · have hnil : l = [] := by
      rcases Nat.eq_zero_or_pos l.length with h0 | h0
      · exact List.eq_nil_of_length_eq_zero h0
      · obtain ⟨_, _, he, _⟩ := hr.2 h0
        cases he
    subst hnil
    have hq := Lib.run_eql_slice_nil (P := Try.prog)
    go_enter Try.func36, Try.ntmps36
    go_wp2
    go_ret
    exact ⟨none, 0, rfl, World.ownsRow_nil _ _ _ _, Below.refl _ _⟩
  · have hq := fun (w : World) (n c : Nat) => Lib.run_eql_slice_nil (P := Try.prog) w 23 5 (some a) n c 0 0 Try.underlying23
    go_enter Try.func36, Try.ntmps36
    go_wp2_with (at_builtin; refine wpList_app _ rfl (.tmp 5) (.tmp 6) 23 rfl w.heap.size 5 i0 (.int .u8 0) 1 Try.underlying23 hi hz0 hz1 hz2 rfl _ 0 [] rfl (World.ownsRow_made w #[] 0 (Nat.le_refl _) (by unfold maxLen; omega) rfl) _ _ _ _ _ rfl (hr.alloc hB _) (ints_one _ _) (by unfold maxLen; omega) (by omega) (by simp) ?_)
    intro v' w' hown' _ hb'
    obtain ⟨A', c', rfl⟩ := own_slice hown'
    go_wp2
    go_ret
    exact ⟨A', c', by simp, by simpa using hown', ((Below.refl _ _).alloc (Nat.le_refl _) _).trans hb'⟩

theorem own_cap {w : World} {base n c : Nat} {e : TypeId} {A : Option Addr} {xs : List Value} (h : w.ownsRow base e 1 (.slice A n c) n xs) : n ≤ c := by
  rcases h.2 with ⟨hv, hn⟩ | ⟨g, cap, cur, hv, _, _, h1, _⟩
  · omega
  · injection hv with _ _ h2
    omega

/-- A reader that was made: its block, what is left, the error. -/
def Rd (w : World) (g B : Nat) (l : List Int) (x : Int) : Prop :=
  ∃ A c, Blk w g 51 [.bool true, .slice A l.length c, .int .i64 x] ∧ Row w B A l.length (ints .u8 l) ∧ (∀ a, A = some a → a.block ≠ g) ∧ l.length ≤ 150000000000000 ∧ l.length ≤ c ∧ B ≤ w.heap.size ∧ ∀ x ∈ l, 0 ≤ x ∧ x ≤ 255

theorem New_any (A : Option Addr) (c B : Nat) (l : List Int) (w : World) (hr : Row w B A l.length (ints .u8 l)) (hB : B ≤ w.heap.size) (hl : l.length ≤ 150000000000000) (hu : ∀ x ∈ l, 0 ≤ x ∧ x ≤ 255) :
    Calls Try.prog 22 #[.slice A l.length c] w fun e w' => ∃ g, e = .returned (.pointer (some ⟨g, 0, none⟩)) ∧ w.heap.size ≤ g ∧ Rd w' g w'.heap.size l 0 ∧ Below w.heap.size w w' := by
  go_enter Try.func22, Try.ntmps22
  go_wp2_with fail
  refine (Clone_any A c B l w hr hB hl).mono ?_
  rintro e w1 ⟨A1, c1, rfl, hown, hb⟩
  have hc1 := own_cap hown
  go_wp2
  go_ret
  have hrow := (Row.own hown).alloc (Nat.le_refl _) (.cells #[.bool true, .slice A1 l.length c1, .int .i64 0] 51)
  refine ⟨w1.heap.size, rfl, hb.size, ⟨A1, c1, Blk.made _ _ [_, _, _], hrow.wide (by simp), ?_, hl, hc1, Nat.le_refl _, hu⟩, hb.alloc hb.size _⟩
  intro a e
  have hlt := (hown.lt a.block (by rw [e]; rfl)).2
  omega

end Go.Proofs.Ytieknhlpgoedgaa
