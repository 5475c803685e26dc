/- The table of the escapes. -/
import Derived.Test.YtbhhakobkpdadaaQQuote
import Derived.MapKept
namespace Go.Proofs.Ytbhhakobkpdadaa
open Go.RowKit Go.Shelf

def ESC : Array MapEntry := #[{ key := .int .u8 97, val := .int .u8 7, born := 0 }, { key := .int .u8 98, val := .int .u8 8, born := 1 }, { key := .int .u8 102, val := .int .u8 12, born := 2 }, { key := .int .u8 110, val := .int .u8 10, born := 3 }, { key := .int .u8 114, val := .int .u8 13, born := 4 }, { key := .int .u8 116, val := .int .u8 9, born := 5 }, { key := .int .u8 118, val := .int .u8 11, born := 6 }, { key := .int .u8 92, val := .int .u8 92, born := 7 }, { key := .int .u8 39, val := .int .u8 39, born := 8 }, { key := .int .u8 34, val := .int .u8 34, born := 9 }]
/-- What a backslash and one byte stand for. -/
def escF (c : Nat) : Option Nat :=
  if c = 97 then some 7 else
  if c = 98 then some 8 else
  if c = 102 then some 12 else
  if c = 110 then some 10 else
  if c = 114 then some 13 else
  if c = 116 then some 9 else
  if c = 118 then some 11 else
  if c = 92 then some 92 else
  if c = 39 then some 39 else
  if c = 34 then some 34 else none
theorem push_set (A : Array Obj) (a b : Obj) : (A.push a).setIfInBounds A.size b = A.push b := by
  apply Array.toList_inj.1
  simp
theorem upd (w : World) (es : Array MapEntry) (cl : Nat) (k v : Int) (hf : Instr.findNow (.int .u8) (.int .u8 k) es.toList 0 = some none) :
    Sem.run Try.prog (Instr.mapUpdate 59 (.map (some w.heap.size)) (.int .u8 k) (.int .u8 v)) (w.alloc (.map es cl)) = .ok () (w.alloc (.map (es.push { key := .int .u8 k, val := .int .u8 v, born := cl }) (cl + 1))) := by
  have hg : (w.alloc (.map es cl)).heap[w.heap.size]? = some (.map es cl) := World.alloc_heap_new w _
  have h1 := MapKept.run_checkKey (P := Try.prog) (w := w.alloc (.map es cl)) Try.underlying5 (k := .int .u8 k) (by simp [MapKept.IsKey]) false 9999
  have h2 := MapKept.run_findKey (P := Try.prog) (w := w.alloc (.map es cl)) Try.underlying5 hf
  unfold Instr.mapUpdate
  have h3 := MapKept.run_setObj_map (P := Try.prog) (.map (es.push { key := .int .u8 k, val := .int .u8 v, born := cl }) (cl + 1)) hg
  simp only [Sem.run_bind, run_underlying Try.underlying59, MapKept.run_getObj_map hg, h1, h2, h3, Result.andThen]
  exact congrArg (fun h => Result.ok () { w with heap := h }) (push_set w.heap _ _)
theorem find_esc (c : Nat) : ∃ i, Instr.findNow (.int .u8) (.int .u8 (c : Int)) ESC.toList 0 = some ((escF c).map fun v => (i, .int .u8 (v : Int))) := by
  by_cases h97 : c = 97
  · subst h97; exact ⟨0, rfl⟩
  by_cases h98 : c = 98
  · subst h98; exact ⟨1, rfl⟩
  by_cases h102 : c = 102
  · subst h102; exact ⟨2, rfl⟩
  by_cases h110 : c = 110
  · subst h110; exact ⟨3, rfl⟩
  by_cases h114 : c = 114
  · subst h114; exact ⟨4, rfl⟩
  by_cases h116 : c = 116
  · subst h116; exact ⟨5, rfl⟩
  by_cases h118 : c = 118
  · subst h118; exact ⟨6, rfl⟩
  by_cases h92 : c = 92
  · subst h92; exact ⟨7, rfl⟩
  by_cases h39 : c = 39
  · subst h39; exact ⟨8, rfl⟩
  by_cases h34 : c = 34
  · subst h34; exact ⟨9, rfl⟩
  have e97 : ((c : Int) == 97) = false := by simp; omega
  have e98 : ((c : Int) == 98) = false := by simp; omega
  have e102 : ((c : Int) == 102) = false := by simp; omega
  have e110 : ((c : Int) == 110) = false := by simp; omega
  have e114 : ((c : Int) == 114) = false := by simp; omega
  have e116 : ((c : Int) == 116) = false := by simp; omega
  have e118 : ((c : Int) == 118) = false := by simp; omega
  have e92 : ((c : Int) == 92) = false := by simp; omega
  have e39 : ((c : Int) == 39) = false := by simp; omega
  have e34 : ((c : Int) == 34) = false := by simp; omega
  have hn : escF c = none := by simp [escF, h97, h98, h102, h110, h114, h116, h118, h92, h39, h34]
  refine ⟨0, ?_⟩
  rw [hn]
  simp [ESC, Instr.findNow, Instr.sameNow, e97, e98, e102, e110, e114, e116, e118, e92, e39, e34]
theorem look_any (w : World) (m : Nat) (hm : w.heap[m]? = some (.map ESC 10)) (c : Nat) :
    Sem.run Try.prog (Instr.lookup 59 (.map (some m)) (.int .u8 (c : Int)) true) w = .ok (.tuple #[.int .u8 (((escF c).getD 0 : Nat) : Int), .bool (escF c).isSome]) w := by
  obtain ⟨i, hf⟩ := find_esc c
  have h1 : Sem.run Try.prog (Instr.checkKey ESC.isEmpty 10000 5 (.int .u8 (c : Int))) w = .ok () w := MapKept.run_checkKey (P := Try.prog) (w := w) Try.underlying5 (k := .int .u8 (c : Int)) (by simp [MapKept.IsKey]) _ 9999
  have h2 := MapKept.run_findKey (P := Try.prog) (w := w) Try.underlying5 hf
  unfold Instr.lookup
  have h3 := MapKept.run_getObj_map (P := Try.prog) hm
  have h4 := Try.zeroValue5 w
  simp only [Sem.run_bind, run_underlying Try.underlying59, h3, Result.andThen]
  cases he : escF c with
  | none =>
    rw [he] at h2
    simp [h1, h2, h4, Result.andThen]
  | some v =>
    rw [he] at h2
    simp [h1, h2]
set_option maxRecDepth 100000 in
set_option maxHeartbeats 2000000 in
theorem singles_any (w : World) : Calls Try.prog 39 #[] w fun e w' => e = .returned (.map (some w.heap.size)) ∧ w' = w.alloc (.map ESC 10) := by
  have hm := run_makeMap (P := Try.prog) 59 w
  have u0 : Sem.run Try.prog (Instr.mapUpdate 59 (.map (some w.heap.size)) (.int .u8 97) (.int .u8 7)) (w.alloc (.map #[] 0)) = .ok () (w.alloc (.map #[{ key := .int .u8 97, val := .int .u8 7, born := 0 }] 1)) := upd w #[] 0 97 7 rfl
  have u1 : Sem.run Try.prog (Instr.mapUpdate 59 (.map (some w.heap.size)) (.int .u8 98) (.int .u8 8)) (w.alloc (.map #[{ key := .int .u8 97, val := .int .u8 7, born := 0 }] 1)) = .ok () (w.alloc (.map #[{ key := .int .u8 97, val := .int .u8 7, born := 0 }, { key := .int .u8 98, val := .int .u8 8, born := 1 }] 2)) := upd w #[{ key := .int .u8 97, val := .int .u8 7, born := 0 }] 1 98 8 rfl
  have u2 : Sem.run Try.prog (Instr.mapUpdate 59 (.map (some w.heap.size)) (.int .u8 102) (.int .u8 12)) (w.alloc (.map #[{ key := .int .u8 97, val := .int .u8 7, born := 0 }, { key := .int .u8 98, val := .int .u8 8, born := 1 }] 2)) = .ok () (w.alloc (.map #[{ key := .int .u8 97, val := .int .u8 7, born := 0 }, { key := .int .u8 98, val := .int .u8 8, born := 1 }, { key := .int .u8 102, val := .int .u8 12, born := 2 }] 3)) := upd w #[{ key := .int .u8 97, val := .int .u8 7, born := 0 }, { key := .int .u8 98, val := .int .u8 8, born := 1 }] 2 102 12 rfl
  have u3 : Sem.run Try.prog (Instr.mapUpdate 59 (.map (some w.heap.size)) (.int .u8 110) (.int .u8 10)) (w.alloc (.map #[{ key := .int .u8 97, val := .int .u8 7, born := 0 }, { key := .int .u8 98, val := .int .u8 8, born := 1 }, { key := .int .u8 102, val := .int .u8 12, born := 2 }] 3)) = .ok () (w.alloc (.map #[{ key := .int .u8 97, val := .int .u8 7, born := 0 }, { key := .int .u8 98, val := .int .u8 8, born := 1 }, { key := .int .u8 102, val := .int .u8 12, born := 2 }, { key := .int .u8 110, val := .int .u8 10, born := 3 }] 4)) := upd w #[{ key := .int .u8 97, val := .int .u8 7, born := 0 }, { key := .int .u8 98, val := .int .u8 8, born := 1 }, { key := .int .u8 102, val := .int .u8 12, born := 2 }] 3 110 10 rfl
  have u4 : Sem.run Try.prog (Instr.mapUpdate 59 (.map (some w.heap.size)) (.int .u8 114) (.int .u8 13)) (w.alloc (.map #[{ key := .int .u8 97, val := .int .u8 7, born := 0 }, { key := .int .u8 98, val := .int .u8 8, born := 1 }, { key := .int .u8 102, val := .int .u8 12, born := 2 }, { key := .int .u8 110, val := .int .u8 10, born := 3 }] 4)) = .ok () (w.alloc (.map #[{ key := .int .u8 97, val := .int .u8 7, born := 0 }, { key := .int .u8 98, val := .int .u8 8, born := 1 }, { key := .int .u8 102, val := .int .u8 12, born := 2 }, { key := .int .u8 110, val := .int .u8 10, born := 3 }, { key := .int .u8 114, val := .int .u8 13, born := 4 }] 5)) := upd w #[{ key := .int .u8 97, val := .int .u8 7, born := 0 }, { key := .int .u8 98, val := .int .u8 8, born := 1 }, { key := .int .u8 102, val := .int .u8 12, born := 2 }, { key := .int .u8 110, val := .int .u8 10, born := 3 }] 4 114 13 rfl
  have u5 : Sem.run Try.prog (Instr.mapUpdate 59 (.map (some w.heap.size)) (.int .u8 116) (.int .u8 9)) (w.alloc (.map #[{ key := .int .u8 97, val := .int .u8 7, born := 0 }, { key := .int .u8 98, val := .int .u8 8, born := 1 }, { key := .int .u8 102, val := .int .u8 12, born := 2 }, { key := .int .u8 110, val := .int .u8 10, born := 3 }, { key := .int .u8 114, val := .int .u8 13, born := 4 }] 5)) = .ok () (w.alloc (.map #[{ key := .int .u8 97, val := .int .u8 7, born := 0 }, { key := .int .u8 98, val := .int .u8 8, born := 1 }, { key := .int .u8 102, val := .int .u8 12, born := 2 }, { key := .int .u8 110, val := .int .u8 10, born := 3 }, { key := .int .u8 114, val := .int .u8 13, born := 4 }, { key := .int .u8 116, val := .int .u8 9, born := 5 }] 6)) := upd w #[{ key := .int .u8 97, val := .int .u8 7, born := 0 }, { key := .int .u8 98, val := .int .u8 8, born := 1 }, { key := .int .u8 102, val := .int .u8 12, born := 2 }, { key := .int .u8 110, val := .int .u8 10, born := 3 }, { key := .int .u8 114, val := .int .u8 13, born := 4 }] 5 116 9 rfl
  have u6 : Sem.run Try.prog (Instr.mapUpdate 59 (.map (some w.heap.size)) (.int .u8 118) (.int .u8 11)) (w.alloc (.map #[{ key := .int .u8 97, val := .int .u8 7, born := 0 }, { key := .int .u8 98, val := .int .u8 8, born := 1 }, { key := .int .u8 102, val := .int .u8 12, born := 2 }, { key := .int .u8 110, val := .int .u8 10, born := 3 }, { key := .int .u8 114, val := .int .u8 13, born := 4 }, { key := .int .u8 116, val := .int .u8 9, born := 5 }] 6)) = .ok () (w.alloc (.map #[{ key := .int .u8 97, val := .int .u8 7, born := 0 }, { key := .int .u8 98, val := .int .u8 8, born := 1 }, { key := .int .u8 102, val := .int .u8 12, born := 2 }, { key := .int .u8 110, val := .int .u8 10, born := 3 }, { key := .int .u8 114, val := .int .u8 13, born := 4 }, { key := .int .u8 116, val := .int .u8 9, born := 5 }, { key := .int .u8 118, val := .int .u8 11, born := 6 }] 7)) := upd w #[{ key := .int .u8 97, val := .int .u8 7, born := 0 }, { key := .int .u8 98, val := .int .u8 8, born := 1 }, { key := .int .u8 102, val := .int .u8 12, born := 2 }, { key := .int .u8 110, val := .int .u8 10, born := 3 }, { key := .int .u8 114, val := .int .u8 13, born := 4 }, { key := .int .u8 116, val := .int .u8 9, born := 5 }] 6 118 11 rfl
  have u7 : Sem.run Try.prog (Instr.mapUpdate 59 (.map (some w.heap.size)) (.int .u8 92) (.int .u8 92)) (w.alloc (.map #[{ key := .int .u8 97, val := .int .u8 7, born := 0 }, { key := .int .u8 98, val := .int .u8 8, born := 1 }, { key := .int .u8 102, val := .int .u8 12, born := 2 }, { key := .int .u8 110, val := .int .u8 10, born := 3 }, { key := .int .u8 114, val := .int .u8 13, born := 4 }, { key := .int .u8 116, val := .int .u8 9, born := 5 }, { key := .int .u8 118, val := .int .u8 11, born := 6 }] 7)) = .ok () (w.alloc (.map #[{ key := .int .u8 97, val := .int .u8 7, born := 0 }, { key := .int .u8 98, val := .int .u8 8, born := 1 }, { key := .int .u8 102, val := .int .u8 12, born := 2 }, { key := .int .u8 110, val := .int .u8 10, born := 3 }, { key := .int .u8 114, val := .int .u8 13, born := 4 }, { key := .int .u8 116, val := .int .u8 9, born := 5 }, { key := .int .u8 118, val := .int .u8 11, born := 6 }, { key := .int .u8 92, val := .int .u8 92, born := 7 }] 8)) := upd w #[{ key := .int .u8 97, val := .int .u8 7, born := 0 }, { key := .int .u8 98, val := .int .u8 8, born := 1 }, { key := .int .u8 102, val := .int .u8 12, born := 2 }, { key := .int .u8 110, val := .int .u8 10, born := 3 }, { key := .int .u8 114, val := .int .u8 13, born := 4 }, { key := .int .u8 116, val := .int .u8 9, born := 5 }, { key := .int .u8 118, val := .int .u8 11, born := 6 }] 7 92 92 rfl
  have u8 : Sem.run Try.prog (Instr.mapUpdate 59 (.map (some w.heap.size)) (.int .u8 39) (.int .u8 39)) (w.alloc (.map #[{ key := .int .u8 97, val := .int .u8 7, born := 0 }, { key := .int .u8 98, val := .int .u8 8, born := 1 }, { key := .int .u8 102, val := .int .u8 12, born := 2 }, { key := .int .u8 110, val := .int .u8 10, born := 3 }, { key := .int .u8 114, val := .int .u8 13, born := 4 }, { key := .int .u8 116, val := .int .u8 9, born := 5 }, { key := .int .u8 118, val := .int .u8 11, born := 6 }, { key := .int .u8 92, val := .int .u8 92, born := 7 }] 8)) = .ok () (w.alloc (.map #[{ key := .int .u8 97, val := .int .u8 7, born := 0 }, { key := .int .u8 98, val := .int .u8 8, born := 1 }, { key := .int .u8 102, val := .int .u8 12, born := 2 }, { key := .int .u8 110, val := .int .u8 10, born := 3 }, { key := .int .u8 114, val := .int .u8 13, born := 4 }, { key := .int .u8 116, val := .int .u8 9, born := 5 }, { key := .int .u8 118, val := .int .u8 11, born := 6 }, { key := .int .u8 92, val := .int .u8 92, born := 7 }, { key := .int .u8 39, val := .int .u8 39, born := 8 }] 9)) := upd w #[{ key := .int .u8 97, val := .int .u8 7, born := 0 }, { key := .int .u8 98, val := .int .u8 8, born := 1 }, { key := .int .u8 102, val := .int .u8 12, born := 2 }, { key := .int .u8 110, val := .int .u8 10, born := 3 }, { key := .int .u8 114, val := .int .u8 13, born := 4 }, { key := .int .u8 116, val := .int .u8 9, born := 5 }, { key := .int .u8 118, val := .int .u8 11, born := 6 }, { key := .int .u8 92, val := .int .u8 92, born := 7 }] 8 39 39 rfl
  have u9 : Sem.run Try.prog (Instr.mapUpdate 59 (.map (some w.heap.size)) (.int .u8 34) (.int .u8 34)) (w.alloc (.map #[{ key := .int .u8 97, val := .int .u8 7, born := 0 }, { key := .int .u8 98, val := .int .u8 8, born := 1 }, { key := .int .u8 102, val := .int .u8 12, born := 2 }, { key := .int .u8 110, val := .int .u8 10, born := 3 }, { key := .int .u8 114, val := .int .u8 13, born := 4 }, { key := .int .u8 116, val := .int .u8 9, born := 5 }, { key := .int .u8 118, val := .int .u8 11, born := 6 }, { key := .int .u8 92, val := .int .u8 92, born := 7 }, { key := .int .u8 39, val := .int .u8 39, born := 8 }] 9)) = .ok () (w.alloc (.map #[{ key := .int .u8 97, val := .int .u8 7, born := 0 }, { key := .int .u8 98, val := .int .u8 8, born := 1 }, { key := .int .u8 102, val := .int .u8 12, born := 2 }, { key := .int .u8 110, val := .int .u8 10, born := 3 }, { key := .int .u8 114, val := .int .u8 13, born := 4 }, { key := .int .u8 116, val := .int .u8 9, born := 5 }, { key := .int .u8 118, val := .int .u8 11, born := 6 }, { key := .int .u8 92, val := .int .u8 92, born := 7 }, { key := .int .u8 39, val := .int .u8 39, born := 8 }, { key := .int .u8 34, val := .int .u8 34, born := 9 }] 10)) := upd w #[{ key := .int .u8 97, val := .int .u8 7, born := 0 }, { key := .int .u8 98, val := .int .u8 8, born := 1 }, { key := .int .u8 102, val := .int .u8 12, born := 2 }, { key := .int .u8 110, val := .int .u8 10, born := 3 }, { key := .int .u8 114, val := .int .u8 13, born := 4 }, { key := .int .u8 116, val := .int .u8 9, born := 5 }, { key := .int .u8 118, val := .int .u8 11, born := 6 }, { key := .int .u8 92, val := .int .u8 92, born := 7 }, { key := .int .u8 39, val := .int .u8 39, born := 8 }] 9 34 34 rfl
  go_enter Try.func39, Try.ntmps39
  go_wp2_with fail
  go_ret
  exact ⟨rfl, rfl⟩
end Go.Proofs.Ytbhhakobkpdadaa
