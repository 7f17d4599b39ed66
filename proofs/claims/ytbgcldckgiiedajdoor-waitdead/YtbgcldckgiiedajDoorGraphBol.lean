/- Rows of bools that are made, and rows of one-cell things of whatever type: each starts as its nought. Conditions: how long they are. -/
import Derived.Test.YtbgcldckgiiedajDoorGraphSets
namespace Go.Proofs.YtbgcldckgiiedajDoor.PGraph
open Go Go.RowKit PPool
set_option maxRecDepth 100000

theorem bool_info4 : (Tryd.prog.info? 4).map (fun i => (i.zero, i.size, i.bytes)) = some (some (.bool false), 1, 1) := by kernel_rfl
theorem made_same {α : Type} (enc : α → Value) (z : α) (n : Nat) : madeCells #[enc z] (n * 1) = ((List.replicate n z).map enc).toArray := by
  apply Array.ext'
  unfold madeCells
  rw [Array.toList_map, Array.toList_range, List.map_replicate]
  apply List.ext_getElem?
  intro j
  rw [List.getElem?_map]
  show _ = (List.replicate n (enc z))[j]?
  rw [List.getElem?_replicate]
  by_cases hj : j < n
  · rw [List.getElem?_range (by omega), if_pos hj]
    simp [Nat.mod_one]
  · rw [List.getElem?_eq_none (by simp; omega), if_neg hj]
    rfl
theorem row_made {α : Type} (enc : α → Value) (ty : TypeId) (z : α) (w : World) (n : Nat) (hn : n ≤ maxLen) : OwnR enc ty (w.alloc (.cells (madeCells #[enc z] (n * 1)) ty)) w.heap.size (.slice (some ⟨w.heap.size, 0, none⟩) n n) (List.replicate n z) := by
  rw [made_same]
  refine ⟨by simp, .inr ⟨w.heap.size, n, _, by simp, Nat.le_refl _, heap_alloc_new w _, by simp, hn, by simp, ?_⟩⟩
  simp
theorem run_make_bools (n : Nat) (hn : n ≤ 4096) (W : World) : (Instr.makeSlice 34 (.int .i64 (n : Int)) (.int .i64 (n : Int))).run Tryd.prog W = .ok (.slice (some ⟨W.heap.size, 0, none⟩) n n) (W.alloc (.cells (madeCells #[.bool false] (n * 1)) 4)) := by
  obtain ⟨i0, hi, hz0, hz1, hz2⟩ := info_parts bool_info4
  have := run_make (P := Tryd.prog) W 34 4 i0 (.bool false) Tryd.underlying34 hi hz0 .i64 .i64 n n (by omega) (by omega) (by rw [hz2]; omega) (by omega)
  rw [hz1] at this
  exact this
end Go.Proofs.YtbgcldckgiiedajDoor.PGraph
