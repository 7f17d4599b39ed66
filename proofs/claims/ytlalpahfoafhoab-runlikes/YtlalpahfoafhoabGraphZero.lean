/- A row of noughts that is made. -/
import Derived.Test.YtlalpahfoafhoabGraphNat
namespace Go.Proofs.Ytlalpahfoafhoab.PGraph
open Go Go.RowKit PPool
set_option maxRecDepth 100000

theorem made_zeros (w : World) (n : Nat) (hn : n ≤ maxLen) : OwnNats (w.alloc (.cells (madeCells #[.int .i64 0] (n * 1)) 3)) w.heap.size (.slice (some ⟨w.heap.size, 0, none⟩) n n) (List.replicate n 0) := by
  have e : madeCells #[.int .i64 0] (n * 1) = ((List.replicate n 0).map nc).toArray := by
    apply Array.ext'
    unfold madeCells
    rw [Array.toList_map, Array.toList_range, List.map_replicate]
    apply List.ext_getElem?
    intro j
    rw [List.getElem?_map]
    show _ = (List.replicate n (nc 0))[j]?
    rw [List.getElem?_replicate]
    by_cases hj : j < n
    · rw [List.getElem?_range (by omega), if_pos hj]
      simp [Nat.mod_one, nc]
    · rw [List.getElem?_eq_none (by simp; omega), if_neg hj]
      rfl
  rw [e]
  refine ⟨by simp, .inr ⟨w.heap.size, n, _, by simp, Nat.le_refl _, heap_alloc_new w _, by simp, hn, by simp, ?_⟩⟩
  simp
theorem run_make_zeros (n : Nat) (hn : n ≤ 4096) (W : World) : (Instr.makeSlice 47 (.int .i64 (n : Int)) (.int .i64 (n : Int))).run Try.prog W = .ok (.slice (some ⟨W.heap.size, 0, none⟩) n n) (W.alloc (.cells (madeCells #[.int .i64 0] (n * 1)) 3)) := by
  obtain ⟨i0, hi, hz0, hz1, hz2⟩ := info_parts int_info3
  have := run_make (P := Try.prog) W 47 3 i0 (.int .i64 0) Try.underlying47 hi hz0 .i64 .i64 n n (by omega) (by omega) (by rw [hz2]; omega) (by omega)
  rw [hz1] at this
  exact this

end Go.Proofs.Ytlalpahfoafhoab.PGraph
