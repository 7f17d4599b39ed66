/- quirkeep.op, walked: it answers the operation, and nothing that was there has turned; operations laid in a new row. No conditions. -/
import Derived.Test.YtlalpahfoafhoaiRunMem
namespace Go.Proofs.Ytlalpahfoafhoai.PRun
open Go Go.RowKit PPool PGraph
set_option maxRecDepth 100000
theorem op_any (w : World) (x k i : Int) :
    Calls Try.prog 8 #[.int .i64 x, .int .i64 k, .int .i64 i] w fun e w' => e = .returned (.agg #[.int .i64 x, .int .i64 k, .int .i64 i]) ∧ Below w.heap.size w w' := by
  have hb := fun T => hid (bx w (.cells #[.int .i64 x, .int .i64 k, .int .i64 i] T))
  go_enter Try.func8, Try.ntmps8
  go_wp2_with fail
  exact bodyPost_ret (results_cell_row rfl _ _ w.heap.size 25 _ (0, 0) _ rfl (heap_alloc_new w _) Try.underlying25 rfl (zero_of_info (v := .agg #[.int .i64 0, .int .i64 0, .int .i64 0]) (n := 3) (by kernel_rfl)).2) rfl ⟨rfl, (hb _).out⟩
/-- A row whose cells are the operations', as it has just been made. -/
theorem row_at (w : World) (X : List Rn.Op) (C : Array Value) (T : TypeId) (hC : C = (X.flatMap so).toArray) : OpAt (w.alloc (.cells C T)) (some ⟨w.heap.size, 0, none⟩) X := fun j x hj => by
  have cell : ∀ (d : Nat) (v : Value), (so x)[d]? = some v → (w.alloc (.cells C T)).cell? ⟨w.heap.size, 0 + j * 3 + d, none⟩ = some v := fun d v hd => by
    rw [cell_of_row _ _ _ _ _ _ (heap_alloc_new w _), hC, Nat.zero_add]
    simpa using flat_at (enc := so) (c := 3) X (fun x _ => so_len x) j x hj d v hd
  exact ⟨_, _, rfl, cell 0 _ rfl, cell 1 _ rfl, cell 2 _ rfl⟩
end Go.Proofs.Ytlalpahfoafhoai.PRun
