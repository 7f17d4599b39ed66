/- Rows of nodes: numbers that are not below nought, each in a cell. -/
import Derived.Test.YtbgcldckgiiedajDoorGraphBits
namespace Go.Proofs.YtbgcldckgiiedajDoor.PGraph
open Go Go.RowKit PPool
set_option maxRecDepth 100000

abbrev nc : Nat → Value := fun k => .int .i64 (k : Int)
abbrev NatsAt := RowAt nc
abbrev OwnNats := OwnR nc 3
theorem nat_one (x : Nat) : (nc x).oneCell' = true := rfl
theorem nats_one (l : List Nat) : ∀ u ∈ l.map nc, u.oneCell' = true := by
  intro u hu
  obtain ⟨x, _, rfl⟩ := List.mem_map.1 hu
  rfl
theorem int_info3 : (Tryd.prog.info? 3).map (fun i => (i.zero, i.size, i.bytes)) = some (some (.int .i64 0), 1, 8) := by kernel_rfl
end Go.Proofs.YtbgcldckgiiedajDoor.PGraph
