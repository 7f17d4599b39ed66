/-
  No cell of these rows narrows 'for every input' (looked for: loops, veiled, ifaces, maps, wideKeys, modest, calm, conditions, laid).
  DERIVED. THE GIVEN ROWS OF THIS SEAT. 6 by the template 'for every input the law returns true; each argument reads behind the call as it read before'; 0 by the template 'total and deterministic' (their statements: YtlcpioeobnjcdagTotals.lean).
  GIVEN WITH THE SEED: the statements are not yours to turn. If you find one false, say at which input.
  Laid BY PROGRAM, IN A SANDBOX (cutbox-rows.mjs): the forced cells as the released guide's own fill.sh prints them over the translation 31be3dfe3e8f72c9… (all of the seat's roots in one cut). By AI agents, Wed Nov 11 2026. No macro, syntax, notation, axiom, sorry.
-/
import Derived.Test.YtlcpioeobnjcdagChecked
import GoSem.Claim
import GoSem.ClaimJoined
import GoSem.ClaimMapViews
import Derived.JoinedTies
import Derived.KernelRfl
namespace Go.Proofs.Ytlcpioeobnjcdag
/- THE CELL 'sum', in the pinned program and in every row, IS THE sha256 OF THE DUMP (.gsa) THAT YtlcpioeobnjcdagProg.lean LOADS. Nothing in Lean hashes anything: it is a label: what it is worth is what the hold of that sum in a sandbox is worth. -/
noncomputable def Try.pinned : Pinned := { name := "ytlcpioeobnjcdag", sum := "31be3dfe3e8f72c9a2ce94b9b5b9dfc2c2b3936543db9dd540574163a896d160", checked := Try.checked }
namespace Rows
def none {H : Type} : Left H := { results := [], args := [] }

/-- 'quirkeep.LeafKeeps': WHATEVER THE INPUT: true; the input reads as it did. -/
def leafKeepsSpec : ChangeSpec := { name := "leafKeeps", fn := fun _ => fun
  | [d1, d2, d3] => { results := [.lit (.bool true)], args := [d1, d2, d3] }
  | _ => none }
def leafKeepsRow : OpenClaim := { program := "ytlcpioeobnjcdag", sum := "31be3dfe3e8f72c9a2ce94b9b5b9dfc2c2b3936543db9dd540574163a896d160", func := "quirestock/quirkeep.LeafKeeps", spec := "leafKeeps", apart := false }
def LeafKeepsSaid : Prop := leafKeepsRow.holds Try.pinned (OpenSpec.ofChange leafKeepsSpec)

/-- ITS FALSE NEIGHBOUR: 'it returns false'. Refute it at one input. -/
def leafKeepsWrong : ChangeSpec := { name := "leafKeeps", fn := fun _ => fun
  | [d1, d2, d3] => { results := [.lit (.bool false)], args := [d1, d2, d3] }
  | _ => none }
def LeafKeepsWrongFalsely : Prop := leafKeepsRow.holds Try.pinned (OpenSpec.ofChange leafKeepsWrong)

/-- 'quirkeep.LeafRoom': WHATEVER THE INPUT: true; the input reads as it did. -/
def leafRoomSpec : ChangeSpec := { name := "leafRoom", fn := fun _ => fun
  | [d1, d2] => { results := [.lit (.bool true)], args := [d1, d2] }
  | _ => none }
def leafRoomRow : OpenClaim := { program := "ytlcpioeobnjcdag", sum := "31be3dfe3e8f72c9a2ce94b9b5b9dfc2c2b3936543db9dd540574163a896d160", func := "quirestock/quirkeep.LeafRoom", spec := "leafRoom", apart := false }
def LeafRoomSaid : Prop := leafRoomRow.holds Try.pinned (OpenSpec.ofChange leafRoomSpec)

/-- ITS FALSE NEIGHBOUR: 'it returns false'. Refute it at one input. -/
def leafRoomWrong : ChangeSpec := { name := "leafRoom", fn := fun _ => fun
  | [d1, d2] => { results := [.lit (.bool false)], args := [d1, d2] }
  | _ => none }
def LeafRoomWrongFalsely : Prop := leafRoomRow.holds Try.pinned (OpenSpec.ofChange leafRoomWrong)

/-- 'quirkeep.PoolBest': WHATEVER THE INPUT: true; the input reads as it did. -/
def poolBestSpec : ChangeSpec := { name := "poolBest", fn := fun _ => fun
  | [d1, d2] => { results := [.lit (.bool true)], args := [d1, d2] }
  | _ => none }
def poolBestRow : OpenClaim := { program := "ytlcpioeobnjcdag", sum := "31be3dfe3e8f72c9a2ce94b9b5b9dfc2c2b3936543db9dd540574163a896d160", func := "quirestock/quirkeep.PoolBest", spec := "poolBest", unfollowed := true, recurses := true, apart := false }
def PoolBestSaid : Prop := poolBestRow.holds Try.pinned (OpenSpec.ofChange poolBestSpec)

/-- ITS FALSE NEIGHBOUR: 'it returns false'. Refute it at one input. -/
def poolBestWrong : ChangeSpec := { name := "poolBest", fn := fun _ => fun
  | [d1, d2] => { results := [.lit (.bool false)], args := [d1, d2] }
  | _ => none }
def PoolBestWrongFalsely : Prop := poolBestRow.holds Try.pinned (OpenSpec.ofChange poolBestWrong)

/-- 'quirkeep.PoolStack': WHATEVER THE INPUT: true; the input reads as it did. -/
def poolStackSpec : ChangeSpec := { name := "poolStack", fn := fun _ => fun
  | [d1, d2, d3] => { results := [.lit (.bool true)], args := [d1, d2, d3] }
  | _ => none }
def poolStackRow : OpenClaim := { program := "ytlcpioeobnjcdag", sum := "31be3dfe3e8f72c9a2ce94b9b5b9dfc2c2b3936543db9dd540574163a896d160", func := "quirestock/quirkeep.PoolStack", spec := "poolStack", unfollowed := true, recurses := true, apart := false }
def PoolStackSaid : Prop := poolStackRow.holds Try.pinned (OpenSpec.ofChange poolStackSpec)

/-- ITS FALSE NEIGHBOUR: 'it returns false'. Refute it at one input. -/
def poolStackWrong : ChangeSpec := { name := "poolStack", fn := fun _ => fun
  | [d1, d2, d3] => { results := [.lit (.bool false)], args := [d1, d2, d3] }
  | _ => none }
def PoolStackWrongFalsely : Prop := poolStackRow.holds Try.pinned (OpenSpec.ofChange poolStackWrong)

/-- 'quirkeep.PoolRace': WHATEVER THE INPUT: true; the input reads as it did. -/
def poolRaceSpec : ChangeSpec := { name := "poolRace", fn := fun _ => fun
  | [d1, d2, d3] => { results := [.lit (.bool true)], args := [d1, d2, d3] }
  | _ => none }
def poolRaceRow : OpenClaim := { program := "ytlcpioeobnjcdag", sum := "31be3dfe3e8f72c9a2ce94b9b5b9dfc2c2b3936543db9dd540574163a896d160", func := "quirestock/quirkeep.PoolRace", spec := "poolRace", unfollowed := true, recurses := true, apart := false }
def PoolRaceSaid : Prop := poolRaceRow.holds Try.pinned (OpenSpec.ofChange poolRaceSpec)

/-- ITS FALSE NEIGHBOUR: 'it returns false'. Refute it at one input. -/
def poolRaceWrong : ChangeSpec := { name := "poolRace", fn := fun _ => fun
  | [d1, d2, d3] => { results := [.lit (.bool false)], args := [d1, d2, d3] }
  | _ => none }
def PoolRaceWrongFalsely : Prop := poolRaceRow.holds Try.pinned (OpenSpec.ofChange poolRaceWrong)

/-- 'quirkeep.PoolRoom': WHATEVER THE INPUT: true; the input reads as it did. -/
def poolRoomSpec : ChangeSpec := { name := "poolRoom", fn := fun _ => fun
  | [d1, d2] => { results := [.lit (.bool true)], args := [d1, d2] }
  | _ => none }
def poolRoomRow : OpenClaim := { program := "ytlcpioeobnjcdag", sum := "31be3dfe3e8f72c9a2ce94b9b5b9dfc2c2b3936543db9dd540574163a896d160", func := "quirestock/quirkeep.PoolRoom", spec := "poolRoom", unfollowed := true, recurses := true, apart := false }
def PoolRoomSaid : Prop := poolRoomRow.holds Try.pinned (OpenSpec.ofChange poolRoomSpec)

/-- ITS FALSE NEIGHBOUR: 'it returns false'. Refute it at one input. -/
def poolRoomWrong : ChangeSpec := { name := "poolRoom", fn := fun _ => fun
  | [d1, d2] => { results := [.lit (.bool false)], args := [d1, d2] }
  | _ => none }
def PoolRoomWrongFalsely : Prop := poolRoomRow.holds Try.pinned (OpenSpec.ofChange poolRoomWrong)

/- THE SECOND FORM. 'bulk': how many values and letters a reading holds, each counted each time it is reached (what is shared counts as often as it is met; a slice's spare places count too). A statement '..UptoSaid' is the law's where the arguments, and the package variables that the reading takes, are together of bulk at most 1048576: NARROWER than '..Said'. Prove '..Said' where nothing that the law and all that it calls make is longer than what came in: it says more and counts as full. Else prove '..UptoSaid'. A law counts once. -/
mutual
def uptoBulk {H : Type} : DataW H → Nat
  | .lit (.string bytes) => bytes.length + 1
  | .lit _ => 1
  | .nil => 1
  | .ptr d => uptoBulk d + 1
  | .slice elems spare => uptoBulkAll elems + uptoBulkAll spare + 1
  | .agg parts => uptoBulkAll parts + 1
  | .iface _ d => uptoBulk d + 1
  | .map entries => uptoBulkEntries entries + 1
  | .held _ => 1
def uptoBulkAll {H : Type} : List (DataW H) → Nat
  | [] => 0
  | d :: r => uptoBulk d + uptoBulkAll r
def uptoBulkEntries {H : Type} : List (Lit × DataW H) → Nat
  | [] => 0
  | x :: r => uptoBulkEntry x + uptoBulkEntries r
def uptoBulkEntry {H : Type} : Lit × DataW H → Nat
  | (.string bytes, d) => bytes.length + uptoBulk d + 1
  | (_, d) => uptoBulk d + 1
 end
def uptoSmall : (H : Type) → List (DataW H) → Bool := fun _ ds => decide (uptoBulkAll ds ≤ 1048576)
def OpenSpec.upto (s : _root_.Go.ChangeSpec) : _root_.Go.OpenSpec := { _root_.Go.OpenSpec.ofChange s with cond := some uptoSmall }

/-- 'quirkeep.LeafKeeps', WHERE WHAT IT READS IS OF BULK AT MOST 1048576: true; the input reads as it did. -/
def leafKeepsUptoRow : OpenClaim := { program := "ytlcpioeobnjcdag", sum := "31be3dfe3e8f72c9a2ce94b9b5b9dfc2c2b3936543db9dd540574163a896d160", func := "quirestock/quirkeep.LeafKeeps", spec := "leafKeeps", apart := false, narrowed := true }
def LeafKeepsUptoSaid : Prop := leafKeepsUptoRow.holds Try.pinned (OpenSpec.upto leafKeepsSpec)

/-- 'quirkeep.LeafRoom', WHERE WHAT IT READS IS OF BULK AT MOST 1048576: true; the input reads as it did. -/
def leafRoomUptoRow : OpenClaim := { program := "ytlcpioeobnjcdag", sum := "31be3dfe3e8f72c9a2ce94b9b5b9dfc2c2b3936543db9dd540574163a896d160", func := "quirestock/quirkeep.LeafRoom", spec := "leafRoom", apart := false, narrowed := true }
def LeafRoomUptoSaid : Prop := leafRoomUptoRow.holds Try.pinned (OpenSpec.upto leafRoomSpec)

/-- 'quirkeep.PoolBest', WHERE WHAT IT READS IS OF BULK AT MOST 1048576: true; the input reads as it did. -/
def poolBestUptoRow : OpenClaim := { program := "ytlcpioeobnjcdag", sum := "31be3dfe3e8f72c9a2ce94b9b5b9dfc2c2b3936543db9dd540574163a896d160", func := "quirestock/quirkeep.PoolBest", spec := "poolBest", unfollowed := true, recurses := true, apart := false, narrowed := true }
def PoolBestUptoSaid : Prop := poolBestUptoRow.holds Try.pinned (OpenSpec.upto poolBestSpec)

/-- 'quirkeep.PoolStack', WHERE WHAT IT READS IS OF BULK AT MOST 1048576: true; the input reads as it did. -/
def poolStackUptoRow : OpenClaim := { program := "ytlcpioeobnjcdag", sum := "31be3dfe3e8f72c9a2ce94b9b5b9dfc2c2b3936543db9dd540574163a896d160", func := "quirestock/quirkeep.PoolStack", spec := "poolStack", unfollowed := true, recurses := true, apart := false, narrowed := true }
def PoolStackUptoSaid : Prop := poolStackUptoRow.holds Try.pinned (OpenSpec.upto poolStackSpec)

/-- 'quirkeep.PoolRace', WHERE WHAT IT READS IS OF BULK AT MOST 1048576: true; the input reads as it did. -/
def poolRaceUptoRow : OpenClaim := { program := "ytlcpioeobnjcdag", sum := "31be3dfe3e8f72c9a2ce94b9b5b9dfc2c2b3936543db9dd540574163a896d160", func := "quirestock/quirkeep.PoolRace", spec := "poolRace", unfollowed := true, recurses := true, apart := false, narrowed := true }
def PoolRaceUptoSaid : Prop := poolRaceUptoRow.holds Try.pinned (OpenSpec.upto poolRaceSpec)

/-- 'quirkeep.PoolRoom', WHERE WHAT IT READS IS OF BULK AT MOST 1048576: true; the input reads as it did. -/
def poolRoomUptoRow : OpenClaim := { program := "ytlcpioeobnjcdag", sum := "31be3dfe3e8f72c9a2ce94b9b5b9dfc2c2b3936543db9dd540574163a896d160", func := "quirestock/quirkeep.PoolRoom", spec := "poolRoom", unfollowed := true, recurses := true, apart := false, narrowed := true }
def PoolRoomUptoSaid : Prop := poolRoomUptoRow.holds Try.pinned (OpenSpec.upto poolRoomSpec)

end Rows
end Go.Proofs.Ytlcpioeobnjcdag
