/-
  No cell of these rows narrows 'for every input' (looked for: loops, veiled, ifaces, maps, wideKeys, modest, calm, conditions, laid).
  DERIVED. THE GIVEN ROWS OF THIS SEAT. 6 by the template 'for every input the law returns true; each argument reads behind the call as it read before'; 0 by the template 'total and deterministic' (their statements: YtjoaedkgjnchoaiTotals.lean).
  GIVEN WITH THE SEED: the statements are not yours to turn. If you find one false, say at which input.
  Laid BY PROGRAM, IN A SANDBOX (cutbox-rows.mjs): the forced cells as the released guide's own fill.sh prints them over the translation 6d8b018dbec0d3a8… (all of the seat's roots in one cut). By AI agents, Wed Nov 11 2026. No macro, syntax, notation, axiom, sorry.
-/
import Derived.Test.YtjoaedkgjnchoaiChecked
import GoSem.Claim
import GoSem.ClaimJoined
import GoSem.ClaimMapViews
import Derived.JoinedTies
import Derived.KernelRfl
namespace Go.Proofs.Ytjoaedkgjnchoai
/- THE CELL 'sum', in the pinned program and in every row, IS THE sha256 OF THE DUMP (.gsa) THAT YtjoaedkgjnchoaiProg.lean LOADS. Nothing in Lean hashes anything: it is a label: what it is worth is what the hold of that sum in a sandbox is worth. -/
noncomputable def Try.pinned : Pinned := { name := "ytjoaedkgjnchoai", sum := "6d8b018dbec0d3a862ea75973dd5a1a1322757a9ee3012441255d361e05ce2a7", checked := Try.checked }
namespace Rows
def none {H : Type} : Left H := { results := [], args := [] }

/-- 'quirkeep.RunSerial': WHATEVER THE INPUT: true; the input reads as it did. -/
def runSerialSpec : ChangeSpec := { name := "runSerial", fn := fun _ => fun
  | [d1, d2] => { results := [.lit (.bool true)], args := [d1, d2] }
  | _ => none }
def runSerialRow : OpenClaim := { program := "ytjoaedkgjnchoai", sum := "6d8b018dbec0d3a862ea75973dd5a1a1322757a9ee3012441255d361e05ce2a7", func := "quirestock/quirkeep.RunSerial", spec := "runSerial", plainKeys := false, apart := false }
def RunSerialSaid : Prop := runSerialRow.holds Try.pinned (OpenSpec.ofChange runSerialSpec)

/-- ITS FALSE NEIGHBOUR: 'it returns false'. Refute it at one input. -/
def runSerialWrong : ChangeSpec := { name := "runSerial", fn := fun _ => fun
  | [d1, d2] => { results := [.lit (.bool false)], args := [d1, d2] }
  | _ => none }
def RunSerialWrongFalsely : Prop := runSerialRow.holds Try.pinned (OpenSpec.ofChange runSerialWrong)

/-- 'quirkeep.RunKinds': WHATEVER THE INPUT: true; the input reads as it did. -/
def runKindsSpec : ChangeSpec := { name := "runKinds", fn := fun _ => fun
  | [d] => { results := [.lit (.bool true)], args := [d] }
  | _ => none }
def runKindsRow : OpenClaim := { program := "ytjoaedkgjnchoai", sum := "6d8b018dbec0d3a862ea75973dd5a1a1322757a9ee3012441255d361e05ce2a7", func := "quirestock/quirkeep.RunKinds", spec := "runKinds", plainKeys := false, apart := false }
def RunKindsSaid : Prop := runKindsRow.holds Try.pinned (OpenSpec.ofChange runKindsSpec)

/-- ITS FALSE NEIGHBOUR: 'it returns false'. Refute it at one input. -/
def runKindsWrong : ChangeSpec := { name := "runKinds", fn := fun _ => fun
  | [d] => { results := [.lit (.bool false)], args := [d] }
  | _ => none }
def RunKindsWrongFalsely : Prop := runKindsRow.holds Try.pinned (OpenSpec.ofChange runKindsWrong)

/-- 'quirkeep.RunSwaps': WHATEVER THE INPUT: true; the input reads as it did. -/
def runSwapsSpec : ChangeSpec := { name := "runSwaps", fn := fun _ => fun
  | [d1, d2] => { results := [.lit (.bool true)], args := [d1, d2] }
  | _ => none }
def runSwapsRow : OpenClaim := { program := "ytjoaedkgjnchoai", sum := "6d8b018dbec0d3a862ea75973dd5a1a1322757a9ee3012441255d361e05ce2a7", func := "quirestock/quirkeep.RunSwaps", spec := "runSwaps", plainKeys := false, apart := false }
def RunSwapsSaid : Prop := runSwapsRow.holds Try.pinned (OpenSpec.ofChange runSwapsSpec)

/-- ITS FALSE NEIGHBOUR: 'it returns false'. Refute it at one input. -/
def runSwapsWrong : ChangeSpec := { name := "runSwaps", fn := fun _ => fun
  | [d1, d2] => { results := [.lit (.bool false)], args := [d1, d2] }
  | _ => none }
def RunSwapsWrongFalsely : Prop := runSwapsRow.holds Try.pinned (OpenSpec.ofChange runSwapsWrong)

/-- 'quirkeep.SeeLike': WHATEVER THE INPUT: true; the input reads as it did. -/
def seeLikeSpec : ChangeSpec := { name := "seeLike", fn := fun _ => fun
  | [d1, d2] => { results := [.lit (.bool true)], args := [d1, d2] }
  | _ => none }
def seeLikeRow : OpenClaim := { program := "ytjoaedkgjnchoai", sum := "6d8b018dbec0d3a862ea75973dd5a1a1322757a9ee3012441255d361e05ce2a7", func := "quirestock/quirkeep.SeeLike", spec := "seeLike", unfollowed := true, recurses := true, plainKeys := false, apart := false }
def SeeLikeSaid : Prop := seeLikeRow.holds Try.pinned (OpenSpec.ofChange seeLikeSpec)

/-- ITS FALSE NEIGHBOUR: 'it returns false'. Refute it at one input. -/
def seeLikeWrong : ChangeSpec := { name := "seeLike", fn := fun _ => fun
  | [d1, d2] => { results := [.lit (.bool false)], args := [d1, d2] }
  | _ => none }
def SeeLikeWrongFalsely : Prop := seeLikeRow.holds Try.pinned (OpenSpec.ofChange seeLikeWrong)

/-- 'quirkeep.SeeSerial': WHATEVER THE INPUT: true; the input reads as it did. -/
def seeSerialSpec : ChangeSpec := { name := "seeSerial", fn := fun _ => fun
  | [d] => { results := [.lit (.bool true)], args := [d] }
  | _ => none }
def seeSerialRow : OpenClaim := { program := "ytjoaedkgjnchoai", sum := "6d8b018dbec0d3a862ea75973dd5a1a1322757a9ee3012441255d361e05ce2a7", func := "quirestock/quirkeep.SeeSerial", spec := "seeSerial", plainKeys := false, apart := false }
def SeeSerialSaid : Prop := seeSerialRow.holds Try.pinned (OpenSpec.ofChange seeSerialSpec)

/-- ITS FALSE NEIGHBOUR: 'it returns false'. Refute it at one input. -/
def seeSerialWrong : ChangeSpec := { name := "seeSerial", fn := fun _ => fun
  | [d] => { results := [.lit (.bool false)], args := [d] }
  | _ => none }
def SeeSerialWrongFalsely : Prop := seeSerialRow.holds Try.pinned (OpenSpec.ofChange seeSerialWrong)

/-- 'quirkeep.LockJoins': WHATEVER THE INPUT: true; the input reads as it did. -/
def lockJoinsSpec : ChangeSpec := { name := "lockJoins", fn := fun _ => fun
  | [d1, d2, d3] => { results := [.lit (.bool true)], args := [d1, d2, d3] }
  | _ => none }
def lockJoinsRow : OpenClaim := { program := "ytjoaedkgjnchoai", sum := "6d8b018dbec0d3a862ea75973dd5a1a1322757a9ee3012441255d361e05ce2a7", func := "quirestock/quirkeep.LockJoins", spec := "lockJoins", plainKeys := false, apart := false }
def LockJoinsSaid : Prop := lockJoinsRow.holds Try.pinned (OpenSpec.ofChange lockJoinsSpec)

/-- ITS FALSE NEIGHBOUR: 'it returns false'. Refute it at one input. -/
def lockJoinsWrong : ChangeSpec := { name := "lockJoins", fn := fun _ => fun
  | [d1, d2, d3] => { results := [.lit (.bool false)], args := [d1, d2, d3] }
  | _ => none }
def LockJoinsWrongFalsely : Prop := lockJoinsRow.holds Try.pinned (OpenSpec.ofChange lockJoinsWrong)

/- THE SECOND FORM. 'bulk': how many values and letters a reading holds, each counted each time it is reached (what is shared counts as often as it is met; a slice's spare places count too). A statement '..UptoSaid' is the law's where the arguments, and the package variables that the reading takes, are together of bulk at most 1048576: NARROWER than '..Said'. Prove '..Said' where nothing that the law and all that it calls make is longer than what came in: it says more and counts as full. Else prove '..UptoSaid'. A law counts once. -/
mutual
def uptoBulk {H : Type} : DataW H → Nat
  | .lit (.string bytes) => bytes.length + 1
  | .lit _ => 1
  | .nil => 1
  | .ptr d => uptoBulk d + 1
  | .slice elems spare => uptoBulkAll elems + uptoBulkAll spare + 1
  | .agg parts => uptoBulkAll parts + 1
  | .iface _ d => uptoBulk d + 1
  | .map entries => uptoBulkEntries entries + 1
  | .held _ => 1
def uptoBulkAll {H : Type} : List (DataW H) → Nat
  | [] => 0
  | d :: r => uptoBulk d + uptoBulkAll r
def uptoBulkEntries {H : Type} : List (Lit × DataW H) → Nat
  | [] => 0
  | x :: r => uptoBulkEntry x + uptoBulkEntries r
def uptoBulkEntry {H : Type} : Lit × DataW H → Nat
  | (.string bytes, d) => bytes.length + uptoBulk d + 1
  | (_, d) => uptoBulk d + 1
 end
def uptoSmall : (H : Type) → List (DataW H) → Bool := fun _ ds => decide (uptoBulkAll ds ≤ 1048576)
def OpenSpec.upto (s : _root_.Go.ChangeSpec) : _root_.Go.OpenSpec := { _root_.Go.OpenSpec.ofChange s with cond := some uptoSmall }

/-- 'quirkeep.RunSerial', WHERE WHAT IT READS IS OF BULK AT MOST 1048576: true; the input reads as it did. -/
def runSerialUptoRow : OpenClaim := { program := "ytjoaedkgjnchoai", sum := "6d8b018dbec0d3a862ea75973dd5a1a1322757a9ee3012441255d361e05ce2a7", func := "quirestock/quirkeep.RunSerial", spec := "runSerial", plainKeys := false, apart := false, narrowed := true }
def RunSerialUptoSaid : Prop := runSerialUptoRow.holds Try.pinned (OpenSpec.upto runSerialSpec)

/-- 'quirkeep.RunKinds', WHERE WHAT IT READS IS OF BULK AT MOST 1048576: true; the input reads as it did. -/
def runKindsUptoRow : OpenClaim := { program := "ytjoaedkgjnchoai", sum := "6d8b018dbec0d3a862ea75973dd5a1a1322757a9ee3012441255d361e05ce2a7", func := "quirestock/quirkeep.RunKinds", spec := "runKinds", plainKeys := false, apart := false, narrowed := true }
def RunKindsUptoSaid : Prop := runKindsUptoRow.holds Try.pinned (OpenSpec.upto runKindsSpec)

/-- 'quirkeep.RunSwaps', WHERE WHAT IT READS IS OF BULK AT MOST 1048576: true; the input reads as it did. -/
def runSwapsUptoRow : OpenClaim := { program := "ytjoaedkgjnchoai", sum := "6d8b018dbec0d3a862ea75973dd5a1a1322757a9ee3012441255d361e05ce2a7", func := "quirestock/quirkeep.RunSwaps", spec := "runSwaps", plainKeys := false, apart := false, narrowed := true }
def RunSwapsUptoSaid : Prop := runSwapsUptoRow.holds Try.pinned (OpenSpec.upto runSwapsSpec)

/-- 'quirkeep.SeeLike', WHERE WHAT IT READS IS OF BULK AT MOST 1048576: true; the input reads as it did. -/
def seeLikeUptoRow : OpenClaim := { program := "ytjoaedkgjnchoai", sum := "6d8b018dbec0d3a862ea75973dd5a1a1322757a9ee3012441255d361e05ce2a7", func := "quirestock/quirkeep.SeeLike", spec := "seeLike", unfollowed := true, recurses := true, plainKeys := false, apart := false, narrowed := true }
def SeeLikeUptoSaid : Prop := seeLikeUptoRow.holds Try.pinned (OpenSpec.upto seeLikeSpec)

/-- 'quirkeep.SeeSerial', WHERE WHAT IT READS IS OF BULK AT MOST 1048576: true; the input reads as it did. -/
def seeSerialUptoRow : OpenClaim := { program := "ytjoaedkgjnchoai", sum := "6d8b018dbec0d3a862ea75973dd5a1a1322757a9ee3012441255d361e05ce2a7", func := "quirestock/quirkeep.SeeSerial", spec := "seeSerial", plainKeys := false, apart := false, narrowed := true }
def SeeSerialUptoSaid : Prop := seeSerialUptoRow.holds Try.pinned (OpenSpec.upto seeSerialSpec)

/-- 'quirkeep.LockJoins', WHERE WHAT IT READS IS OF BULK AT MOST 1048576: true; the input reads as it did. -/
def lockJoinsUptoRow : OpenClaim := { program := "ytjoaedkgjnchoai", sum := "6d8b018dbec0d3a862ea75973dd5a1a1322757a9ee3012441255d361e05ce2a7", func := "quirestock/quirkeep.LockJoins", spec := "lockJoins", plainKeys := false, apart := false, narrowed := true }
def LockJoinsUptoSaid : Prop := lockJoinsUptoRow.holds Try.pinned (OpenSpec.upto lockJoinsSpec)

end Rows
end Go.Proofs.Ytjoaedkgjnchoai
