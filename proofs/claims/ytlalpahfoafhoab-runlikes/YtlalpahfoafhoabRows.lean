/-
  No cell of these rows narrows 'for every input' (looked for: loops, veiled, ifaces, maps, wideKeys, modest, calm, conditions, laid).
  DERIVED. THE GIVEN ROWS OF THIS SEAT. 5 by the template 'for every input the law returns true; each argument reads behind the call as it read before'; 0 by the template 'total and deterministic' (their statements: YtlalpahfoafhoabTotals.lean).
  GIVEN WITH THE SEED: the statements are not yours to turn. If you find one false, say at which input.
  Laid BY PROGRAM, IN A SANDBOX (cutbox-rows.mjs): the forced cells as the released guide's own fill.sh prints them over the translation 3ce5e896adc8e53d… (all of the seat's roots in one cut). By AI agents, Wed Nov 11 2026. No macro, syntax, notation, axiom, sorry.
-/
import Derived.Test.YtlalpahfoafhoabChecked
import GoSem.Claim
import GoSem.ClaimJoined
import GoSem.ClaimMapViews
import Derived.JoinedTies
import Derived.KernelRfl
namespace Go.Proofs.Ytlalpahfoafhoab
/- THE CELL 'sum', in the pinned program and in every row, IS THE sha256 OF THE DUMP (.gsa) THAT YtlalpahfoafhoabProg.lean LOADS. Nothing in Lean hashes anything: it is a label: what it is worth is what the hold of that sum in a sandbox is worth. -/
noncomputable def Try.pinned : Pinned := { name := "ytlalpahfoafhoab", sum := "3ce5e896adc8e53dd1201de2d3abdfb8f4cbd98c7065e6b5835fc6f947be5e95", checked := Try.checked }
namespace Rows
def none {H : Type} : Left H := { results := [], args := [] }

/-- 'quirlaw.BuddySays': WHATEVER THE INPUT: true; the input reads as it did. -/
def buddySaysSpec : ChangeSpec := { name := "buddySays", fn := fun _ => fun
  | [d1, d2, d3] => { results := [.lit (.bool true)], args := [d1, d2, d3] }
  | _ => none }
def buddySaysRow : OpenClaim := { program := "ytlalpahfoafhoab", sum := "3ce5e896adc8e53dd1201de2d3abdfb8f4cbd98c7065e6b5835fc6f947be5e95", func := "quirestock/quirlaw.BuddySays", spec := "buddySays", inPlace := ["slices.overlaps[quirestock/api.Block]"], unfollowed := true, recurses := true, plainKeys := false, apart := false }
def BuddySaysSaid : Prop := buddySaysRow.holds Try.pinned (OpenSpec.ofChange buddySaysSpec)

/-- ITS FALSE NEIGHBOUR: 'it returns false'. Refute it at one input. -/
def buddySaysWrong : ChangeSpec := { name := "buddySays", fn := fun _ => fun
  | [d1, d2, d3] => { results := [.lit (.bool false)], args := [d1, d2, d3] }
  | _ => none }
def BuddySaysWrongFalsely : Prop := buddySaysRow.holds Try.pinned (OpenSpec.ofChange buddySaysWrong)

/-- 'quirlaw.TreePlays': WHATEVER THE INPUT: true; the input reads as it did. -/
def treePlaysSpec : ChangeSpec := { name := "treePlays", fn := fun _ => fun
  | [d1, d2] => { results := [.lit (.bool true)], args := [d1, d2] }
  | _ => none }
def treePlaysRow : OpenClaim := { program := "ytlalpahfoafhoab", sum := "3ce5e896adc8e53dd1201de2d3abdfb8f4cbd98c7065e6b5835fc6f947be5e95", func := "quirestock/quirlaw.TreePlays", spec := "treePlays", inPlace := ["slices.overlaps[quirestock/tree.entry]", "slices.overlaps[*quirestock/tree.node]", "slices.overlaps[int]"], unfollowed := true, recurses := true, plainKeys := false, apart := false }
def TreePlaysSaid : Prop := treePlaysRow.holds Try.pinned (OpenSpec.ofChange treePlaysSpec)

/-- ITS FALSE NEIGHBOUR: 'it returns false'. Refute it at one input. -/
def treePlaysWrong : ChangeSpec := { name := "treePlays", fn := fun _ => fun
  | [d1, d2] => { results := [.lit (.bool false)], args := [d1, d2] }
  | _ => none }
def TreePlaysWrongFalsely : Prop := treePlaysRow.holds Try.pinned (OpenSpec.ofChange treePlaysWrong)

/-- 'quirlaw.RunSays': WHATEVER THE INPUT: true; the input reads as it did. -/
def runSaysSpec : ChangeSpec := { name := "runSays", fn := fun _ => fun
  | [d] => { results := [.lit (.bool true)], args := [d] }
  | _ => none }
def runSaysRow : OpenClaim := { program := "ytlalpahfoafhoab", sum := "3ce5e896adc8e53dd1201de2d3abdfb8f4cbd98c7065e6b5835fc6f947be5e95", func := "quirestock/quirlaw.RunSays", spec := "runSays", unfollowed := true, recurses := true, plainKeys := false, apart := false }
def RunSaysSaid : Prop := runSaysRow.holds Try.pinned (OpenSpec.ofChange runSaysSpec)

/-- ITS FALSE NEIGHBOUR: 'it returns false'. Refute it at one input. -/
def runSaysWrong : ChangeSpec := { name := "runSays", fn := fun _ => fun
  | [d] => { results := [.lit (.bool false)], args := [d] }
  | _ => none }
def RunSaysWrongFalsely : Prop := runSaysRow.holds Try.pinned (OpenSpec.ofChange runSaysWrong)

/-- 'quirlaw.RunLikes': WHATEVER THE INPUT: true; the input reads as it did. -/
def runLikesSpec : ChangeSpec := { name := "runLikes", fn := fun _ => fun
  | [d1, d2] => { results := [.lit (.bool true)], args := [d1, d2] }
  | _ => none }
def runLikesRow : OpenClaim := { program := "ytlalpahfoafhoab", sum := "3ce5e896adc8e53dd1201de2d3abdfb8f4cbd98c7065e6b5835fc6f947be5e95", func := "quirestock/quirlaw.RunLikes", spec := "runLikes", unfollowed := true, recurses := true, plainKeys := false, apart := false }
def RunLikesSaid : Prop := runLikesRow.holds Try.pinned (OpenSpec.ofChange runLikesSpec)

/-- ITS FALSE NEIGHBOUR: 'it returns false'. Refute it at one input. -/
def runLikesWrong : ChangeSpec := { name := "runLikes", fn := fun _ => fun
  | [d1, d2] => { results := [.lit (.bool false)], args := [d1, d2] }
  | _ => none }
def RunLikesWrongFalsely : Prop := runLikesRow.holds Try.pinned (OpenSpec.ofChange runLikesWrong)

/-- 'quirlaw.SeeSays': WHATEVER THE INPUT: true; the input reads as it did. -/
def seeSaysSpec : ChangeSpec := { name := "seeSays", fn := fun _ => fun
  | [d] => { results := [.lit (.bool true)], args := [d] }
  | _ => none }
def seeSaysRow : OpenClaim := { program := "ytlalpahfoafhoab", sum := "3ce5e896adc8e53dd1201de2d3abdfb8f4cbd98c7065e6b5835fc6f947be5e95", func := "quirestock/quirlaw.SeeSays", spec := "seeSays", plainKeys := false, apart := false }
def SeeSaysSaid : Prop := seeSaysRow.holds Try.pinned (OpenSpec.ofChange seeSaysSpec)

/-- ITS FALSE NEIGHBOUR: 'it returns false'. Refute it at one input. -/
def seeSaysWrong : ChangeSpec := { name := "seeSays", fn := fun _ => fun
  | [d] => { results := [.lit (.bool false)], args := [d] }
  | _ => none }
def SeeSaysWrongFalsely : Prop := seeSaysRow.holds Try.pinned (OpenSpec.ofChange seeSaysWrong)

/- THE SECOND FORM. 'bulk': how many values and letters a reading holds, each counted each time it is reached (what is shared counts as often as it is met; a slice's spare places count too). A statement '..UptoSaid' is the law's where the arguments, and the package variables that the reading takes, are together of bulk at most 1048576: NARROWER than '..Said'. Prove '..Said' where nothing that the law and all that it calls make is longer than what came in: it says more and counts as full. Else prove '..UptoSaid'. A law counts once. -/
mutual
def uptoBulk {H : Type} : DataW H → Nat
  | .lit (.string bytes) => bytes.length + 1
  | .lit _ => 1
  | .nil => 1
  | .ptr d => uptoBulk d + 1
  | .slice elems spare => uptoBulkAll elems + uptoBulkAll spare + 1
  | .agg parts => uptoBulkAll parts + 1
  | .iface _ d => uptoBulk d + 1
  | .map entries => uptoBulkEntries entries + 1
  | .held _ => 1
def uptoBulkAll {H : Type} : List (DataW H) → Nat
  | [] => 0
  | d :: r => uptoBulk d + uptoBulkAll r
def uptoBulkEntries {H : Type} : List (Lit × DataW H) → Nat
  | [] => 0
  | x :: r => uptoBulkEntry x + uptoBulkEntries r
def uptoBulkEntry {H : Type} : Lit × DataW H → Nat
  | (.string bytes, d) => bytes.length + uptoBulk d + 1
  | (_, d) => uptoBulk d + 1
 end
def uptoSmall : (H : Type) → List (DataW H) → Bool := fun _ ds => decide (uptoBulkAll ds ≤ 1048576)
def OpenSpec.upto (s : _root_.Go.ChangeSpec) : _root_.Go.OpenSpec := { _root_.Go.OpenSpec.ofChange s with cond := some uptoSmall }

/-- 'quirlaw.BuddySays', WHERE WHAT IT READS IS OF BULK AT MOST 1048576: true; the input reads as it did. -/
def buddySaysUptoRow : OpenClaim := { program := "ytlalpahfoafhoab", sum := "3ce5e896adc8e53dd1201de2d3abdfb8f4cbd98c7065e6b5835fc6f947be5e95", func := "quirestock/quirlaw.BuddySays", spec := "buddySays", inPlace := ["slices.overlaps[quirestock/api.Block]"], unfollowed := true, recurses := true, plainKeys := false, apart := false, narrowed := true }
def BuddySaysUptoSaid : Prop := buddySaysUptoRow.holds Try.pinned (OpenSpec.upto buddySaysSpec)

/-- 'quirlaw.TreePlays', WHERE WHAT IT READS IS OF BULK AT MOST 1048576: true; the input reads as it did. -/
def treePlaysUptoRow : OpenClaim := { program := "ytlalpahfoafhoab", sum := "3ce5e896adc8e53dd1201de2d3abdfb8f4cbd98c7065e6b5835fc6f947be5e95", func := "quirestock/quirlaw.TreePlays", spec := "treePlays", inPlace := ["slices.overlaps[quirestock/tree.entry]", "slices.overlaps[*quirestock/tree.node]", "slices.overlaps[int]"], unfollowed := true, recurses := true, plainKeys := false, apart := false, narrowed := true }
def TreePlaysUptoSaid : Prop := treePlaysUptoRow.holds Try.pinned (OpenSpec.upto treePlaysSpec)

/-- 'quirlaw.RunSays', WHERE WHAT IT READS IS OF BULK AT MOST 1048576: true; the input reads as it did. -/
def runSaysUptoRow : OpenClaim := { program := "ytlalpahfoafhoab", sum := "3ce5e896adc8e53dd1201de2d3abdfb8f4cbd98c7065e6b5835fc6f947be5e95", func := "quirestock/quirlaw.RunSays", spec := "runSays", unfollowed := true, recurses := true, plainKeys := false, apart := false, narrowed := true }
def RunSaysUptoSaid : Prop := runSaysUptoRow.holds Try.pinned (OpenSpec.upto runSaysSpec)

/-- 'quirlaw.RunLikes', WHERE WHAT IT READS IS OF BULK AT MOST 1048576: true; the input reads as it did. -/
def runLikesUptoRow : OpenClaim := { program := "ytlalpahfoafhoab", sum := "3ce5e896adc8e53dd1201de2d3abdfb8f4cbd98c7065e6b5835fc6f947be5e95", func := "quirestock/quirlaw.RunLikes", spec := "runLikes", unfollowed := true, recurses := true, plainKeys := false, apart := false, narrowed := true }
def RunLikesUptoSaid : Prop := runLikesUptoRow.holds Try.pinned (OpenSpec.upto runLikesSpec)

/-- 'quirlaw.SeeSays', WHERE WHAT IT READS IS OF BULK AT MOST 1048576: true; the input reads as it did. -/
def seeSaysUptoRow : OpenClaim := { program := "ytlalpahfoafhoab", sum := "3ce5e896adc8e53dd1201de2d3abdfb8f4cbd98c7065e6b5835fc6f947be5e95", func := "quirestock/quirlaw.SeeSays", spec := "seeSays", plainKeys := false, apart := false, narrowed := true }
def SeeSaysUptoSaid : Prop := seeSaysUptoRow.holds Try.pinned (OpenSpec.upto seeSaysSpec)

end Rows
end Go.Proofs.Ytlalpahfoafhoab
