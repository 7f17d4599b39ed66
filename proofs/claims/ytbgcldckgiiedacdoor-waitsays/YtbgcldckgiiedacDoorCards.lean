/-
  DERIVED. GIVEN WITH THE SEED: THE CARDS: each row of YtbgcldckgiiedacDoorRows.lean that lists a variable, with what it lists TIED to the program's text (the seventh form; the later family's looks); each row that meets fmt, with fmt's text TOLD by the authors' own Lean function (tested against real Go, not proved from fmt's source: count such statements apart). THE CARD IS WHAT COUNTS. Prove the row's statement (the work); the ties are given (YtbgcldckgiiedacDoorTie.lean); close each card by the builder's one call (the guide's Derived/Test/ToyasCard.lean, 'card_holds'). Laid BY PROGRAM, IN A SANDBOX (cutbox-door.mjs). By AI agents, Wed Nov 11 2026. No macro, syntax, notation, axiom, sorry.
-/
import Derived.Test.YtbgcldckgiiedacDoorRows
import GoSem.ClaimSeven
namespace Go.Proofs.YtbgcldckgiiedacDoor
namespace Rows

/-- THE TIED CARD OF 'quirlaw.WaitSays'. -/
def waitSaysCard : Claim7 := { stood := { row := waitSaysRow, standIns := [], harness := (true, "57e3c45f76f2309453ad04cb2c25a7a3ae4093de7d1e480c9670c975f0a91004"), looks := false }, kinds := [], alts := [], laidByText := true, laidKinds := [.data], laidTests := true, laidLooks := .later }
def WaitSaysCardSaid : Prop := Claim7.holds Tryd.pinned (.plain (OpenSpec.ofChange waitSaysSpec)) waitSaysCard

/-- THE SECOND FORM's CARD OF 'quirlaw.WaitSays'. -/
def waitSaysUptoCard : Claim7 := { stood := { row := waitSaysUptoRow, standIns := [], harness := (true, "57e3c45f76f2309453ad04cb2c25a7a3ae4093de7d1e480c9670c975f0a91004"), looks := false }, kinds := [], alts := [], laidByText := true, laidKinds := [.data], laidTests := true, laidLooks := .later }
def WaitSaysUptoCardSaid : Prop := Claim7.holds Tryd.pinned (.plain (OpenSpec.upto waitSaysSpec)) waitSaysUptoCard
end Rows
end Go.Proofs.YtbgcldckgiiedacDoor
