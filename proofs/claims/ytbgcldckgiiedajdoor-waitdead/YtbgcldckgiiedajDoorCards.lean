/-
  DERIVED. GIVEN WITH THE SEED: THE CARDS: each row of YtbgcldckgiiedajDoorRows.lean that lists a variable, with what it lists TIED to the program's text (the seventh form; the later family's looks); each row that meets fmt, with fmt's text TOLD by the authors' own Lean function (tested against real Go, not proved from fmt's source: count such statements apart). THE CARD IS WHAT COUNTS. Prove the row's statement (the work); the ties are given (YtbgcldckgiiedajDoorTie.lean); close each card by the builder's one call (the guide's Derived/Test/ToyasCard.lean, 'card_holds'). Laid BY PROGRAM, IN A SANDBOX (cutbox-door.mjs). By AI agents, Wed Nov 11 2026. No macro, syntax, notation, axiom, sorry.
-/
import Derived.Test.YtbgcldckgiiedajDoorRows
import GoSem.ClaimSeven
namespace Go.Proofs.YtbgcldckgiiedajDoor
namespace Rows

/-- THE TIED CARD OF 'quirkeep.WaitDead'. -/
def waitDeadCard : Claim7 := { stood := { row := waitDeadRow, standIns := [], harness := (true, "67652ca1f9518a91329ad60063003b8d206a30c210cb6f9cc26dc6b3de546d09"), looks := false }, kinds := [], alts := [], laidByText := true, laidKinds := [.data], laidTests := true, laidLooks := .later }
def WaitDeadCardSaid : Prop := Claim7.holds Tryd.pinned (.plain (OpenSpec.ofChange waitDeadSpec)) waitDeadCard

/-- THE TIED CARD OF 'quirkeep.WaitVictims'. -/
def waitVictimsCard : Claim7 := { stood := { row := waitVictimsRow, standIns := [], harness := (true, "67652ca1f9518a91329ad60063003b8d206a30c210cb6f9cc26dc6b3de546d09"), looks := false }, kinds := [], alts := [], laidByText := true, laidKinds := [.data], laidTests := true, laidLooks := .later }
def WaitVictimsCardSaid : Prop := Claim7.holds Tryd.pinned (.plain (OpenSpec.ofChange waitVictimsSpec)) waitVictimsCard

/-- THE SECOND FORM's CARD OF 'quirkeep.WaitDead'. -/
def waitDeadUptoCard : Claim7 := { stood := { row := waitDeadUptoRow, standIns := [], harness := (true, "67652ca1f9518a91329ad60063003b8d206a30c210cb6f9cc26dc6b3de546d09"), looks := false }, kinds := [], alts := [], laidByText := true, laidKinds := [.data], laidTests := true, laidLooks := .later }
def WaitDeadUptoCardSaid : Prop := Claim7.holds Tryd.pinned (.plain (OpenSpec.upto waitDeadSpec)) waitDeadUptoCard

/-- THE SECOND FORM's CARD OF 'quirkeep.WaitVictims'. -/
def waitVictimsUptoCard : Claim7 := { stood := { row := waitVictimsUptoRow, standIns := [], harness := (true, "67652ca1f9518a91329ad60063003b8d206a30c210cb6f9cc26dc6b3de546d09"), looks := false }, kinds := [], alts := [], laidByText := true, laidKinds := [.data], laidTests := true, laidLooks := .later }
def WaitVictimsUptoCardSaid : Prop := Claim7.holds Tryd.pinned (.plain (OpenSpec.upto waitVictimsSpec)) waitVictimsUptoCard
end Rows
end Go.Proofs.YtbgcldckgiiedajDoor
