/-
  DERIVED. GIVEN WITH THE SEED: THE CARDS: each row of YthppcklegdnjdaaGreatDoorRows.lean that lists a variable, with what it lists TIED to the program's text (the seventh form; the later family's looks); each row that meets fmt, with fmt's text TOLD by the authors' own Lean function (tested against real Go, not proved from fmt's source: count such statements apart). THE CARD IS WHAT COUNTS. Prove the row's statement (the work); the ties are given (YthppcklegdnjdaaGreatDoorTie.lean); close each card by the builder's one call (the guide's Derived/Test/ToyasCard.lean, 'card_holds'). Laid BY PROGRAM, IN A SANDBOX (cutbox-door.mjs). By AI agents, Wed Nov 11 2026. No macro, syntax, notation, axiom, sorry.
-/
import Derived.Test.YthppcklegdnjdaaGreatDoorRows
import GoSem.ClaimSeven
namespace Go.Proofs.YthppcklegdnjdaaGreatDoor
namespace Rows

/-- THE TIED CARD OF 'tesseractlaw01.ExactBack'. -/
def exactBackCard : Claim7 := { stood := { row := exactBackRow, standIns := [], harness := (true, "fd7a1e508ccc94714450a4bd8e4fd8a8272ce401cbded2dc2e050c17356a48af"), looks := true }, kinds := [], alts := [], laidByText := true, laidKinds := [.data, .data, .data, .data, .sentinel, .sentinel, .pinned], laidTests := true, laidLooks := .later }
def ExactBackCardSaid : Prop := Claim7.holds Tryz.pinned (.plain (OpenSpec.ofChange exactBackSpec)) exactBackCard

/-- THE TIED CARD OF 'tesseractlaw01.ExactParts'. -/
def exactPartsCard : Claim7 := { stood := { row := exactPartsRow, standIns := [], harness := (true, "fd7a1e508ccc94714450a4bd8e4fd8a8272ce401cbded2dc2e050c17356a48af"), looks := true }, kinds := [], alts := [], laidByText := true, laidKinds := [.data, .data, .data, .data, .sentinel, .sentinel, .pinned], laidTests := true, laidLooks := .later }
def ExactPartsCardSaid : Prop := Claim7.holds Tryz.pinned (.plain (OpenSpec.ofChange exactPartsSpec)) exactPartsCard

/-- THE TIED CARD OF 'tesseractlaw01.ExactTyped'. -/
def exactTypedCard : Claim7 := { stood := { row := exactTypedRow, standIns := [], harness := (true, "fd7a1e508ccc94714450a4bd8e4fd8a8272ce401cbded2dc2e050c17356a48af"), looks := true }, kinds := [], alts := [], laidByText := true, laidKinds := [.data, .data, .data, .data, .sentinel, .sentinel, .pinned], laidTests := true, laidLooks := .later }
def ExactTypedCardSaid : Prop := Claim7.holds Tryz.pinned (.plain (OpenSpec.ofChange exactTypedSpec)) exactTypedCard

/-- THE SECOND FORM's CARD OF 'tesseractlaw01.ExactBack'. -/
def exactBackUptoCard : Claim7 := { stood := { row := exactBackUptoRow, standIns := [], harness := (true, "fd7a1e508ccc94714450a4bd8e4fd8a8272ce401cbded2dc2e050c17356a48af"), looks := true }, kinds := [], alts := [], laidByText := true, laidKinds := [.data, .data, .data, .data, .sentinel, .sentinel, .pinned], laidTests := true, laidLooks := .later }
def ExactBackUptoCardSaid : Prop := Claim7.holds Tryz.pinned (.plain (OpenSpec.upto exactBackSpec)) exactBackUptoCard

/-- THE SECOND FORM's CARD OF 'tesseractlaw01.ExactParts'. -/
def exactPartsUptoCard : Claim7 := { stood := { row := exactPartsUptoRow, standIns := [], harness := (true, "fd7a1e508ccc94714450a4bd8e4fd8a8272ce401cbded2dc2e050c17356a48af"), looks := true }, kinds := [], alts := [], laidByText := true, laidKinds := [.data, .data, .data, .data, .sentinel, .sentinel, .pinned], laidTests := true, laidLooks := .later }
def ExactPartsUptoCardSaid : Prop := Claim7.holds Tryz.pinned (.plain (OpenSpec.upto exactPartsSpec)) exactPartsUptoCard

/-- THE SECOND FORM's CARD OF 'tesseractlaw01.ExactTyped'. -/
def exactTypedUptoCard : Claim7 := { stood := { row := exactTypedUptoRow, standIns := [], harness := (true, "fd7a1e508ccc94714450a4bd8e4fd8a8272ce401cbded2dc2e050c17356a48af"), looks := true }, kinds := [], alts := [], laidByText := true, laidKinds := [.data, .data, .data, .data, .sentinel, .sentinel, .pinned], laidTests := true, laidLooks := .later }
def ExactTypedUptoCardSaid : Prop := Claim7.holds Tryz.pinned (.plain (OpenSpec.upto exactTypedSpec)) exactTypedUptoCard
end Rows
end Go.Proofs.YthppcklegdnjdaaGreatDoor
