/-
  DERIVED. GIVEN WITH THE SEED: THE CARDS: each row of YtfkjfeobhbocjaaGreatDoorRows.lean that lists a variable, with what it lists TIED to the program's text (the seventh form; the later family's looks); each row that meets fmt, with fmt's text TOLD by the authors' own Lean function (tested against real Go, not proved from fmt's source: count such statements apart). THE CARD IS WHAT COUNTS. Prove the row's statement (the work); the ties are given (YtfkjfeobhbocjaaGreatDoorTie.lean); close each card by the builder's one call (the guide's Derived/Test/ToyasCard.lean, 'card_holds'). Laid BY PROGRAM, IN A SANDBOX (cutbox-door.mjs). By AI agents, Wed Nov 11 2026. No macro, syntax, notation, axiom, sorry.
-/
import Derived.Test.YtfkjfeobhbocjaaGreatDoorRows
import GoSem.ClaimSeven
namespace Go.Proofs.YtfkjfeobhbocjaaGreatDoor
namespace Rows

/-- THE TIED CARD OF 'tesseractlaw01.ExactTypes'. -/
def exactTypesCard : Claim7 := { stood := { row := exactTypesRow, standIns := [], harness := (true, "8f15001c7d9ea80a1079f1428b4be32b883bfad81ff7a5a745caea1570dfe740"), looks := true }, kinds := [], alts := [], laidByText := true, laidKinds := [.data, .data, .data, .data, .sentinel, .sentinel, .pinned], laidTests := true, laidLooks := .later }
def ExactTypesCardSaid : Prop := Claim7.holds Tryz.pinned (.plain (OpenSpec.ofChange exactTypesSpec)) exactTypesCard

/-- THE TIED CARD OF 'tesseractlaw01.ExactNil'. -/
def exactNilCard : Claim7 := { stood := { row := exactNilRow, standIns := [], harness := (true, "8f15001c7d9ea80a1079f1428b4be32b883bfad81ff7a5a745caea1570dfe740"), looks := true }, kinds := [], alts := [], laidByText := true, laidKinds := [.data, .data, .data, .data, .sentinel, .sentinel, .pinned], laidTests := true, laidLooks := .later }
def ExactNilCardSaid : Prop := Claim7.holds Tryz.pinned (.plain (OpenSpec.ofChange exactNilSpec)) exactNilCard

/-- THE TIED CARD OF 'tesseractlaw01.ExactLogic'. -/
def exactLogicCard : Claim7 := { stood := { row := exactLogicRow, standIns := [], harness := (true, "8f15001c7d9ea80a1079f1428b4be32b883bfad81ff7a5a745caea1570dfe740"), looks := true }, kinds := [], alts := [], laidByText := true, laidKinds := [.data, .data, .data, .data, .sentinel, .sentinel, .pinned], laidTests := true, laidLooks := .later }
def ExactLogicCardSaid : Prop := Claim7.holds Tryz.pinned (.plain (OpenSpec.ofChange exactLogicSpec)) exactLogicCard

/-- THE SECOND FORM's CARD OF 'tesseractlaw01.ExactTypes'. -/
def exactTypesUptoCard : Claim7 := { stood := { row := exactTypesUptoRow, standIns := [], harness := (true, "8f15001c7d9ea80a1079f1428b4be32b883bfad81ff7a5a745caea1570dfe740"), looks := true }, kinds := [], alts := [], laidByText := true, laidKinds := [.data, .data, .data, .data, .sentinel, .sentinel, .pinned], laidTests := true, laidLooks := .later }
def ExactTypesUptoCardSaid : Prop := Claim7.holds Tryz.pinned (.plain (OpenSpec.upto exactTypesSpec)) exactTypesUptoCard

/-- THE SECOND FORM's CARD OF 'tesseractlaw01.ExactNil'. -/
def exactNilUptoCard : Claim7 := { stood := { row := exactNilUptoRow, standIns := [], harness := (true, "8f15001c7d9ea80a1079f1428b4be32b883bfad81ff7a5a745caea1570dfe740"), looks := true }, kinds := [], alts := [], laidByText := true, laidKinds := [.data, .data, .data, .data, .sentinel, .sentinel, .pinned], laidTests := true, laidLooks := .later }
def ExactNilUptoCardSaid : Prop := Claim7.holds Tryz.pinned (.plain (OpenSpec.upto exactNilSpec)) exactNilUptoCard

/-- THE SECOND FORM's CARD OF 'tesseractlaw01.ExactLogic'. -/
def exactLogicUptoCard : Claim7 := { stood := { row := exactLogicUptoRow, standIns := [], harness := (true, "8f15001c7d9ea80a1079f1428b4be32b883bfad81ff7a5a745caea1570dfe740"), looks := true }, kinds := [], alts := [], laidByText := true, laidKinds := [.data, .data, .data, .data, .sentinel, .sentinel, .pinned], laidTests := true, laidLooks := .later }
def ExactLogicUptoCardSaid : Prop := Claim7.holds Tryz.pinned (.plain (OpenSpec.upto exactLogicSpec)) exactLogicUptoCard
end Rows
end Go.Proofs.YtfkjfeobhbocjaaGreatDoor
