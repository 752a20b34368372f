/-
  DERIVED. GIVEN WITH THE SEED: THE CARDS: each row of YtmhggphkhabjlaaGreatDoorRows.lean that lists a variable, with what it lists TIED to the program's text (the seventh form; the later family's looks); each row that meets fmt, with fmt's text TOLD by the authors' own Lean function (tested against real Go, not proved from fmt's source: count such statements apart). THE CARD IS WHAT COUNTS. Prove the row's statement (the work); the ties are given (YtmhggphkhabjlaaGreatDoorTie.lean); close each card by the builder's one call (the guide's Derived/Test/ToyasCard.lean, 'card_holds'). Laid BY PROGRAM, IN A SANDBOX (cutbox-door.mjs). By AI agents, Wed Nov 11 2026. No macro, syntax, notation, axiom, sorry.
-/
import Derived.Test.YtmhggphkhabjlaaGreatDoorRows
import GoSem.ClaimSeven
namespace Go.Proofs.YtmhggphkhabjlaaGreatDoor
namespace Rows

/-- THE TIED CARD OF 'tesseractlaw02.SpaceSchema'. -/
def spaceSchemaCard : Claim7 := { stood := { row := spaceSchemaRow, standIns := [], harness := (true, "956d6c6267939369f717f0ac79c04af9a9110dd1f3f66569e07d95fabb247ac4"), looks := false }, kinds := [], alts := [], laidByText := true, laidKinds := [.data, .data, .data, .data, .data, .pinned], laidTests := true, laidLooks := .later }
def SpaceSchemaCardSaid : Prop := Claim7.holds Tryz.pinned (.plain (OpenSpec.ofChange spaceSchemaSpec)) spaceSchemaCard

/-- THE TIED CARD OF 'tesseractlaw02.SpaceIndex'. -/
def spaceIndexCard : Claim7 := { stood := { row := spaceIndexRow, standIns := [], harness := (true, "956d6c6267939369f717f0ac79c04af9a9110dd1f3f66569e07d95fabb247ac4"), looks := false }, kinds := [], alts := [], laidByText := true, laidKinds := [.data, .data, .data, .data, .data, .pinned], laidTests := true, laidLooks := .later }
def SpaceIndexCardSaid : Prop := Claim7.holds Tryz.pinned (.plain (OpenSpec.ofChange spaceIndexSpec)) spaceIndexCard

/-- THE TIED CARD OF 'tesseractlaw02.SpaceBoxes'. -/
def spaceBoxesCard : Claim7 := { stood := { row := spaceBoxesRow, standIns := [], harness := (true, "956d6c6267939369f717f0ac79c04af9a9110dd1f3f66569e07d95fabb247ac4"), looks := false }, kinds := [], alts := [], laidByText := true, laidKinds := [.data, .data, .data, .data, .data, .pinned], laidTests := true, laidLooks := .later }
def SpaceBoxesCardSaid : Prop := Claim7.holds Tryz.pinned (.plain (OpenSpec.ofChange spaceBoxesSpec)) spaceBoxesCard

/-- THE TIED CARD OF 'tesseractlaw02.SpaceLayout'. -/
def spaceLayoutCard : Claim7 := { stood := { row := spaceLayoutRow, standIns := [], harness := (true, "956d6c6267939369f717f0ac79c04af9a9110dd1f3f66569e07d95fabb247ac4"), looks := false }, kinds := [], alts := [], laidByText := true, laidKinds := [.data, .data, .data, .data, .data, .pinned], laidTests := true, laidLooks := .later }
def SpaceLayoutCardSaid : Prop := Claim7.holds Tryz.pinned (.plain (OpenSpec.ofChange spaceLayoutSpec)) spaceLayoutCard

/-- THE TIED CARD OF 'tesseractlaw02.SpaceChunks'. -/
def spaceChunksCard : Claim7 := { stood := { row := spaceChunksRow, standIns := [], harness := (true, "956d6c6267939369f717f0ac79c04af9a9110dd1f3f66569e07d95fabb247ac4"), looks := false }, kinds := [], alts := [], laidByText := true, laidKinds := [.data, .data, .data, .data, .data, .pinned], laidTests := true, laidLooks := .later }
def SpaceChunksCardSaid : Prop := Claim7.holds Tryz.pinned (.plain (OpenSpec.ofChange spaceChunksSpec)) spaceChunksCard

/-- THE TIED CARD OF 'tesseractlaw02.SpaceInverse'. -/
def spaceInverseCard : Claim7 := { stood := { row := spaceInverseRow, standIns := [], harness := (true, "956d6c6267939369f717f0ac79c04af9a9110dd1f3f66569e07d95fabb247ac4"), looks := false }, kinds := [], alts := [], laidByText := true, laidKinds := [.data, .data, .data, .data, .data, .pinned], laidTests := true, laidLooks := .later }
def SpaceInverseCardSaid : Prop := Claim7.holds Tryz.pinned (.plain (OpenSpec.ofChange spaceInverseSpec)) spaceInverseCard

/-- THE SECOND FORM's CARD OF 'tesseractlaw02.SpaceSchema'. -/
def spaceSchemaUptoCard : Claim7 := { stood := { row := spaceSchemaUptoRow, standIns := [], harness := (true, "956d6c6267939369f717f0ac79c04af9a9110dd1f3f66569e07d95fabb247ac4"), looks := false }, kinds := [], alts := [], laidByText := true, laidKinds := [.data, .data, .data, .data, .data, .pinned], laidTests := true, laidLooks := .later }
def SpaceSchemaUptoCardSaid : Prop := Claim7.holds Tryz.pinned (.plain (OpenSpec.upto spaceSchemaSpec)) spaceSchemaUptoCard

/-- THE SECOND FORM's CARD OF 'tesseractlaw02.SpaceIndex'. -/
def spaceIndexUptoCard : Claim7 := { stood := { row := spaceIndexUptoRow, standIns := [], harness := (true, "956d6c6267939369f717f0ac79c04af9a9110dd1f3f66569e07d95fabb247ac4"), looks := false }, kinds := [], alts := [], laidByText := true, laidKinds := [.data, .data, .data, .data, .data, .pinned], laidTests := true, laidLooks := .later }
def SpaceIndexUptoCardSaid : Prop := Claim7.holds Tryz.pinned (.plain (OpenSpec.upto spaceIndexSpec)) spaceIndexUptoCard

/-- THE SECOND FORM's CARD OF 'tesseractlaw02.SpaceBoxes'. -/
def spaceBoxesUptoCard : Claim7 := { stood := { row := spaceBoxesUptoRow, standIns := [], harness := (true, "956d6c6267939369f717f0ac79c04af9a9110dd1f3f66569e07d95fabb247ac4"), looks := false }, kinds := [], alts := [], laidByText := true, laidKinds := [.data, .data, .data, .data, .data, .pinned], laidTests := true, laidLooks := .later }
def SpaceBoxesUptoCardSaid : Prop := Claim7.holds Tryz.pinned (.plain (OpenSpec.upto spaceBoxesSpec)) spaceBoxesUptoCard

/-- THE SECOND FORM's CARD OF 'tesseractlaw02.SpaceLayout'. -/
def spaceLayoutUptoCard : Claim7 := { stood := { row := spaceLayoutUptoRow, standIns := [], harness := (true, "956d6c6267939369f717f0ac79c04af9a9110dd1f3f66569e07d95fabb247ac4"), looks := false }, kinds := [], alts := [], laidByText := true, laidKinds := [.data, .data, .data, .data, .data, .pinned], laidTests := true, laidLooks := .later }
def SpaceLayoutUptoCardSaid : Prop := Claim7.holds Tryz.pinned (.plain (OpenSpec.upto spaceLayoutSpec)) spaceLayoutUptoCard

/-- THE SECOND FORM's CARD OF 'tesseractlaw02.SpaceChunks'. -/
def spaceChunksUptoCard : Claim7 := { stood := { row := spaceChunksUptoRow, standIns := [], harness := (true, "956d6c6267939369f717f0ac79c04af9a9110dd1f3f66569e07d95fabb247ac4"), looks := false }, kinds := [], alts := [], laidByText := true, laidKinds := [.data, .data, .data, .data, .data, .pinned], laidTests := true, laidLooks := .later }
def SpaceChunksUptoCardSaid : Prop := Claim7.holds Tryz.pinned (.plain (OpenSpec.upto spaceChunksSpec)) spaceChunksUptoCard

/-- THE SECOND FORM's CARD OF 'tesseractlaw02.SpaceInverse'. -/
def spaceInverseUptoCard : Claim7 := { stood := { row := spaceInverseUptoRow, standIns := [], harness := (true, "956d6c6267939369f717f0ac79c04af9a9110dd1f3f66569e07d95fabb247ac4"), looks := false }, kinds := [], alts := [], laidByText := true, laidKinds := [.data, .data, .data, .data, .data, .pinned], laidTests := true, laidLooks := .later }
def SpaceInverseUptoCardSaid : Prop := Claim7.holds Tryz.pinned (.plain (OpenSpec.upto spaceInverseSpec)) spaceInverseUptoCard
end Rows
end Go.Proofs.YtmhggphkhabjlaaGreatDoor
