/-
  DERIVED. GIVEN WITH THE SEED: THE CARDS: each row of YtmejbkfamapnkaaGreatDoorRows.lean that lists a variable, with what it lists TIED to the program's text (the seventh form; the later family's looks); each row that meets fmt, with fmt's text TOLD by the authors' own Lean function (tested against real Go, not proved from fmt's source: count such statements apart). THE CARD IS WHAT COUNTS. Prove the row's statement (the work); the ties are given (YtmejbkfamapnkaaGreatDoorTie.lean); close each card by the builder's one call (the guide's Derived/Test/ToyasCard.lean, 'card_holds'). Laid BY PROGRAM, IN A SANDBOX (cutbox-door.mjs). By AI agents, Wed Nov 11 2026. No macro, syntax, notation, axiom, sorry.
-/
import Derived.Test.YtmejbkfamapnkaaGreatDoorRows
import GoSem.ClaimSeven
namespace Go.Proofs.YtmejbkfamapnkaaGreatDoor
namespace Rows

/-- THE TIED CARD OF 'tesseractlaw01.ExactReads'. -/
def exactReadsCard : Claim7 := { stood := { row := exactReadsRow, standIns := [], harness := (true, "04c5dac8e2b1e6c7f97c1c73c4922280ece6eb4f919099b2788798d21713602c"), looks := true }, kinds := [], alts := [], laidByText := true, laidKinds := [.data, .data, .data, .data, .sentinel, .sentinel, .pinned], laidTests := true, laidLooks := .later }
def ExactReadsCardSaid : Prop := Claim7.holds Tryz.pinned (.plain (OpenSpec.ofChange exactReadsSpec)) exactReadsCard

/-- THE TIED CARD OF 'tesseractlaw01.ExactDoes'. -/
def exactDoesCard : Claim7 := { stood := { row := exactDoesRow, standIns := [], harness := (true, "04c5dac8e2b1e6c7f97c1c73c4922280ece6eb4f919099b2788798d21713602c"), looks := true }, kinds := [], alts := [], laidByText := true, laidKinds := [.data, .data, .data, .data, .sentinel, .sentinel, .pinned], laidTests := true, laidLooks := .later }
def ExactDoesCardSaid : Prop := Claim7.holds Tryz.pinned (.plain (OpenSpec.ofChange exactDoesSpec)) exactDoesCard

/-- THE SECOND FORM's CARD OF 'tesseractlaw01.ExactReads'. -/
def exactReadsUptoCard : Claim7 := { stood := { row := exactReadsUptoRow, standIns := [], harness := (true, "04c5dac8e2b1e6c7f97c1c73c4922280ece6eb4f919099b2788798d21713602c"), looks := true }, kinds := [], alts := [], laidByText := true, laidKinds := [.data, .data, .data, .data, .sentinel, .sentinel, .pinned], laidTests := true, laidLooks := .later }
def ExactReadsUptoCardSaid : Prop := Claim7.holds Tryz.pinned (.plain (OpenSpec.upto exactReadsSpec)) exactReadsUptoCard

/-- THE SECOND FORM's CARD OF 'tesseractlaw01.ExactDoes'. -/
def exactDoesUptoCard : Claim7 := { stood := { row := exactDoesUptoRow, standIns := [], harness := (true, "04c5dac8e2b1e6c7f97c1c73c4922280ece6eb4f919099b2788798d21713602c"), looks := true }, kinds := [], alts := [], laidByText := true, laidKinds := [.data, .data, .data, .data, .sentinel, .sentinel, .pinned], laidTests := true, laidLooks := .later }
def ExactDoesUptoCardSaid : Prop := Claim7.holds Tryz.pinned (.plain (OpenSpec.upto exactDoesSpec)) exactDoesUptoCard
end Rows
end Go.Proofs.YtmejbkfamapnkaaGreatDoor
