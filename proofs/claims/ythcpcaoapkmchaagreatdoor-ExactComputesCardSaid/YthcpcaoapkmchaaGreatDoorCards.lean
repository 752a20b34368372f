/-
  DERIVED. GIVEN WITH THE SEED: THE CARDS: each row of YthcpcaoapkmchaaGreatDoorRows.lean that lists a variable, with what it lists TIED to the program's text (the seventh form; the later family's looks); each row that meets fmt, with fmt's text TOLD by the authors' own Lean function (tested against real Go, not proved from fmt's source: count such statements apart). THE CARD IS WHAT COUNTS. Prove the row's statement (the work); the ties are given (YthcpcaoapkmchaaGreatDoorTie.lean); close each card by the builder's one call (the guide's Derived/Test/ToyasCard.lean, 'card_holds'). Laid BY PROGRAM, IN A SANDBOX (cutbox-door.mjs). By AI agents, Wed Nov 11 2026. No macro, syntax, notation, axiom, sorry.
-/
import Derived.Test.YthcpcaoapkmchaaGreatDoorRows
import GoSem.ClaimSeven
namespace Go.Proofs.YthcpcaoapkmchaaGreatDoor
namespace Rows

/-- THE TIED CARD OF 'tesseractlaw01.ExactParses'. -/
def exactParsesCard : Claim7 := { stood := { row := exactParsesRow, standIns := [], harness := (true, "aff898c0e55e009dd7d6e5791d176ee6c8c2c31f76b14d9383b20d30612d2d53"), looks := true }, kinds := [], alts := [], laidByText := true, laidKinds := [.data, .data, .data, .data, .sentinel, .sentinel, .pinned], laidTests := true, laidLooks := .later }
def ExactParsesCardSaid : Prop := Claim7.holds Tryz.pinned (.plain (OpenSpec.ofChange exactParsesSpec)) exactParsesCard

/-- THE TIED CARD OF 'tesseractlaw01.ExactComputes'. -/
def exactComputesCard : Claim7 := { stood := { row := exactComputesRow, standIns := [], harness := (true, "aff898c0e55e009dd7d6e5791d176ee6c8c2c31f76b14d9383b20d30612d2d53"), looks := true }, kinds := [], alts := [], laidByText := true, laidKinds := [.data, .data, .data, .data, .sentinel, .sentinel, .pinned], laidTests := true, laidLooks := .later }
def ExactComputesCardSaid : Prop := Claim7.holds Tryz.pinned (.plain (OpenSpec.ofChange exactComputesSpec)) exactComputesCard

/-- THE TIED CARD OF 'tesseractlaw01.ExactBack'. -/
def exactBackCard : Claim7 := { stood := { row := exactBackRow, standIns := [], harness := (true, "aff898c0e55e009dd7d6e5791d176ee6c8c2c31f76b14d9383b20d30612d2d53"), looks := true }, kinds := [], alts := [], laidByText := true, laidKinds := [.data, .data, .data, .data, .sentinel, .sentinel, .pinned], laidTests := true, laidLooks := .later }
def ExactBackCardSaid : Prop := Claim7.holds Tryz.pinned (.plain (OpenSpec.ofChange exactBackSpec)) exactBackCard

/-- THE SECOND FORM's CARD OF 'tesseractlaw01.ExactParses'. -/
def exactParsesUptoCard : Claim7 := { stood := { row := exactParsesUptoRow, standIns := [], harness := (true, "aff898c0e55e009dd7d6e5791d176ee6c8c2c31f76b14d9383b20d30612d2d53"), looks := true }, kinds := [], alts := [], laidByText := true, laidKinds := [.data, .data, .data, .data, .sentinel, .sentinel, .pinned], laidTests := true, laidLooks := .later }
def ExactParsesUptoCardSaid : Prop := Claim7.holds Tryz.pinned (.plain (OpenSpec.upto exactParsesSpec)) exactParsesUptoCard

/-- THE SECOND FORM's CARD OF 'tesseractlaw01.ExactComputes'. -/
def exactComputesUptoCard : Claim7 := { stood := { row := exactComputesUptoRow, standIns := [], harness := (true, "aff898c0e55e009dd7d6e5791d176ee6c8c2c31f76b14d9383b20d30612d2d53"), looks := true }, kinds := [], alts := [], laidByText := true, laidKinds := [.data, .data, .data, .data, .sentinel, .sentinel, .pinned], laidTests := true, laidLooks := .later }
def ExactComputesUptoCardSaid : Prop := Claim7.holds Tryz.pinned (.plain (OpenSpec.upto exactComputesSpec)) exactComputesUptoCard

/-- THE SECOND FORM's CARD OF 'tesseractlaw01.ExactBack'. -/
def exactBackUptoCard : Claim7 := { stood := { row := exactBackUptoRow, standIns := [], harness := (true, "aff898c0e55e009dd7d6e5791d176ee6c8c2c31f76b14d9383b20d30612d2d53"), looks := true }, kinds := [], alts := [], laidByText := true, laidKinds := [.data, .data, .data, .data, .sentinel, .sentinel, .pinned], laidTests := true, laidLooks := .later }
def ExactBackUptoCardSaid : Prop := Claim7.holds Tryz.pinned (.plain (OpenSpec.upto exactBackSpec)) exactBackUptoCard
end Rows
end Go.Proofs.YthcpcaoapkmchaaGreatDoor
