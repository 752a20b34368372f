/-
  DERIVED. GIVEN WITH THE SEED: THE CARDS: each row of YtoippldgoehpcaaGreatDoorRows.lean that lists a variable, with what it lists TIED to the program's text (the seventh form; the later family's looks); each row that meets fmt, with fmt's text TOLD by the authors' own Lean function (tested against real Go, not proved from fmt's source: count such statements apart). THE CARD IS WHAT COUNTS. Prove the row's statement (the work); the ties are given (YtoippldgoehpcaaGreatDoorTie.lean); close each card by the builder's one call (the guide's Derived/Test/ToyasCard.lean, 'card_holds'). Laid BY PROGRAM, IN A SANDBOX (cutbox-door.mjs). By AI agents, Wed Nov 11 2026. No macro, syntax, notation, axiom, sorry.
-/
import Derived.Test.YtoippldgoehpcaaGreatDoorRows
import GoSem.ClaimSeven
namespace Go.Proofs.YtoippldgoehpcaaGreatDoor
namespace Rows

/-- THE TIED CARD OF 'tesseractlaw02.SpaceCheck'. -/
def spaceCheckCard : Claim7 := { stood := { row := spaceCheckRow, standIns := [], harness := (true, "2417a8b4a54eea7da4873e580c0ec480d1968a58c85b9392112c906cfe823840"), looks := false }, kinds := [], alts := [], laidByText := true, laidKinds := [.data, .data, .data, .data, .data, .pinned], laidTests := true, laidLooks := .later }
def SpaceCheckCardSaid : Prop := Claim7.holds Tryz.pinned (.plain (OpenSpec.ofChange spaceCheckSpec)) spaceCheckCard

/-- THE TIED CARD OF 'tesseractlaw02.SpaceMake'. -/
def spaceMakeCard : Claim7 := { stood := { row := spaceMakeRow, standIns := [], harness := (true, "2417a8b4a54eea7da4873e580c0ec480d1968a58c85b9392112c906cfe823840"), looks := false }, kinds := [], alts := [], laidByText := true, laidKinds := [.data, .data, .data, .data, .data, .pinned], laidTests := true, laidLooks := .later }
def SpaceMakeCardSaid : Prop := Claim7.holds Tryz.pinned (.plain (OpenSpec.ofChange spaceMakeSpec)) spaceMakeCard

/-- THE TIED CARD OF 'tesseractlaw02.SpaceMany'. -/
def spaceManyCard : Claim7 := { stood := { row := spaceManyRow, standIns := [], harness := (true, "2417a8b4a54eea7da4873e580c0ec480d1968a58c85b9392112c906cfe823840"), looks := false }, kinds := [], alts := [], laidByText := true, laidKinds := [.data, .data, .data, .data, .data, .pinned], laidTests := true, laidLooks := .later }
def SpaceManyCardSaid : Prop := Claim7.holds Tryz.pinned (.plain (OpenSpec.ofChange spaceManySpec)) spaceManyCard

/-- THE TIED CARD OF 'tesseractlaw02.SpaceGets'. -/
def spaceGetsCard : Claim7 := { stood := { row := spaceGetsRow, standIns := [], harness := (true, "2417a8b4a54eea7da4873e580c0ec480d1968a58c85b9392112c906cfe823840"), looks := false }, kinds := [], alts := [], laidByText := true, laidKinds := [.data, .data, .data, .data, .data, .pinned], laidTests := true, laidLooks := .later }
def SpaceGetsCardSaid : Prop := Claim7.holds Tryz.pinned (.plain (OpenSpec.ofChange spaceGetsSpec)) spaceGetsCard

/-- THE TIED CARD OF 'tesseractlaw02.SpaceDatabase'. -/
def spaceDatabaseCard : Claim7 := { stood := { row := spaceDatabaseRow, standIns := [], harness := (true, "2417a8b4a54eea7da4873e580c0ec480d1968a58c85b9392112c906cfe823840"), looks := false }, kinds := [], alts := [], laidByText := true, laidKinds := [.data, .data, .data, .data, .data, .pinned], laidTests := true, laidLooks := .later }
def SpaceDatabaseCardSaid : Prop := Claim7.holds Tryz.pinned (.plain (OpenSpec.ofChange spaceDatabaseSpec)) spaceDatabaseCard

/-- THE TIED CARD OF 'tesseractlaw02.SpaceCut'. -/
def spaceCutCard : Claim7 := { stood := { row := spaceCutRow, standIns := [], harness := (true, "2417a8b4a54eea7da4873e580c0ec480d1968a58c85b9392112c906cfe823840"), looks := false }, kinds := [], alts := [], laidByText := true, laidKinds := [.data, .data, .data, .data, .data, .pinned], laidTests := true, laidLooks := .later }
def SpaceCutCardSaid : Prop := Claim7.holds Tryz.pinned (.plain (OpenSpec.ofChange spaceCutSpec)) spaceCutCard

/-- THE TIED CARD OF 'tesseractlaw02.SpaceLayout'. -/
def spaceLayoutCard : Claim7 := { stood := { row := spaceLayoutRow, standIns := [], harness := (true, "2417a8b4a54eea7da4873e580c0ec480d1968a58c85b9392112c906cfe823840"), looks := false }, kinds := [], alts := [], laidByText := true, laidKinds := [.data, .data, .data, .data, .data, .pinned], laidTests := true, laidLooks := .later }
def SpaceLayoutCardSaid : Prop := Claim7.holds Tryz.pinned (.plain (OpenSpec.ofChange spaceLayoutSpec)) spaceLayoutCard

/-- THE TIED CARD OF 'tesseractlaw02.SpaceOrder'. -/
def spaceOrderCard : Claim7 := { stood := { row := spaceOrderRow, standIns := [], harness := (true, "2417a8b4a54eea7da4873e580c0ec480d1968a58c85b9392112c906cfe823840"), looks := false }, kinds := [], alts := [], laidByText := true, laidKinds := [.data, .data, .data, .data, .data, .pinned], laidTests := true, laidLooks := .later }
def SpaceOrderCardSaid : Prop := Claim7.holds Tryz.pinned (.plain (OpenSpec.ofChange spaceOrderSpec)) spaceOrderCard

/-- THE TIED CARD OF 'tesseractlaw02.SpaceChunks'. -/
def spaceChunksCard : Claim7 := { stood := { row := spaceChunksRow, standIns := [], harness := (true, "2417a8b4a54eea7da4873e580c0ec480d1968a58c85b9392112c906cfe823840"), looks := false }, kinds := [], alts := [], laidByText := true, laidKinds := [.data, .data, .data, .data, .data, .pinned], laidTests := true, laidLooks := .later }
def SpaceChunksCardSaid : Prop := Claim7.holds Tryz.pinned (.plain (OpenSpec.ofChange spaceChunksSpec)) spaceChunksCard

/-- THE TIED CARD OF 'tesseractlaw02.SpaceRanks'. -/
def spaceRanksCard : Claim7 := { stood := { row := spaceRanksRow, standIns := [], harness := (true, "2417a8b4a54eea7da4873e580c0ec480d1968a58c85b9392112c906cfe823840"), looks := false }, kinds := [], alts := [], laidByText := true, laidKinds := [.data, .data, .data, .data, .data, .pinned], laidTests := true, laidLooks := .later }
def SpaceRanksCardSaid : Prop := Claim7.holds Tryz.pinned (.plain (OpenSpec.ofChange spaceRanksSpec)) spaceRanksCard

/-- THE TIED CARD OF 'tesseractlaw02.SpaceHilbert'. -/
def spaceHilbertCard : Claim7 := { stood := { row := spaceHilbertRow, standIns := [], harness := (true, "2417a8b4a54eea7da4873e580c0ec480d1968a58c85b9392112c906cfe823840"), looks := false }, kinds := [], alts := [], laidByText := true, laidKinds := [.data, .data, .data, .data, .data, .pinned], laidTests := true, laidLooks := .later }
def SpaceHilbertCardSaid : Prop := Claim7.holds Tryz.pinned (.plain (OpenSpec.ofChange spaceHilbertSpec)) spaceHilbertCard

/-- THE TIED CARD OF 'tesseractlaw02.SpaceHull'. -/
def spaceHullCard : Claim7 := { stood := { row := spaceHullRow, standIns := [], harness := (true, "2417a8b4a54eea7da4873e580c0ec480d1968a58c85b9392112c906cfe823840"), looks := false }, kinds := [], alts := [], laidByText := true, laidKinds := [.data, .data, .data, .data, .data, .pinned], laidTests := true, laidLooks := .later }
def SpaceHullCardSaid : Prop := Claim7.holds Tryz.pinned (.plain (OpenSpec.ofChange spaceHullSpec)) spaceHullCard

/-- THE SECOND FORM's CARD OF 'tesseractlaw02.SpaceCheck'. -/
def spaceCheckUptoCard : Claim7 := { stood := { row := spaceCheckUptoRow, standIns := [], harness := (true, "2417a8b4a54eea7da4873e580c0ec480d1968a58c85b9392112c906cfe823840"), looks := false }, kinds := [], alts := [], laidByText := true, laidKinds := [.data, .data, .data, .data, .data, .pinned], laidTests := true, laidLooks := .later }
def SpaceCheckUptoCardSaid : Prop := Claim7.holds Tryz.pinned (.plain (OpenSpec.upto spaceCheckSpec)) spaceCheckUptoCard

/-- THE SECOND FORM's CARD OF 'tesseractlaw02.SpaceMake'. -/
def spaceMakeUptoCard : Claim7 := { stood := { row := spaceMakeUptoRow, standIns := [], harness := (true, "2417a8b4a54eea7da4873e580c0ec480d1968a58c85b9392112c906cfe823840"), looks := false }, kinds := [], alts := [], laidByText := true, laidKinds := [.data, .data, .data, .data, .data, .pinned], laidTests := true, laidLooks := .later }
def SpaceMakeUptoCardSaid : Prop := Claim7.holds Tryz.pinned (.plain (OpenSpec.upto spaceMakeSpec)) spaceMakeUptoCard

/-- THE SECOND FORM's CARD OF 'tesseractlaw02.SpaceMany'. -/
def spaceManyUptoCard : Claim7 := { stood := { row := spaceManyUptoRow, standIns := [], harness := (true, "2417a8b4a54eea7da4873e580c0ec480d1968a58c85b9392112c906cfe823840"), looks := false }, kinds := [], alts := [], laidByText := true, laidKinds := [.data, .data, .data, .data, .data, .pinned], laidTests := true, laidLooks := .later }
def SpaceManyUptoCardSaid : Prop := Claim7.holds Tryz.pinned (.plain (OpenSpec.upto spaceManySpec)) spaceManyUptoCard

/-- THE SECOND FORM's CARD OF 'tesseractlaw02.SpaceGets'. -/
def spaceGetsUptoCard : Claim7 := { stood := { row := spaceGetsUptoRow, standIns := [], harness := (true, "2417a8b4a54eea7da4873e580c0ec480d1968a58c85b9392112c906cfe823840"), looks := false }, kinds := [], alts := [], laidByText := true, laidKinds := [.data, .data, .data, .data, .data, .pinned], laidTests := true, laidLooks := .later }
def SpaceGetsUptoCardSaid : Prop := Claim7.holds Tryz.pinned (.plain (OpenSpec.upto spaceGetsSpec)) spaceGetsUptoCard

/-- THE SECOND FORM's CARD OF 'tesseractlaw02.SpaceDatabase'. -/
def spaceDatabaseUptoCard : Claim7 := { stood := { row := spaceDatabaseUptoRow, standIns := [], harness := (true, "2417a8b4a54eea7da4873e580c0ec480d1968a58c85b9392112c906cfe823840"), looks := false }, kinds := [], alts := [], laidByText := true, laidKinds := [.data, .data, .data, .data, .data, .pinned], laidTests := true, laidLooks := .later }
def SpaceDatabaseUptoCardSaid : Prop := Claim7.holds Tryz.pinned (.plain (OpenSpec.upto spaceDatabaseSpec)) spaceDatabaseUptoCard

/-- THE SECOND FORM's CARD OF 'tesseractlaw02.SpaceCut'. -/
def spaceCutUptoCard : Claim7 := { stood := { row := spaceCutUptoRow, standIns := [], harness := (true, "2417a8b4a54eea7da4873e580c0ec480d1968a58c85b9392112c906cfe823840"), looks := false }, kinds := [], alts := [], laidByText := true, laidKinds := [.data, .data, .data, .data, .data, .pinned], laidTests := true, laidLooks := .later }
def SpaceCutUptoCardSaid : Prop := Claim7.holds Tryz.pinned (.plain (OpenSpec.upto spaceCutSpec)) spaceCutUptoCard

/-- THE SECOND FORM's CARD OF 'tesseractlaw02.SpaceLayout'. -/
def spaceLayoutUptoCard : Claim7 := { stood := { row := spaceLayoutUptoRow, standIns := [], harness := (true, "2417a8b4a54eea7da4873e580c0ec480d1968a58c85b9392112c906cfe823840"), looks := false }, kinds := [], alts := [], laidByText := true, laidKinds := [.data, .data, .data, .data, .data, .pinned], laidTests := true, laidLooks := .later }
def SpaceLayoutUptoCardSaid : Prop := Claim7.holds Tryz.pinned (.plain (OpenSpec.upto spaceLayoutSpec)) spaceLayoutUptoCard

/-- THE SECOND FORM's CARD OF 'tesseractlaw02.SpaceOrder'. -/
def spaceOrderUptoCard : Claim7 := { stood := { row := spaceOrderUptoRow, standIns := [], harness := (true, "2417a8b4a54eea7da4873e580c0ec480d1968a58c85b9392112c906cfe823840"), looks := false }, kinds := [], alts := [], laidByText := true, laidKinds := [.data, .data, .data, .data, .data, .pinned], laidTests := true, laidLooks := .later }
def SpaceOrderUptoCardSaid : Prop := Claim7.holds Tryz.pinned (.plain (OpenSpec.upto spaceOrderSpec)) spaceOrderUptoCard

/-- THE SECOND FORM's CARD OF 'tesseractlaw02.SpaceChunks'. -/
def spaceChunksUptoCard : Claim7 := { stood := { row := spaceChunksUptoRow, standIns := [], harness := (true, "2417a8b4a54eea7da4873e580c0ec480d1968a58c85b9392112c906cfe823840"), looks := false }, kinds := [], alts := [], laidByText := true, laidKinds := [.data, .data, .data, .data, .data, .pinned], laidTests := true, laidLooks := .later }
def SpaceChunksUptoCardSaid : Prop := Claim7.holds Tryz.pinned (.plain (OpenSpec.upto spaceChunksSpec)) spaceChunksUptoCard

/-- THE SECOND FORM's CARD OF 'tesseractlaw02.SpaceRanks'. -/
def spaceRanksUptoCard : Claim7 := { stood := { row := spaceRanksUptoRow, standIns := [], harness := (true, "2417a8b4a54eea7da4873e580c0ec480d1968a58c85b9392112c906cfe823840"), looks := false }, kinds := [], alts := [], laidByText := true, laidKinds := [.data, .data, .data, .data, .data, .pinned], laidTests := true, laidLooks := .later }
def SpaceRanksUptoCardSaid : Prop := Claim7.holds Tryz.pinned (.plain (OpenSpec.upto spaceRanksSpec)) spaceRanksUptoCard

/-- THE SECOND FORM's CARD OF 'tesseractlaw02.SpaceHilbert'. -/
def spaceHilbertUptoCard : Claim7 := { stood := { row := spaceHilbertUptoRow, standIns := [], harness := (true, "2417a8b4a54eea7da4873e580c0ec480d1968a58c85b9392112c906cfe823840"), looks := false }, kinds := [], alts := [], laidByText := true, laidKinds := [.data, .data, .data, .data, .data, .pinned], laidTests := true, laidLooks := .later }
def SpaceHilbertUptoCardSaid : Prop := Claim7.holds Tryz.pinned (.plain (OpenSpec.upto spaceHilbertSpec)) spaceHilbertUptoCard

/-- THE SECOND FORM's CARD OF 'tesseractlaw02.SpaceHull'. -/
def spaceHullUptoCard : Claim7 := { stood := { row := spaceHullUptoRow, standIns := [], harness := (true, "2417a8b4a54eea7da4873e580c0ec480d1968a58c85b9392112c906cfe823840"), looks := false }, kinds := [], alts := [], laidByText := true, laidKinds := [.data, .data, .data, .data, .data, .pinned], laidTests := true, laidLooks := .later }
def SpaceHullUptoCardSaid : Prop := Claim7.holds Tryz.pinned (.plain (OpenSpec.upto spaceHullSpec)) spaceHullUptoCard
end Rows
end Go.Proofs.YtoippldgoehpcaaGreatDoor
