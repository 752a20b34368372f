/-
  DERIVED. GIVEN WITH THE SEED: THE CARDS: each row of YtkckoanphciddaaGreatDoorRows.lean that lists a variable, with what it lists TIED to the program's text (the seventh form; the later family's looks); each row that meets fmt, with fmt's text TOLD by the authors' own Lean function (tested against real Go, not proved from fmt's source: count such statements apart). THE CARD IS WHAT COUNTS. Prove the row's statement (the work); the ties are given (YtkckoanphciddaaGreatDoorTie.lean); close each card by the builder's one call (the guide's Derived/Test/ToyasCard.lean, 'card_holds'). Laid BY PROGRAM, IN A SANDBOX (cutbox-door.mjs). By AI agents, Wed Nov 11 2026. No macro, syntax, notation, axiom, sorry.
-/
import Derived.Test.YtkckoanphciddaaGreatDoorRows
import GoSem.ClaimSeven
namespace Go.Proofs.YtkckoanphciddaaGreatDoor
namespace Rows

/-- THE TIED CARD OF 'tesseractlaw02.SpaceMake'. -/
def spaceMakeCard : Claim7 := { stood := { row := spaceMakeRow, standIns := [], harness := (true, "abf4e69be07f6c0be2169e3df19485ad1962b120cd20a34fcdf74fa18c8a48ff"), looks := false }, kinds := [], alts := [], laidByText := true, laidKinds := [.data, .data, .data, .data, .data, .pinned], laidTests := true, laidLooks := .later }
def SpaceMakeCardSaid : Prop := Claim7.holds Tryz.pinned (.plain (OpenSpec.ofChange spaceMakeSpec)) spaceMakeCard

/-- THE TIED CARD OF 'tesseractlaw02.SpaceMany'. -/
def spaceManyCard : Claim7 := { stood := { row := spaceManyRow, standIns := [], harness := (true, "abf4e69be07f6c0be2169e3df19485ad1962b120cd20a34fcdf74fa18c8a48ff"), looks := false }, kinds := [], alts := [], laidByText := true, laidKinds := [.data, .data, .data, .data, .data, .pinned], laidTests := true, laidLooks := .later }
def SpaceManyCardSaid : Prop := Claim7.holds Tryz.pinned (.plain (OpenSpec.ofChange spaceManySpec)) spaceManyCard

/-- THE TIED CARD OF 'tesseractlaw02.SpaceLayout'. -/
def spaceLayoutCard : Claim7 := { stood := { row := spaceLayoutRow, standIns := [], harness := (true, "abf4e69be07f6c0be2169e3df19485ad1962b120cd20a34fcdf74fa18c8a48ff"), looks := false }, kinds := [], alts := [], laidByText := true, laidKinds := [.data, .data, .data, .data, .data, .pinned], laidTests := true, laidLooks := .later }
def SpaceLayoutCardSaid : Prop := Claim7.holds Tryz.pinned (.plain (OpenSpec.ofChange spaceLayoutSpec)) spaceLayoutCard

/-- THE TIED CARD OF 'tesseractlaw02.SpaceOrder'. -/
def spaceOrderCard : Claim7 := { stood := { row := spaceOrderRow, standIns := [], harness := (true, "abf4e69be07f6c0be2169e3df19485ad1962b120cd20a34fcdf74fa18c8a48ff"), looks := false }, kinds := [], alts := [], laidByText := true, laidKinds := [.data, .data, .data, .data, .data, .pinned], laidTests := true, laidLooks := .later }
def SpaceOrderCardSaid : Prop := Claim7.holds Tryz.pinned (.plain (OpenSpec.ofChange spaceOrderSpec)) spaceOrderCard

/-- THE TIED CARD OF 'tesseractlaw02.SpaceRanks'. -/
def spaceRanksCard : Claim7 := { stood := { row := spaceRanksRow, standIns := [], harness := (true, "abf4e69be07f6c0be2169e3df19485ad1962b120cd20a34fcdf74fa18c8a48ff"), looks := false }, kinds := [], alts := [], laidByText := true, laidKinds := [.data, .data, .data, .data, .data, .pinned], laidTests := true, laidLooks := .later }
def SpaceRanksCardSaid : Prop := Claim7.holds Tryz.pinned (.plain (OpenSpec.ofChange spaceRanksSpec)) spaceRanksCard

/-- THE TIED CARD OF 'tesseractlaw02.SpaceHull'. -/
def spaceHullCard : Claim7 := { stood := { row := spaceHullRow, standIns := [], harness := (true, "abf4e69be07f6c0be2169e3df19485ad1962b120cd20a34fcdf74fa18c8a48ff"), looks := false }, kinds := [], alts := [], laidByText := true, laidKinds := [.data, .data, .data, .data, .data, .pinned], laidTests := true, laidLooks := .later }
def SpaceHullCardSaid : Prop := Claim7.holds Tryz.pinned (.plain (OpenSpec.ofChange spaceHullSpec)) spaceHullCard

/-- THE SECOND FORM's CARD OF 'tesseractlaw02.SpaceMake'. -/
def spaceMakeUptoCard : Claim7 := { stood := { row := spaceMakeUptoRow, standIns := [], harness := (true, "abf4e69be07f6c0be2169e3df19485ad1962b120cd20a34fcdf74fa18c8a48ff"), looks := false }, kinds := [], alts := [], laidByText := true, laidKinds := [.data, .data, .data, .data, .data, .pinned], laidTests := true, laidLooks := .later }
def SpaceMakeUptoCardSaid : Prop := Claim7.holds Tryz.pinned (.plain (OpenSpec.upto spaceMakeSpec)) spaceMakeUptoCard

/-- THE SECOND FORM's CARD OF 'tesseractlaw02.SpaceMany'. -/
def spaceManyUptoCard : Claim7 := { stood := { row := spaceManyUptoRow, standIns := [], harness := (true, "abf4e69be07f6c0be2169e3df19485ad1962b120cd20a34fcdf74fa18c8a48ff"), looks := false }, kinds := [], alts := [], laidByText := true, laidKinds := [.data, .data, .data, .data, .data, .pinned], laidTests := true, laidLooks := .later }
def SpaceManyUptoCardSaid : Prop := Claim7.holds Tryz.pinned (.plain (OpenSpec.upto spaceManySpec)) spaceManyUptoCard

/-- THE SECOND FORM's CARD OF 'tesseractlaw02.SpaceLayout'. -/
def spaceLayoutUptoCard : Claim7 := { stood := { row := spaceLayoutUptoRow, standIns := [], harness := (true, "abf4e69be07f6c0be2169e3df19485ad1962b120cd20a34fcdf74fa18c8a48ff"), looks := false }, kinds := [], alts := [], laidByText := true, laidKinds := [.data, .data, .data, .data, .data, .pinned], laidTests := true, laidLooks := .later }
def SpaceLayoutUptoCardSaid : Prop := Claim7.holds Tryz.pinned (.plain (OpenSpec.upto spaceLayoutSpec)) spaceLayoutUptoCard

/-- THE SECOND FORM's CARD OF 'tesseractlaw02.SpaceOrder'. -/
def spaceOrderUptoCard : Claim7 := { stood := { row := spaceOrderUptoRow, standIns := [], harness := (true, "abf4e69be07f6c0be2169e3df19485ad1962b120cd20a34fcdf74fa18c8a48ff"), looks := false }, kinds := [], alts := [], laidByText := true, laidKinds := [.data, .data, .data, .data, .data, .pinned], laidTests := true, laidLooks := .later }
def SpaceOrderUptoCardSaid : Prop := Claim7.holds Tryz.pinned (.plain (OpenSpec.upto spaceOrderSpec)) spaceOrderUptoCard

/-- THE SECOND FORM's CARD OF 'tesseractlaw02.SpaceRanks'. -/
def spaceRanksUptoCard : Claim7 := { stood := { row := spaceRanksUptoRow, standIns := [], harness := (true, "abf4e69be07f6c0be2169e3df19485ad1962b120cd20a34fcdf74fa18c8a48ff"), looks := false }, kinds := [], alts := [], laidByText := true, laidKinds := [.data, .data, .data, .data, .data, .pinned], laidTests := true, laidLooks := .later }
def SpaceRanksUptoCardSaid : Prop := Claim7.holds Tryz.pinned (.plain (OpenSpec.upto spaceRanksSpec)) spaceRanksUptoCard

/-- THE SECOND FORM's CARD OF 'tesseractlaw02.SpaceHull'. -/
def spaceHullUptoCard : Claim7 := { stood := { row := spaceHullUptoRow, standIns := [], harness := (true, "abf4e69be07f6c0be2169e3df19485ad1962b120cd20a34fcdf74fa18c8a48ff"), looks := false }, kinds := [], alts := [], laidByText := true, laidKinds := [.data, .data, .data, .data, .data, .pinned], laidTests := true, laidLooks := .later }
def SpaceHullUptoCardSaid : Prop := Claim7.holds Tryz.pinned (.plain (OpenSpec.upto spaceHullSpec)) spaceHullUptoCard
end Rows
end Go.Proofs.YtkckoanphciddaaGreatDoor
