/-
  DERIVED. GIVEN WITH THE SEED: THE CARDS: each row of YtfjbijpagaipnaaGreatDoorRows.lean that lists a variable, with what it lists TIED to the program's text (the seventh form; the later family's looks); each row that meets fmt, with fmt's text TOLD by the authors' own Lean function (tested against real Go, not proved from fmt's source: count such statements apart). THE CARD IS WHAT COUNTS. Prove the row's statement (the work); the ties are given (YtfjbijpagaipnaaGreatDoorTie.lean); close each card by the builder's one call (the guide's Derived/Test/ToyasCard.lean, 'card_holds'). Laid BY PROGRAM, IN A SANDBOX (cutbox-door.mjs). By AI agents, Wed Nov 11 2026. No macro, syntax, notation, axiom, sorry.
-/
import Derived.Test.YtfjbijpagaipnaaGreatDoorRows
import GoSem.ClaimSeven
namespace Go.Proofs.YtfjbijpagaipnaaGreatDoor
namespace Rows

/-- THE TIED CARD OF 'matriceslaw.Types'. -/
def typesCard : Claim7 := { stood := { row := typesRow, standIns := [], harness := (true, "0db2cb897d9913dbd5d588f2edf786d9a252d74cbacc8b1129d2244f191695bd"), looks := false }, kinds := [], alts := [], laidByText := true, laidKinds := [.data, .data, .data], laidTests := true, laidLooks := .later }
def TypesCardSaid : Prop := Claim7.holds Tryz.pinned (.plain (OpenSpec.ofChange typesSpec)) typesCard

/-- THE TIED CARD OF 'matriceslaw.Products'. -/
def productsCard : Claim7 := { stood := { row := productsRow, standIns := [], harness := (true, "0db2cb897d9913dbd5d588f2edf786d9a252d74cbacc8b1129d2244f191695bd"), looks := false }, kinds := [], alts := [], laidByText := true, laidKinds := [.data, .data, .data], laidTests := true, laidLooks := .later }
def ProductsCardSaid : Prop := Claim7.holds Tryz.pinned (.plain (OpenSpec.ofChange productsSpec)) productsCard

/-- THE TIED CARD OF 'matriceslaw.Dets'. -/
def detsCard : Claim7 := { stood := { row := detsRow, standIns := [], harness := (true, "0db2cb897d9913dbd5d588f2edf786d9a252d74cbacc8b1129d2244f191695bd"), looks := false }, kinds := [], alts := [], laidByText := true, laidKinds := [.data, .data, .data], laidTests := true, laidLooks := .later }
def DetsCardSaid : Prop := Claim7.holds Tryz.pinned (.plain (OpenSpec.ofChange detsSpec)) detsCard

/-- THE TIED CARD OF 'matriceslaw.Echelons'. -/
def echelonsCard : Claim7 := { stood := { row := echelonsRow, standIns := [], harness := (true, "0db2cb897d9913dbd5d588f2edf786d9a252d74cbacc8b1129d2244f191695bd"), looks := false }, kinds := [], alts := [], laidByText := true, laidKinds := [.data, .data, .data], laidTests := true, laidLooks := .later }
def EchelonsCardSaid : Prop := Claim7.holds Tryz.pinned (.plain (OpenSpec.ofChange echelonsSpec)) echelonsCard

/-- THE TIED CARD OF 'matriceslaw.Spans'. -/
def spansCard : Claim7 := { stood := { row := spansRow, standIns := [], harness := (true, "0db2cb897d9913dbd5d588f2edf786d9a252d74cbacc8b1129d2244f191695bd"), looks := false }, kinds := [], alts := [], laidByText := true, laidKinds := [.data, .data, .data], laidTests := true, laidLooks := .later }
def SpansCardSaid : Prop := Claim7.holds Tryz.pinned (.plain (OpenSpec.ofChange spansSpec)) spansCard

/-- THE TIED CARD OF 'matriceskeep.Made'. -/
def madeCard : Claim7 := { stood := { row := madeRow, standIns := [], harness := (true, "0db2cb897d9913dbd5d588f2edf786d9a252d74cbacc8b1129d2244f191695bd"), looks := false }, kinds := [], alts := [], laidByText := true, laidKinds := [.data, .data, .data], laidTests := true, laidLooks := .later }
def MadeCardSaid : Prop := Claim7.holds Tryz.pinned (.plain (OpenSpec.ofChange madeSpec)) madeCard

/-- THE TIED CARD OF 'matriceslaw.Diagonals'. -/
def diagonalsCard : Claim7 := { stood := { row := diagonalsRow, standIns := [], harness := (true, "0db2cb897d9913dbd5d588f2edf786d9a252d74cbacc8b1129d2244f191695bd"), looks := false }, kinds := [], alts := [], laidByText := true, laidKinds := [.data, .data, .data], laidTests := true, laidLooks := .later }
def DiagonalsCardSaid : Prop := Claim7.holds Tryz.pinned (.plain (OpenSpec.ofChange diagonalsSpec)) diagonalsCard

/-- THE TIED CARD OF 'matriceslaw.Solves'. -/
def solvesCard : Claim7 := { stood := { row := solvesRow, standIns := [], harness := (true, "0db2cb897d9913dbd5d588f2edf786d9a252d74cbacc8b1129d2244f191695bd"), looks := false }, kinds := [], alts := [], laidByText := true, laidKinds := [.data, .data, .data], laidTests := true, laidLooks := .later }
def SolvesCardSaid : Prop := Claim7.holds Tryz.pinned (.plain (OpenSpec.ofChange solvesSpec)) solvesCard

/-- THE TIED CARD OF 'matriceskeep.Rows'. -/
def rowsCard : Claim7 := { stood := { row := rowsRow, standIns := [], harness := (true, "0db2cb897d9913dbd5d588f2edf786d9a252d74cbacc8b1129d2244f191695bd"), looks := false }, kinds := [], alts := [], laidByText := true, laidKinds := [.data, .data, .data], laidTests := true, laidLooks := .later }
def RowsCardSaid : Prop := Claim7.holds Tryz.pinned (.plain (OpenSpec.ofChange rowsSpec)) rowsCard

/-- THE SECOND FORM's CARD OF 'matriceslaw.Types'. -/
def typesUptoCard : Claim7 := { stood := { row := typesUptoRow, standIns := [], harness := (true, "0db2cb897d9913dbd5d588f2edf786d9a252d74cbacc8b1129d2244f191695bd"), looks := false }, kinds := [], alts := [], laidByText := true, laidKinds := [.data, .data, .data], laidTests := true, laidLooks := .later }
def TypesUptoCardSaid : Prop := Claim7.holds Tryz.pinned (.plain (OpenSpec.upto typesSpec)) typesUptoCard

/-- THE SECOND FORM's CARD OF 'matriceslaw.Products'. -/
def productsUptoCard : Claim7 := { stood := { row := productsUptoRow, standIns := [], harness := (true, "0db2cb897d9913dbd5d588f2edf786d9a252d74cbacc8b1129d2244f191695bd"), looks := false }, kinds := [], alts := [], laidByText := true, laidKinds := [.data, .data, .data], laidTests := true, laidLooks := .later }
def ProductsUptoCardSaid : Prop := Claim7.holds Tryz.pinned (.plain (OpenSpec.upto productsSpec)) productsUptoCard

/-- THE SECOND FORM's CARD OF 'matriceslaw.Dets'. -/
def detsUptoCard : Claim7 := { stood := { row := detsUptoRow, standIns := [], harness := (true, "0db2cb897d9913dbd5d588f2edf786d9a252d74cbacc8b1129d2244f191695bd"), looks := false }, kinds := [], alts := [], laidByText := true, laidKinds := [.data, .data, .data], laidTests := true, laidLooks := .later }
def DetsUptoCardSaid : Prop := Claim7.holds Tryz.pinned (.plain (OpenSpec.upto detsSpec)) detsUptoCard

/-- THE SECOND FORM's CARD OF 'matriceslaw.Echelons'. -/
def echelonsUptoCard : Claim7 := { stood := { row := echelonsUptoRow, standIns := [], harness := (true, "0db2cb897d9913dbd5d588f2edf786d9a252d74cbacc8b1129d2244f191695bd"), looks := false }, kinds := [], alts := [], laidByText := true, laidKinds := [.data, .data, .data], laidTests := true, laidLooks := .later }
def EchelonsUptoCardSaid : Prop := Claim7.holds Tryz.pinned (.plain (OpenSpec.upto echelonsSpec)) echelonsUptoCard

/-- THE SECOND FORM's CARD OF 'matriceslaw.Spans'. -/
def spansUptoCard : Claim7 := { stood := { row := spansUptoRow, standIns := [], harness := (true, "0db2cb897d9913dbd5d588f2edf786d9a252d74cbacc8b1129d2244f191695bd"), looks := false }, kinds := [], alts := [], laidByText := true, laidKinds := [.data, .data, .data], laidTests := true, laidLooks := .later }
def SpansUptoCardSaid : Prop := Claim7.holds Tryz.pinned (.plain (OpenSpec.upto spansSpec)) spansUptoCard

/-- THE SECOND FORM's CARD OF 'matriceskeep.Made'. -/
def madeUptoCard : Claim7 := { stood := { row := madeUptoRow, standIns := [], harness := (true, "0db2cb897d9913dbd5d588f2edf786d9a252d74cbacc8b1129d2244f191695bd"), looks := false }, kinds := [], alts := [], laidByText := true, laidKinds := [.data, .data, .data], laidTests := true, laidLooks := .later }
def MadeUptoCardSaid : Prop := Claim7.holds Tryz.pinned (.plain (OpenSpec.upto madeSpec)) madeUptoCard

/-- THE SECOND FORM's CARD OF 'matriceslaw.Diagonals'. -/
def diagonalsUptoCard : Claim7 := { stood := { row := diagonalsUptoRow, standIns := [], harness := (true, "0db2cb897d9913dbd5d588f2edf786d9a252d74cbacc8b1129d2244f191695bd"), looks := false }, kinds := [], alts := [], laidByText := true, laidKinds := [.data, .data, .data], laidTests := true, laidLooks := .later }
def DiagonalsUptoCardSaid : Prop := Claim7.holds Tryz.pinned (.plain (OpenSpec.upto diagonalsSpec)) diagonalsUptoCard

/-- THE SECOND FORM's CARD OF 'matriceslaw.Solves'. -/
def solvesUptoCard : Claim7 := { stood := { row := solvesUptoRow, standIns := [], harness := (true, "0db2cb897d9913dbd5d588f2edf786d9a252d74cbacc8b1129d2244f191695bd"), looks := false }, kinds := [], alts := [], laidByText := true, laidKinds := [.data, .data, .data], laidTests := true, laidLooks := .later }
def SolvesUptoCardSaid : Prop := Claim7.holds Tryz.pinned (.plain (OpenSpec.upto solvesSpec)) solvesUptoCard

/-- THE SECOND FORM's CARD OF 'matriceskeep.Rows'. -/
def rowsUptoCard : Claim7 := { stood := { row := rowsUptoRow, standIns := [], harness := (true, "0db2cb897d9913dbd5d588f2edf786d9a252d74cbacc8b1129d2244f191695bd"), looks := false }, kinds := [], alts := [], laidByText := true, laidKinds := [.data, .data, .data], laidTests := true, laidLooks := .later }
def RowsUptoCardSaid : Prop := Claim7.holds Tryz.pinned (.plain (OpenSpec.upto rowsSpec)) rowsUptoCard
end Rows
end Go.Proofs.YtfjbijpagaipnaaGreatDoor
