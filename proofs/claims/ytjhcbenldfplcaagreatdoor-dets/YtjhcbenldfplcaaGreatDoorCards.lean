/-
  DERIVED. GIVEN WITH THE SEED: THE CARDS: each row of YtjhcbenldfplcaaGreatDoorRows.lean that lists a variable, with what it lists TIED to the program's text (the seventh form; the later family's looks); each row that meets fmt, with fmt's text TOLD by the authors' own Lean function (tested against real Go, not proved from fmt's source: count such statements apart). THE CARD IS WHAT COUNTS. Prove the row's statement (the work); the ties are given (YtjhcbenldfplcaaGreatDoorTie.lean); close each card by the builder's one call (the guide's Derived/Test/ToyasCard.lean, 'card_holds'). Laid BY PROGRAM, IN A SANDBOX (cutbox-door.mjs). By AI agents, Wed Nov 11 2026. No macro, syntax, notation, axiom, sorry.
-/
import Derived.Test.YtjhcbenldfplcaaGreatDoorRows
import GoSem.ClaimSeven
namespace Go.Proofs.YtjhcbenldfplcaaGreatDoor
namespace Rows

/-- THE TIED CARD OF 'matriceslaw.Types'. -/
def typesCard : Claim7 := { stood := { row := typesRow, standIns := [], harness := (true, "5ef8d2a5577c8c090ad9a8919ef76dcc4f079679abc010e6f88fe9edeccbf6d9"), looks := false }, kinds := [], alts := [], laidByText := true, laidKinds := [.data, .data, .data], laidTests := true, laidLooks := .later }
def TypesCardSaid : Prop := Claim7.holds Tryz.pinned (.plain (OpenSpec.ofChange typesSpec)) typesCard

/-- THE TIED CARD OF 'matriceslaw.Products'. -/
def productsCard : Claim7 := { stood := { row := productsRow, standIns := [], harness := (true, "5ef8d2a5577c8c090ad9a8919ef76dcc4f079679abc010e6f88fe9edeccbf6d9"), looks := false }, kinds := [], alts := [], laidByText := true, laidKinds := [.data, .data, .data], laidTests := true, laidLooks := .later }
def ProductsCardSaid : Prop := Claim7.holds Tryz.pinned (.plain (OpenSpec.ofChange productsSpec)) productsCard

/-- THE TIED CARD OF 'matriceslaw.Dets'. -/
def detsCard : Claim7 := { stood := { row := detsRow, standIns := [], harness := (true, "5ef8d2a5577c8c090ad9a8919ef76dcc4f079679abc010e6f88fe9edeccbf6d9"), looks := false }, kinds := [], alts := [], laidByText := true, laidKinds := [.data, .data, .data], laidTests := true, laidLooks := .later }
def DetsCardSaid : Prop := Claim7.holds Tryz.pinned (.plain (OpenSpec.ofChange detsSpec)) detsCard

/-- THE SECOND FORM's CARD OF 'matriceslaw.Types'. -/
def typesUptoCard : Claim7 := { stood := { row := typesUptoRow, standIns := [], harness := (true, "5ef8d2a5577c8c090ad9a8919ef76dcc4f079679abc010e6f88fe9edeccbf6d9"), looks := false }, kinds := [], alts := [], laidByText := true, laidKinds := [.data, .data, .data], laidTests := true, laidLooks := .later }
def TypesUptoCardSaid : Prop := Claim7.holds Tryz.pinned (.plain (OpenSpec.upto typesSpec)) typesUptoCard

/-- THE SECOND FORM's CARD OF 'matriceslaw.Products'. -/
def productsUptoCard : Claim7 := { stood := { row := productsUptoRow, standIns := [], harness := (true, "5ef8d2a5577c8c090ad9a8919ef76dcc4f079679abc010e6f88fe9edeccbf6d9"), looks := false }, kinds := [], alts := [], laidByText := true, laidKinds := [.data, .data, .data], laidTests := true, laidLooks := .later }
def ProductsUptoCardSaid : Prop := Claim7.holds Tryz.pinned (.plain (OpenSpec.upto productsSpec)) productsUptoCard

/-- THE SECOND FORM's CARD OF 'matriceslaw.Dets'. -/
def detsUptoCard : Claim7 := { stood := { row := detsUptoRow, standIns := [], harness := (true, "5ef8d2a5577c8c090ad9a8919ef76dcc4f079679abc010e6f88fe9edeccbf6d9"), looks := false }, kinds := [], alts := [], laidByText := true, laidKinds := [.data, .data, .data], laidTests := true, laidLooks := .later }
def DetsUptoCardSaid : Prop := Claim7.holds Tryz.pinned (.plain (OpenSpec.upto detsSpec)) detsUptoCard
end Rows
end Go.Proofs.YtjhcbenldfplcaaGreatDoor
