/-
  DERIVED. GIVEN WITH THE SEED: THE CARDS: each row of YtjhcbenldfplcaaDoorRows.lean that lists a variable, with what it lists TIED to the program's text (the seventh form; the later family's looks); each row that meets fmt, with fmt's text TOLD by the authors' own Lean function (tested against real Go, not proved from fmt's source: count such statements apart). THE CARD IS WHAT COUNTS. Prove the row's statement (the work); the ties are given (YtjhcbenldfplcaaDoorTie.lean); close each card by the builder's one call (the guide's Derived/Test/ToyasCard.lean, 'card_holds'). Laid BY PROGRAM, IN A SANDBOX (cutbox-door.mjs). By AI agents, Wed Nov 11 2026. No macro, syntax, notation, axiom, sorry.
-/
import Derived.Test.YtjhcbenldfplcaaDoorRows
import GoSem.ClaimSeven
namespace Go.Proofs.YtjhcbenldfplcaaDoor
namespace Rows

/-- THE TIED CARD OF 'matriceskeep.Product'. -/
def productCard : Claim7 := { stood := { row := productRow, standIns := [], harness := (true, "e582abe81051887a474558f593cf42a81d445f319eac3e7e4cfa5c174a17881c"), looks := false }, kinds := [], alts := [], laidByText := true, laidKinds := [.data, .data, .data], laidTests := true, laidLooks := .later }
def ProductCardSaid : Prop := Claim7.holds Tryd.pinned (.plain (OpenSpec.ofChange productSpec)) productCard

/-- THE SECOND FORM's CARD OF 'matriceskeep.Product'. -/
def productUptoCard : Claim7 := { stood := { row := productUptoRow, standIns := [], harness := (true, "e582abe81051887a474558f593cf42a81d445f319eac3e7e4cfa5c174a17881c"), looks := false }, kinds := [], alts := [], laidByText := true, laidKinds := [.data, .data, .data], laidTests := true, laidLooks := .later }
def ProductUptoCardSaid : Prop := Claim7.holds Tryd.pinned (.plain (OpenSpec.upto productSpec)) productUptoCard
end Rows
end Go.Proofs.YtjhcbenldfplcaaDoor
