/-
  DERIVED. GIVEN WITH THE SEED: THE CARDS: each row of YtfjbijpagaipnaaDoorRows.lean that lists a variable, with what it lists TIED to the program's text (the seventh form; the later family's looks); each row that meets fmt, with fmt's text TOLD by the authors' own Lean function (tested against real Go, not proved from fmt's source: count such statements apart). THE CARD IS WHAT COUNTS. Prove the row's statement (the work); the ties are given (YtfjbijpagaipnaaDoorTie.lean); close each card by the builder's one call (the guide's Derived/Test/ToyasCard.lean, 'card_holds'). Laid BY PROGRAM, IN A SANDBOX (cutbox-door.mjs). By AI agents, Wed Nov 11 2026. No macro, syntax, notation, axiom, sorry.
-/
import Derived.Test.YtfjbijpagaipnaaDoorRows
import GoSem.ClaimSeven
namespace Go.Proofs.YtfjbijpagaipnaaDoor
namespace Rows

/-- THE TIED CARD OF 'matriceskeep.Product'. -/
def productCard : Claim7 := { stood := { row := productRow, standIns := [], harness := (true, "8a500386ed0e47df1fbd2eb62d7a6634a5e4b619c88b3637cbd9e346ffb0e837"), looks := false }, kinds := [], alts := [], laidByText := true, laidKinds := [.data, .data, .data], laidTests := true, laidLooks := .later }
def ProductCardSaid : Prop := Claim7.holds Tryd.pinned (.plain (OpenSpec.ofChange productSpec)) productCard

/-- THE TIED CARD OF 'matriceskeep.Sums'. -/
def sumsCard : Claim7 := { stood := { row := sumsRow, standIns := [], harness := (true, "8a500386ed0e47df1fbd2eb62d7a6634a5e4b619c88b3637cbd9e346ffb0e837"), looks := false }, kinds := [], alts := [], laidByText := true, laidKinds := [.data, .data, .data], laidTests := true, laidLooks := .later }
def SumsCardSaid : Prop := Claim7.holds Tryd.pinned (.plain (OpenSpec.ofChange sumsSpec)) sumsCard

/-- THE TIED CARD OF 'matriceskeep.Handles'. -/
def handlesCard : Claim7 := { stood := { row := handlesRow, standIns := [], harness := (true, "8a500386ed0e47df1fbd2eb62d7a6634a5e4b619c88b3637cbd9e346ffb0e837"), looks := false }, kinds := [], alts := [], laidByText := true, laidKinds := [.data, .data, .data], laidTests := true, laidLooks := .later }
def HandlesCardSaid : Prop := Claim7.holds Tryd.pinned (.plain (OpenSpec.ofChange handlesSpec)) handlesCard

/-- THE SECOND FORM's CARD OF 'matriceskeep.Product'. -/
def productUptoCard : Claim7 := { stood := { row := productUptoRow, standIns := [], harness := (true, "8a500386ed0e47df1fbd2eb62d7a6634a5e4b619c88b3637cbd9e346ffb0e837"), looks := false }, kinds := [], alts := [], laidByText := true, laidKinds := [.data, .data, .data], laidTests := true, laidLooks := .later }
def ProductUptoCardSaid : Prop := Claim7.holds Tryd.pinned (.plain (OpenSpec.upto productSpec)) productUptoCard

/-- THE SECOND FORM's CARD OF 'matriceskeep.Sums'. -/
def sumsUptoCard : Claim7 := { stood := { row := sumsUptoRow, standIns := [], harness := (true, "8a500386ed0e47df1fbd2eb62d7a6634a5e4b619c88b3637cbd9e346ffb0e837"), looks := false }, kinds := [], alts := [], laidByText := true, laidKinds := [.data, .data, .data], laidTests := true, laidLooks := .later }
def SumsUptoCardSaid : Prop := Claim7.holds Tryd.pinned (.plain (OpenSpec.upto sumsSpec)) sumsUptoCard

/-- THE SECOND FORM's CARD OF 'matriceskeep.Handles'. -/
def handlesUptoCard : Claim7 := { stood := { row := handlesUptoRow, standIns := [], harness := (true, "8a500386ed0e47df1fbd2eb62d7a6634a5e4b619c88b3637cbd9e346ffb0e837"), looks := false }, kinds := [], alts := [], laidByText := true, laidKinds := [.data, .data, .data], laidTests := true, laidLooks := .later }
def HandlesUptoCardSaid : Prop := Claim7.holds Tryd.pinned (.plain (OpenSpec.upto handlesSpec)) handlesUptoCard
end Rows
end Go.Proofs.YtfjbijpagaipnaaDoor
