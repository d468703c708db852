/-
  DERIVED. GIVEN WITH THE SEED: THE CARDS: each row of YtfjbijpagaipnabDoorRows.lean that lists a variable, with what it lists TIED to the program's text (the seventh form; the later family's looks); each row that meets fmt, with fmt's text TOLD by the authors' own Lean function (tested against real Go, not proved from fmt's source: count such statements apart). THE CARD IS WHAT COUNTS. Prove the row's statement (the work); the ties are given (YtfjbijpagaipnabDoorTie.lean); close each card by the builder's one call (the guide's Derived/Test/ToyasCard.lean, 'card_holds'). Laid BY PROGRAM, IN A SANDBOX (cutbox-door.mjs). By AI agents, Wed Nov 11 2026. No macro, syntax, notation, axiom, sorry.
-/
import Derived.Test.YtfjbijpagaipnabDoorRows
import GoSem.ClaimSeven
namespace Go.Proofs.YtfjbijpagaipnabDoor
namespace Rows

/-- THE TIED CARD OF 'matriceskeep.Solved'. -/
def solvedCard : Claim7 := { stood := { row := solvedRow, standIns := [], harness := (true, "bf5f68a4ffd7898e797f73e0e3b6ff52a3a506e07cc6138f2dd0476f08d69379"), looks := false }, kinds := [], alts := [], laidByText := true, laidKinds := [.data, .data, .data], laidTests := true, laidLooks := .later }
def SolvedCardSaid : Prop := Claim7.holds Tryd.pinned (.plain (OpenSpec.ofChange solvedSpec)) solvedCard

/-- THE TIED CARD OF 'matriceskeep.Indices'. -/
def indicesCard : Claim7 := { stood := { row := indicesRow, standIns := [], harness := (true, "bf5f68a4ffd7898e797f73e0e3b6ff52a3a506e07cc6138f2dd0476f08d69379"), looks := false }, kinds := [], alts := [], laidByText := true, laidKinds := [.data, .data, .data], laidTests := true, laidLooks := .later }
def IndicesCardSaid : Prop := Claim7.holds Tryd.pinned (.plain (OpenSpec.ofChange indicesSpec)) indicesCard

/-- THE SECOND FORM's CARD OF 'matriceskeep.Solved'. -/
def solvedUptoCard : Claim7 := { stood := { row := solvedUptoRow, standIns := [], harness := (true, "bf5f68a4ffd7898e797f73e0e3b6ff52a3a506e07cc6138f2dd0476f08d69379"), looks := false }, kinds := [], alts := [], laidByText := true, laidKinds := [.data, .data, .data], laidTests := true, laidLooks := .later }
def SolvedUptoCardSaid : Prop := Claim7.holds Tryd.pinned (.plain (OpenSpec.upto solvedSpec)) solvedUptoCard

/-- THE SECOND FORM's CARD OF 'matriceskeep.Indices'. -/
def indicesUptoCard : Claim7 := { stood := { row := indicesUptoRow, standIns := [], harness := (true, "bf5f68a4ffd7898e797f73e0e3b6ff52a3a506e07cc6138f2dd0476f08d69379"), looks := false }, kinds := [], alts := [], laidByText := true, laidKinds := [.data, .data, .data], laidTests := true, laidLooks := .later }
def IndicesUptoCardSaid : Prop := Claim7.holds Tryd.pinned (.plain (OpenSpec.upto indicesSpec)) indicesUptoCard
end Rows
end Go.Proofs.YtfjbijpagaipnabDoor
