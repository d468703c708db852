/-
  DERIVED. GIVEN WITH THE SEED: THE CARDS: each row of YtfjbijpagaipnabGreatDoorRows.lean that lists a variable, with what it lists TIED to the program's text (the seventh form; the later family's looks); each row that meets fmt, with fmt's text TOLD by the authors' own Lean function (tested against real Go, not proved from fmt's source: count such statements apart). THE CARD IS WHAT COUNTS. Prove the row's statement (the work); the ties are given (YtfjbijpagaipnabGreatDoorTie.lean); close each card by the builder's one call (the guide's Derived/Test/ToyasCard.lean, 'card_holds'). Laid BY PROGRAM, IN A SANDBOX (cutbox-door.mjs). By AI agents, Wed Nov 11 2026. No macro, syntax, notation, axiom, sorry.
-/
import Derived.Test.YtfjbijpagaipnabGreatDoorRows
import GoSem.ClaimSeven
namespace Go.Proofs.YtfjbijpagaipnabGreatDoor
namespace Rows

/-- THE TIED CARD OF 'matriceskeep.Twice'. -/
def twiceCard : Claim7 := { stood := { row := twiceRow, standIns := [], harness := (true, "b55569ef2d6ae39423d54b1fdae5e34ab2ecb251f7324ae5017260b70cf02646"), looks := false }, kinds := [], alts := [], laidByText := true, laidKinds := [.data, .data, .data], laidTests := true, laidLooks := .later }
def TwiceCardSaid : Prop := Claim7.holds Tryz.pinned (.plain (OpenSpec.ofChange twiceSpec)) twiceCard

/-- THE TIED CARD OF 'matriceskeep.Known'. -/
def knownCard : Claim7 := { stood := { row := knownRow, standIns := [], harness := (true, "b55569ef2d6ae39423d54b1fdae5e34ab2ecb251f7324ae5017260b70cf02646"), looks := false }, kinds := [], alts := [], laidByText := true, laidKinds := [.data, .data, .data], laidTests := true, laidLooks := .later }
def KnownCardSaid : Prop := Claim7.holds Tryz.pinned (.plain (OpenSpec.ofChange knownSpec)) knownCard

/-- THE TIED CARD OF 'matriceslaw.Reduces'. -/
def reducesCard : Claim7 := { stood := { row := reducesRow, standIns := [], harness := (true, "b55569ef2d6ae39423d54b1fdae5e34ab2ecb251f7324ae5017260b70cf02646"), looks := false }, kinds := [], alts := [], laidByText := true, laidKinds := [.data, .data, .data], laidTests := true, laidLooks := .later }
def ReducesCardSaid : Prop := Claim7.holds Tryz.pinned (.plain (OpenSpec.ofChange reducesSpec)) reducesCard

/-- THE TIED CARD OF 'matriceskeep.Short'. -/
def shortCard : Claim7 := { stood := { row := shortRow, standIns := [], harness := (true, "b55569ef2d6ae39423d54b1fdae5e34ab2ecb251f7324ae5017260b70cf02646"), looks := false }, kinds := [], alts := [], laidByText := true, laidKinds := [.data, .data, .data], laidTests := true, laidLooks := .later }
def ShortCardSaid : Prop := Claim7.holds Tryz.pinned (.plain (OpenSpec.ofChange shortSpec)) shortCard

/-- THE TIED CARD OF 'matriceslaw.All'. -/
def allCard : Claim7 := { stood := { row := allRow, standIns := [], harness := (true, "b55569ef2d6ae39423d54b1fdae5e34ab2ecb251f7324ae5017260b70cf02646"), looks := false }, kinds := [], alts := [], laidByText := true, laidKinds := [.data, .data, .data], laidTests := true, laidLooks := .later }
def AllCardSaid : Prop := Claim7.holds Tryz.pinned (.plain (OpenSpec.ofChange allSpec)) allCard

/-- THE SECOND FORM's CARD OF 'matriceskeep.Twice'. -/
def twiceUptoCard : Claim7 := { stood := { row := twiceUptoRow, standIns := [], harness := (true, "b55569ef2d6ae39423d54b1fdae5e34ab2ecb251f7324ae5017260b70cf02646"), looks := false }, kinds := [], alts := [], laidByText := true, laidKinds := [.data, .data, .data], laidTests := true, laidLooks := .later }
def TwiceUptoCardSaid : Prop := Claim7.holds Tryz.pinned (.plain (OpenSpec.upto twiceSpec)) twiceUptoCard

/-- THE SECOND FORM's CARD OF 'matriceskeep.Known'. -/
def knownUptoCard : Claim7 := { stood := { row := knownUptoRow, standIns := [], harness := (true, "b55569ef2d6ae39423d54b1fdae5e34ab2ecb251f7324ae5017260b70cf02646"), looks := false }, kinds := [], alts := [], laidByText := true, laidKinds := [.data, .data, .data], laidTests := true, laidLooks := .later }
def KnownUptoCardSaid : Prop := Claim7.holds Tryz.pinned (.plain (OpenSpec.upto knownSpec)) knownUptoCard

/-- THE SECOND FORM's CARD OF 'matriceslaw.Reduces'. -/
def reducesUptoCard : Claim7 := { stood := { row := reducesUptoRow, standIns := [], harness := (true, "b55569ef2d6ae39423d54b1fdae5e34ab2ecb251f7324ae5017260b70cf02646"), looks := false }, kinds := [], alts := [], laidByText := true, laidKinds := [.data, .data, .data], laidTests := true, laidLooks := .later }
def ReducesUptoCardSaid : Prop := Claim7.holds Tryz.pinned (.plain (OpenSpec.upto reducesSpec)) reducesUptoCard

/-- THE SECOND FORM's CARD OF 'matriceskeep.Short'. -/
def shortUptoCard : Claim7 := { stood := { row := shortUptoRow, standIns := [], harness := (true, "b55569ef2d6ae39423d54b1fdae5e34ab2ecb251f7324ae5017260b70cf02646"), looks := false }, kinds := [], alts := [], laidByText := true, laidKinds := [.data, .data, .data], laidTests := true, laidLooks := .later }
def ShortUptoCardSaid : Prop := Claim7.holds Tryz.pinned (.plain (OpenSpec.upto shortSpec)) shortUptoCard

/-- THE SECOND FORM's CARD OF 'matriceslaw.All'. -/
def allUptoCard : Claim7 := { stood := { row := allUptoRow, standIns := [], harness := (true, "b55569ef2d6ae39423d54b1fdae5e34ab2ecb251f7324ae5017260b70cf02646"), looks := false }, kinds := [], alts := [], laidByText := true, laidKinds := [.data, .data, .data], laidTests := true, laidLooks := .later }
def AllUptoCardSaid : Prop := Claim7.holds Tryz.pinned (.plain (OpenSpec.upto allSpec)) allUptoCard
end Rows
end Go.Proofs.YtfjbijpagaipnabGreatDoor
