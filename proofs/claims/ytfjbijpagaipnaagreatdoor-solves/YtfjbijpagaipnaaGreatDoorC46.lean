import Derived.Test.YtfjbijpagaipnaaGreatDoorRows
import Derived.JoinedOf
namespace Go.Proofs.YtfjbijpagaipnaaGreatDoor
open Go.ChangeShapes Go.WideShapes
theorem solves_j1 : (Rows.solvesRow.inPlace == Tryz.pinned.checked.prog.inPlace 10) = true := by kernel_rfl
theorem solves_j2 : (Rows.solvesRow.unfollowed == Tryz.pinned.checked.prog.unfollowed 10) = true := by kernel_rfl
theorem solves_j3 : (Rows.solvesRow.recurses == Tryz.pinned.checked.prog.recurses 10) = true := by kernel_rfl
theorem solves_j4 : (Rows.solvesRow.named == Tryz.pinned.checked.prog.varsNamed 10) = true := by kernel_rfl
theorem solves_j5 : laidOutB Tryz.pinned.checked.prog = true := by kernel_rfl
theorem solves_j6 : mapsRowed Tryz.pinned.checked.prog = true := by kernel_rfl
theorem solves_facts : joinedFacts Tryz.pinned.checked.prog 10 Tryz.f10 Rows.solvesSpec Rows.solvesRow = true := by
 unfold joinedFacts
 rw [solves_j1, solves_j2, solves_j3, solves_j4, solves_j5, solves_j6]
 kernel_rfl
end Go.Proofs.YtfjbijpagaipnaaGreatDoor
