import Derived.Test.YtfjbijpagaipnaaGreatDoorRows
import Derived.JoinedOf
namespace Go.Proofs.YtfjbijpagaipnaaGreatDoor
open Go.ChangeShapes Go.WideShapes
theorem diagonals_j1 : (Rows.diagonalsRow.inPlace == Tryz.pinned.checked.prog.inPlace 9) = true := by kernel_rfl
theorem diagonals_j2 : (Rows.diagonalsRow.unfollowed == Tryz.pinned.checked.prog.unfollowed 9) = true := by kernel_rfl
theorem diagonals_j3 : (Rows.diagonalsRow.recurses == Tryz.pinned.checked.prog.recurses 9) = true := by kernel_rfl
theorem diagonals_j4 : (Rows.diagonalsRow.named == Tryz.pinned.checked.prog.varsNamed 9) = true := by kernel_rfl
theorem diagonals_j5 : laidOutB Tryz.pinned.checked.prog = true := by kernel_rfl
theorem diagonals_j6 : mapsRowed Tryz.pinned.checked.prog = true := by kernel_rfl
theorem diagonals_facts : joinedFacts Tryz.pinned.checked.prog 9 Tryz.f9 Rows.diagonalsSpec Rows.diagonalsRow = true := by
 unfold joinedFacts
 rw [diagonals_j1, diagonals_j2, diagonals_j3, diagonals_j4, diagonals_j5, diagonals_j6]
 kernel_rfl
end Go.Proofs.YtfjbijpagaipnaaGreatDoor
