import Derived.Test.YtfjbijpagaipnaaGreatDoorRows
import Derived.JoinedOf
namespace Go.Proofs.YtfjbijpagaipnaaGreatDoor
open Go.ChangeShapes Go.WideShapes
theorem rows_j1 : (Rows.rowsRow.inPlace == Tryz.pinned.checked.prog.inPlace 11) = true := by kernel_rfl
theorem rows_j2 : (Rows.rowsRow.unfollowed == Tryz.pinned.checked.prog.unfollowed 11) = true := by kernel_rfl
theorem rows_j3 : (Rows.rowsRow.recurses == Tryz.pinned.checked.prog.recurses 11) = true := by kernel_rfl
theorem rows_j4 : (Rows.rowsRow.named == Tryz.pinned.checked.prog.varsNamed 11) = true := by kernel_rfl
theorem rows_j5 : laidOutB Tryz.pinned.checked.prog = true := by kernel_rfl
theorem rows_j6 : mapsRowed Tryz.pinned.checked.prog = true := by kernel_rfl
theorem rows_facts : joinedFacts Tryz.pinned.checked.prog 11 Tryz.f11 Rows.rowsSpec Rows.rowsRow = true := by
 unfold joinedFacts
 rw [rows_j1, rows_j2, rows_j3, rows_j4, rows_j5, rows_j6]
 kernel_rfl
end Go.Proofs.YtfjbijpagaipnaaGreatDoor
