import Derived.Test.YtfjbijpagaipnabGreatDoorRows
import Derived.JoinedOf
namespace Go.Proofs.YtfjbijpagaipnabGreatDoor
open Go.ChangeShapes Go.WideShapes
theorem short_j1 : (Rows.shortRow.inPlace == Tryz.pinned.checked.prog.inPlace 6) = true := by kernel_rfl
theorem short_j2 : (Rows.shortRow.unfollowed == Tryz.pinned.checked.prog.unfollowed 6) = true := by kernel_rfl
theorem short_j3 : (Rows.shortRow.recurses == Tryz.pinned.checked.prog.recurses 6) = true := by kernel_rfl
theorem short_j4 : (Rows.shortRow.named == Tryz.pinned.checked.prog.varsNamed 6) = true := by kernel_rfl
theorem short_j5 : laidOutB Tryz.pinned.checked.prog = true := by kernel_rfl
theorem short_j6 : mapsRowed Tryz.pinned.checked.prog = true := by kernel_rfl
theorem short_facts : joinedFacts Tryz.pinned.checked.prog 6 Tryz.f6 Rows.shortSpec Rows.shortRow = true := by
 unfold joinedFacts
 rw [short_j1, short_j2, short_j3, short_j4, short_j5, short_j6]
 kernel_rfl
end Go.Proofs.YtfjbijpagaipnabGreatDoor
