import Derived.Test.YtfjbijpagaipnabGreatDoorRows
import Derived.JoinedOf
namespace Go.Proofs.YtfjbijpagaipnabGreatDoor
open Go.ChangeShapes Go.WideShapes
theorem twice_j1 : (Rows.twiceRow.inPlace == Tryz.pinned.checked.prog.inPlace 3) = true := by kernel_rfl
theorem twice_j2 : (Rows.twiceRow.unfollowed == Tryz.pinned.checked.prog.unfollowed 3) = true := by kernel_rfl
theorem twice_j3 : (Rows.twiceRow.recurses == Tryz.pinned.checked.prog.recurses 3) = true := by kernel_rfl
theorem twice_j4 : (Rows.twiceRow.named == Tryz.pinned.checked.prog.varsNamed 3) = true := by kernel_rfl
theorem twice_j5 : laidOutB Tryz.pinned.checked.prog = true := by kernel_rfl
theorem twice_j6 : mapsRowed Tryz.pinned.checked.prog = true := by kernel_rfl
theorem twice_facts : joinedFacts Tryz.pinned.checked.prog 3 Tryz.f3 Rows.twiceSpec Rows.twiceRow = true := by
 unfold joinedFacts
 rw [twice_j1, twice_j2, twice_j3, twice_j4, twice_j5, twice_j6]
 kernel_rfl
end Go.Proofs.YtfjbijpagaipnabGreatDoor
