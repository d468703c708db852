import Derived.Test.YtfjbijpagaipnabGreatDoorRows
import Derived.JoinedOf
namespace Go.Proofs.YtfjbijpagaipnabGreatDoor
open Go.ChangeShapes Go.WideShapes
theorem reduces_j1 : (Rows.reducesRow.inPlace == Tryz.pinned.checked.prog.inPlace 5) = true := by kernel_rfl
theorem reduces_j2 : (Rows.reducesRow.unfollowed == Tryz.pinned.checked.prog.unfollowed 5) = true := by kernel_rfl
theorem reduces_j3 : (Rows.reducesRow.recurses == Tryz.pinned.checked.prog.recurses 5) = true := by kernel_rfl
theorem reduces_j4 : (Rows.reducesRow.named == Tryz.pinned.checked.prog.varsNamed 5) = true := by kernel_rfl
theorem reduces_j5 : laidOutB Tryz.pinned.checked.prog = true := by kernel_rfl
theorem reduces_j6 : mapsRowed Tryz.pinned.checked.prog = true := by kernel_rfl
theorem reduces_facts : joinedFacts Tryz.pinned.checked.prog 5 Tryz.f5 Rows.reducesSpec Rows.reducesRow = true := by
 unfold joinedFacts
 rw [reduces_j1, reduces_j2, reduces_j3, reduces_j4, reduces_j5, reduces_j6]
 kernel_rfl
end Go.Proofs.YtfjbijpagaipnabGreatDoor
