import Derived.Test.YtfjbijpagaipnaaGreatDoorRows
import Derived.JoinedOf
namespace Go.Proofs.YtfjbijpagaipnaaGreatDoor
open Go.ChangeShapes Go.WideShapes
theorem types_j1 : (Rows.typesRow.inPlace == Tryz.pinned.checked.prog.inPlace 3) = true := by kernel_rfl
theorem types_j2 : (Rows.typesRow.unfollowed == Tryz.pinned.checked.prog.unfollowed 3) = true := by kernel_rfl
theorem types_j3 : (Rows.typesRow.recurses == Tryz.pinned.checked.prog.recurses 3) = true := by kernel_rfl
theorem types_j4 : (Rows.typesRow.named == Tryz.pinned.checked.prog.varsNamed 3) = true := by kernel_rfl
theorem types_j5 : laidOutB Tryz.pinned.checked.prog = true := by kernel_rfl
theorem types_j6 : mapsRowed Tryz.pinned.checked.prog = true := by kernel_rfl
theorem types_facts : joinedFacts Tryz.pinned.checked.prog 3 Tryz.f3 Rows.typesSpec Rows.typesRow = true := by
  unfold joinedFacts
  rw [types_j1, types_j2, types_j3, types_j4, types_j5, types_j6]
  kernel_rfl
end Go.Proofs.YtfjbijpagaipnaaGreatDoor
