import Derived.Test.YtfjbijpagaipnaaGreatDoorRows
import Derived.JoinedOf
namespace Go.Proofs.YtfjbijpagaipnaaGreatDoor
open Go.ChangeShapes Go.WideShapes
theorem echelons_j1 : (Rows.echelonsRow.inPlace == Tryz.pinned.checked.prog.inPlace 6) = true := by kernel_rfl
theorem echelons_j2 : (Rows.echelonsRow.unfollowed == Tryz.pinned.checked.prog.unfollowed 6) = true := by kernel_rfl
theorem echelons_j3 : (Rows.echelonsRow.recurses == Tryz.pinned.checked.prog.recurses 6) = true := by kernel_rfl
theorem echelons_j4 : (Rows.echelonsRow.named == Tryz.pinned.checked.prog.varsNamed 6) = true := by kernel_rfl
theorem echelons_j5 : laidOutB Tryz.pinned.checked.prog = true := by kernel_rfl
theorem echelons_j6 : mapsRowed Tryz.pinned.checked.prog = true := by kernel_rfl
theorem echelons_facts : joinedFacts Tryz.pinned.checked.prog 6 Tryz.f6 Rows.echelonsSpec Rows.echelonsRow = true := by
  unfold joinedFacts
  rw [echelons_j1, echelons_j2, echelons_j3, echelons_j4, echelons_j5, echelons_j6]
  kernel_rfl
end Go.Proofs.YtfjbijpagaipnaaGreatDoor
