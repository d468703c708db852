import Derived.Test.YtfjbijpagaipnaaGreatDoorRows
import Derived.JoinedOf
namespace Go.Proofs.YtfjbijpagaipnaaGreatDoor
open Go.ChangeShapes Go.WideShapes
theorem dets_j1 : (Rows.detsRow.inPlace == Tryz.pinned.checked.prog.inPlace 5) = true := by kernel_rfl
theorem dets_j2 : (Rows.detsRow.unfollowed == Tryz.pinned.checked.prog.unfollowed 5) = true := by kernel_rfl
theorem dets_j3 : (Rows.detsRow.recurses == Tryz.pinned.checked.prog.recurses 5) = true := by kernel_rfl
theorem dets_j4 : (Rows.detsRow.named == Tryz.pinned.checked.prog.varsNamed 5) = true := by kernel_rfl
theorem dets_j5 : laidOutB Tryz.pinned.checked.prog = true := by kernel_rfl
theorem dets_j6 : mapsRowed Tryz.pinned.checked.prog = true := by kernel_rfl
theorem dets_facts : joinedFacts Tryz.pinned.checked.prog 5 Tryz.f5 Rows.detsSpec Rows.detsRow = true := by
  unfold joinedFacts
  rw [dets_j1, dets_j2, dets_j3, dets_j4, dets_j5, dets_j6]
  kernel_rfl
end Go.Proofs.YtfjbijpagaipnaaGreatDoor
