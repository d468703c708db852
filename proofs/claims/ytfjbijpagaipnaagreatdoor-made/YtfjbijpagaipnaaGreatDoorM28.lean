import Derived.Test.YtfjbijpagaipnaaGreatDoorRows
import Derived.JoinedOf
namespace Go.Proofs.YtfjbijpagaipnaaGreatDoor
open Go.ChangeShapes Go.WideShapes
theorem made_j1 : (Rows.madeRow.inPlace == Tryz.pinned.checked.prog.inPlace 8) = true := by kernel_rfl
theorem made_j2 : (Rows.madeRow.unfollowed == Tryz.pinned.checked.prog.unfollowed 8) = true := by kernel_rfl
theorem made_j3 : (Rows.madeRow.recurses == Tryz.pinned.checked.prog.recurses 8) = true := by kernel_rfl
theorem made_j4 : (Rows.madeRow.named == Tryz.pinned.checked.prog.varsNamed 8) = true := by kernel_rfl
theorem made_j5 : laidOutB Tryz.pinned.checked.prog = true := by kernel_rfl
theorem made_j6 : mapsRowed Tryz.pinned.checked.prog = true := by kernel_rfl
theorem made_facts : joinedFacts Tryz.pinned.checked.prog 8 Tryz.f8 Rows.madeSpec Rows.madeRow = true := by
 unfold joinedFacts
 rw [made_j1, made_j2, made_j3, made_j4, made_j5, made_j6]
 kernel_rfl
end Go.Proofs.YtfjbijpagaipnaaGreatDoor
