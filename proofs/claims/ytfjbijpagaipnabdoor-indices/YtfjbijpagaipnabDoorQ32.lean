import Derived.Test.YtfjbijpagaipnabDoorRows
import Derived.JoinedOf
namespace Go.Proofs.YtfjbijpagaipnabDoor
open Go.ChangeShapes Go.WideShapes
theorem indices_j1 : (Rows.indicesRow.inPlace == Tryd.pinned.checked.prog.inPlace 4) = true := by kernel_rfl
theorem indices_j2 : (Rows.indicesRow.unfollowed == Tryd.pinned.checked.prog.unfollowed 4) = true := by kernel_rfl
theorem indices_j3 : (Rows.indicesRow.recurses == Tryd.pinned.checked.prog.recurses 4) = true := by kernel_rfl
theorem indices_j4 : (Rows.indicesRow.named == Tryd.pinned.checked.prog.varsNamed 4) = true := by kernel_rfl
theorem indices_j5 : laidOutB Tryd.pinned.checked.prog = true := by kernel_rfl
theorem indices_j6 : mapsRowed Tryd.pinned.checked.prog = true := by kernel_rfl
theorem indices_facts : joinedFacts Tryd.pinned.checked.prog 4 Tryd.f4 Rows.indicesSpec Rows.indicesRow = true := by
 unfold joinedFacts
 rw [indices_j1, indices_j2, indices_j3, indices_j4, indices_j5, indices_j6]
 kernel_rfl
end Go.Proofs.YtfjbijpagaipnabDoor
