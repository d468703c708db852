import Derived.Test.YtfjbijpagaipnaaDoorRows
import Derived.JoinedOf
namespace Go.Proofs.YtfjbijpagaipnaaDoor
open Go.ChangeShapes Go.WideShapes
theorem handles_j1 : (Rows.handlesRow.inPlace == Tryd.pinned.checked.prog.inPlace 5) = true := by kernel_rfl
theorem handles_j2 : (Rows.handlesRow.unfollowed == Tryd.pinned.checked.prog.unfollowed 5) = true := by kernel_rfl
theorem handles_j3 : (Rows.handlesRow.recurses == Tryd.pinned.checked.prog.recurses 5) = true := by kernel_rfl
theorem handles_j4 : (Rows.handlesRow.named == Tryd.pinned.checked.prog.varsNamed 5) = true := by kernel_rfl
theorem handles_j5 : laidOutB Tryd.pinned.checked.prog = true := by kernel_rfl
theorem handles_j6 : mapsRowed Tryd.pinned.checked.prog = true := by kernel_rfl
theorem handles_facts : joinedFacts Tryd.pinned.checked.prog 5 Tryd.f5 Rows.handlesSpec Rows.handlesRow = true := by
 unfold joinedFacts
 rw [handles_j1, handles_j2, handles_j3, handles_j4, handles_j5, handles_j6]
 kernel_rfl
end Go.Proofs.YtfjbijpagaipnaaDoor
