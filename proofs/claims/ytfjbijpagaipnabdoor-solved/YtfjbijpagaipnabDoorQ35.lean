import Derived.Test.YtfjbijpagaipnabDoorRows
import Derived.JoinedOf
namespace Go.Proofs.YtfjbijpagaipnabDoor
open Go.ChangeShapes Go.WideShapes
theorem solved_j1 : (Rows.solvedRow.inPlace == Tryd.pinned.checked.prog.inPlace 3) = true := by kernel_rfl
theorem solved_j2 : (Rows.solvedRow.unfollowed == Tryd.pinned.checked.prog.unfollowed 3) = true := by kernel_rfl
theorem solved_j3 : (Rows.solvedRow.recurses == Tryd.pinned.checked.prog.recurses 3) = true := by kernel_rfl
theorem solved_j4 : (Rows.solvedRow.named == Tryd.pinned.checked.prog.varsNamed 3) = true := by kernel_rfl
theorem solved_j5 : laidOutB Tryd.pinned.checked.prog = true := by kernel_rfl
theorem solved_j6 : mapsRowed Tryd.pinned.checked.prog = true := by kernel_rfl
theorem solved_facts : joinedFacts Tryd.pinned.checked.prog 3 Tryd.f3 Rows.solvedSpec Rows.solvedRow = true := by
 unfold joinedFacts
 rw [solved_j1, solved_j2, solved_j3, solved_j4, solved_j5, solved_j6]
 kernel_rfl
end Go.Proofs.YtfjbijpagaipnabDoor
