import Derived.Test.YtfjbijpagaipnabGreatDoorRows
import Derived.JoinedOf
namespace Go.Proofs.YtfjbijpagaipnabGreatDoor
open Go.ChangeShapes Go.WideShapes
theorem known_j1 : (Rows.knownRow.inPlace == Tryz.pinned.checked.prog.inPlace 4) = true := by kernel_rfl
theorem known_j2 : (Rows.knownRow.unfollowed == Tryz.pinned.checked.prog.unfollowed 4) = true := by kernel_rfl
theorem known_j3 : (Rows.knownRow.recurses == Tryz.pinned.checked.prog.recurses 4) = true := by kernel_rfl
theorem known_j4 : (Rows.knownRow.named == Tryz.pinned.checked.prog.varsNamed 4) = true := by kernel_rfl
theorem known_j5 : laidOutB Tryz.pinned.checked.prog = true := by kernel_rfl
theorem known_j6 : mapsRowed Tryz.pinned.checked.prog = true := by kernel_rfl
theorem known_facts : joinedFacts Tryz.pinned.checked.prog 4 Tryz.f4 Rows.knownSpec Rows.knownRow = true := by
 unfold joinedFacts
 rw [known_j1, known_j2, known_j3, known_j4, known_j5, known_j6]
 kernel_rfl
end Go.Proofs.YtfjbijpagaipnabGreatDoor
