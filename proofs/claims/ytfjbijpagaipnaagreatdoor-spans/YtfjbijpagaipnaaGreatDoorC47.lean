import Derived.Test.YtfjbijpagaipnaaGreatDoorRows
import Derived.JoinedOf
namespace Go.Proofs.YtfjbijpagaipnaaGreatDoor
open Go.ChangeShapes Go.WideShapes
theorem spans_j1 : (Rows.spansRow.inPlace == Tryz.pinned.checked.prog.inPlace 7) = true := by kernel_rfl
theorem spans_j2 : (Rows.spansRow.unfollowed == Tryz.pinned.checked.prog.unfollowed 7) = true := by kernel_rfl
theorem spans_j3 : (Rows.spansRow.recurses == Tryz.pinned.checked.prog.recurses 7) = true := by kernel_rfl
theorem spans_j4 : (Rows.spansRow.named == Tryz.pinned.checked.prog.varsNamed 7) = true := by kernel_rfl
theorem spans_j5 : laidOutB Tryz.pinned.checked.prog = true := by kernel_rfl
theorem spans_j6 : mapsRowed Tryz.pinned.checked.prog = true := by kernel_rfl
theorem spans_facts : joinedFacts Tryz.pinned.checked.prog 7 Tryz.f7 Rows.spansSpec Rows.spansRow = true := by
 unfold joinedFacts
 rw [spans_j1, spans_j2, spans_j3, spans_j4, spans_j5, spans_j6]
 kernel_rfl
end Go.Proofs.YtfjbijpagaipnaaGreatDoor
