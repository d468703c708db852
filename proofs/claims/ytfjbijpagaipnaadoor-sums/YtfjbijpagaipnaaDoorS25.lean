import Derived.Test.YtfjbijpagaipnaaDoorRows
import Derived.JoinedOf
namespace Go.Proofs.YtfjbijpagaipnaaDoor
open Go.ChangeShapes Go.WideShapes
theorem sums_j1 : (Rows.sumsRow.inPlace == Tryd.pinned.checked.prog.inPlace 4) = true := by kernel_rfl
theorem sums_j2 : (Rows.sumsRow.unfollowed == Tryd.pinned.checked.prog.unfollowed 4) = true := by kernel_rfl
theorem sums_j3 : (Rows.sumsRow.recurses == Tryd.pinned.checked.prog.recurses 4) = true := by kernel_rfl
theorem sums_j4 : (Rows.sumsRow.named == Tryd.pinned.checked.prog.varsNamed 4) = true := by kernel_rfl
theorem sums_j5 : laidOutB Tryd.pinned.checked.prog = true := by kernel_rfl
theorem sums_j6 : mapsRowed Tryd.pinned.checked.prog = true := by kernel_rfl
theorem sums_facts : joinedFacts Tryd.pinned.checked.prog 4 Tryd.f4 Rows.sumsSpec Rows.sumsRow = true := by
 unfold joinedFacts
 rw [sums_j1, sums_j2, sums_j3, sums_j4, sums_j5, sums_j6]
 kernel_rfl
end Go.Proofs.YtfjbijpagaipnaaDoor
