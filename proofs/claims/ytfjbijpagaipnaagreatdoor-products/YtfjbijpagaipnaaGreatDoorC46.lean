import Derived.Test.YtfjbijpagaipnaaGreatDoorRows
import Derived.JoinedOf
namespace Go.Proofs.YtfjbijpagaipnaaGreatDoor
open Go.ChangeShapes Go.WideShapes
theorem products_j1 : (Rows.productsRow.inPlace == Tryz.pinned.checked.prog.inPlace 4) = true := by kernel_rfl
theorem products_j2 : (Rows.productsRow.unfollowed == Tryz.pinned.checked.prog.unfollowed 4) = true := by kernel_rfl
theorem products_j3 : (Rows.productsRow.recurses == Tryz.pinned.checked.prog.recurses 4) = true := by kernel_rfl
theorem products_j4 : (Rows.productsRow.named == Tryz.pinned.checked.prog.varsNamed 4) = true := by kernel_rfl
theorem products_j5 : laidOutB Tryz.pinned.checked.prog = true := by kernel_rfl
theorem products_j6 : mapsRowed Tryz.pinned.checked.prog = true := by kernel_rfl
theorem products_facts : joinedFacts Tryz.pinned.checked.prog 4 Tryz.f4 Rows.productsSpec Rows.productsRow = true := by
  unfold joinedFacts
  rw [products_j1, products_j2, products_j3, products_j4, products_j5, products_j6]
  kernel_rfl
end Go.Proofs.YtfjbijpagaipnaaGreatDoor
