import Derived.Test.YtfjbijpagaipnabGreatDoorRows
import Derived.JoinedOf
namespace Go.Proofs.YtfjbijpagaipnabGreatDoor
section
open Go.ChangeShapes Go.WideShapes
theorem IW:(Rows.allRow.inPlace==Tryz.pinned.checked.prog.inPlace 7)=true:=by kernel_rfl
theorem Jb:(Rows.allRow.unfollowed==Tryz.pinned.checked.prog.unfollowed 7)=true:=by kernel_rfl
theorem IX:(Rows.allRow.recurses==Tryz.pinned.checked.prog.recurses 7)=true:=by kernel_rfl
theorem Jt:(Rows.allRow.named==Tryz.pinned.checked.prog.varsNamed 7)=true:=by kernel_rfl
theorem Jc:laidOutB Tryz.pinned.checked.prog=true:=by kernel_rfl
theorem IK:mapsRowed Tryz.pinned.checked.prog=true:=by kernel_rfl
theorem Ec:joinedFacts Tryz.pinned.checked.prog 7 Tryz.f7 Rows.allSpec Rows.allRow=true:=by
 unfold joinedFacts;rw[IW,Jb,IX,Jt,Jc,IK];kernel_rfl
end
end Go.Proofs.YtfjbijpagaipnabGreatDoor
