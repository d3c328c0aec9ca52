/- Closed facts of the row of followed, by the kernel (part 1). -/
import Derived.Test.YtepgoppgblfjbaaGreatDoorRows
import Derived.JoinedCond
import Derived.SevenTiedAt
namespace Go.Proofs.YtepgoppgblfjbaaGreatDoor
set_option maxRecDepth 100000

theorem followed_k9 : ((Rows.followedRow.inPlace == Tryz.prog.inPlace 6)) = true := by kernel_rfl
theorem followed_k10 : ((Rows.followedRow.unfollowed == Tryz.prog.unfollowed 6)) = true := by kernel_rfl
theorem followed_k11 : ((Rows.followedRow.recurses == Tryz.prog.recurses 6)) = true := by kernel_rfl
theorem followed_k12 : ((Rows.followedRow.named == Tryz.prog.varsNamed 6)) = true := by kernel_rfl

end Go.Proofs.YtepgoppgblfjbaaGreatDoor
