/- Closed facts of the row of cut, by the kernel (part 1). -/
import Derived.Test.YtepgoppgblfjbaaGreatDoorRows
import Derived.JoinedCond
import Derived.SevenTiedAt
namespace Go.Proofs.YtepgoppgblfjbaaGreatDoor
set_option maxRecDepth 100000

theorem cut_k9 : ((Rows.cutRow.inPlace == Tryz.prog.inPlace 4)) = true := by kernel_rfl
theorem cut_k10 : ((Rows.cutRow.unfollowed == Tryz.prog.unfollowed 4)) = true := by kernel_rfl
theorem cut_k11 : ((Rows.cutRow.recurses == Tryz.prog.recurses 4)) = true := by kernel_rfl
theorem cut_k12 : ((Rows.cutRow.named == Tryz.prog.varsNamed 4)) = true := by kernel_rfl

end Go.Proofs.YtepgoppgblfjbaaGreatDoor
