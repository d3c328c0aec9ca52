/- Closed facts of the row of torn, by the kernel (part 1). -/
import Derived.Test.YtepgoppgblfjbaaGreatDoorRows
import Derived.JoinedCond
import Derived.SevenTiedAt
namespace Go.Proofs.YtepgoppgblfjbaaGreatDoor
set_option maxRecDepth 100000

theorem torn_k9 : ((Rows.tornRow.inPlace == Tryz.prog.inPlace 10)) = true := by kernel_rfl
theorem torn_k10 : ((Rows.tornRow.unfollowed == Tryz.prog.unfollowed 10)) = true := by kernel_rfl
theorem torn_k11 : ((Rows.tornRow.recurses == Tryz.prog.recurses 10)) = true := by kernel_rfl
theorem torn_k12 : ((Rows.tornRow.named == Tryz.prog.varsNamed 10)) = true := by kernel_rfl

end Go.Proofs.YtepgoppgblfjbaaGreatDoor
