/- Closed facts of the row of strange, by the kernel (part 1). -/
import Derived.Test.YtepgoppgblfjbaaGreatDoorRows
import Derived.JoinedCond
import Derived.SevenTiedAt
namespace Go.Proofs.YtepgoppgblfjbaaGreatDoor
set_option maxRecDepth 100000

theorem strange_k9 : ((Rows.strangeUptoRow.inPlace == Tryz.prog.inPlace 11)) = true := by kernel_rfl
theorem strange_k10 : ((Rows.strangeUptoRow.unfollowed == Tryz.prog.unfollowed 11)) = true := by kernel_rfl
theorem strange_k11 : ((Rows.strangeUptoRow.recurses == Tryz.prog.recurses 11)) = true := by kernel_rfl
theorem strange_k12 : ((Rows.strangeUptoRow.named == Tryz.prog.varsNamed 11)) = true := by kernel_rfl

end Go.Proofs.YtepgoppgblfjbaaGreatDoor
