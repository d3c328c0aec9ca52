/- Closed facts of the row of merkle, by the kernel (part 1). -/
import Derived.Test.YtepgoppgblfjbaaGreatDoorRows
import Derived.JoinedCond
import Derived.SevenTiedAt
namespace Go.Proofs.YtepgoppgblfjbaaGreatDoor
set_option maxRecDepth 100000

theorem merkle_k9 : ((Rows.merkleRow.inPlace == Tryz.prog.inPlace 7)) = true := by kernel_rfl
theorem merkle_k10 : ((Rows.merkleRow.unfollowed == Tryz.prog.unfollowed 7)) = true := by kernel_rfl
theorem merkle_k11 : ((Rows.merkleRow.recurses == Tryz.prog.recurses 7)) = true := by kernel_rfl
theorem merkle_k12 : ((Rows.merkleRow.named == Tryz.prog.varsNamed 7)) = true := by kernel_rfl

end Go.Proofs.YtepgoppgblfjbaaGreatDoor
