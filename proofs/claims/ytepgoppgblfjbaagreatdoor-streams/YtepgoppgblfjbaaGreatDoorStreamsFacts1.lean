/- Closed facts of the row of streams, by the kernel (part 1). -/
import Derived.Test.YtepgoppgblfjbaaGreatDoorRows
import Derived.JoinedCond
import Derived.SevenTiedAt
namespace Go.Proofs.YtepgoppgblfjbaaGreatDoor
set_option maxRecDepth 100000

theorem streams_k9 : ((Rows.streamsRow.inPlace == Tryz.prog.inPlace 3)) = true := by kernel_rfl
theorem streams_k10 : ((Rows.streamsRow.unfollowed == Tryz.prog.unfollowed 3)) = true := by kernel_rfl
theorem streams_k11 : ((Rows.streamsRow.recurses == Tryz.prog.recurses 3)) = true := by kernel_rfl
theorem streams_k12 : ((Rows.streamsRow.named == Tryz.prog.varsNamed 3)) = true := by kernel_rfl

end Go.Proofs.YtepgoppgblfjbaaGreatDoor
