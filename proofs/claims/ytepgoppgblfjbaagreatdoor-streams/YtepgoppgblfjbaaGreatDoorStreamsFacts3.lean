/- Closed facts of the row of streams, by the kernel (part 3). -/
import Derived.Test.YtepgoppgblfjbaaGreatDoorRows
import Derived.JoinedCond
import Derived.SevenTiedAt
namespace Go.Proofs.YtepgoppgblfjbaaGreatDoor
set_option maxRecDepth 100000

theorem streams_goes : false = Rows.streamsRow.goesBy Tryz.prog := by kernel_rfl
theorem streams_text : Rows.streamsRow.wfByText (OpenSpec.ofChange Rows.streamsSpec) = true := by kernel_rfl

end Go.Proofs.YtepgoppgblfjbaaGreatDoor
