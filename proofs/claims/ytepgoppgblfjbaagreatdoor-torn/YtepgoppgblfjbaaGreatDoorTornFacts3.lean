/- Closed facts of the row of torn, by the kernel (part 3). -/
import Derived.Test.YtepgoppgblfjbaaGreatDoorRows
import Derived.JoinedCond
import Derived.SevenTiedAt
namespace Go.Proofs.YtepgoppgblfjbaaGreatDoor
set_option maxRecDepth 100000

theorem torn_goes : false = Rows.tornRow.goesBy Tryz.prog := by kernel_rfl
theorem torn_text : Rows.tornRow.wfByText (OpenSpec.ofChange Rows.tornSpec) = true := by kernel_rfl

end Go.Proofs.YtepgoppgblfjbaaGreatDoor
