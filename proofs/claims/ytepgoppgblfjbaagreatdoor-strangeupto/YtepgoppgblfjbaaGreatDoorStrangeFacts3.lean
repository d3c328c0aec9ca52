/- Closed facts of the row of strange, by the kernel (part 3). -/
import Derived.Test.YtepgoppgblfjbaaGreatDoorRows
import Derived.JoinedCond
import Derived.SevenTiedAt
namespace Go.Proofs.YtepgoppgblfjbaaGreatDoor
set_option maxRecDepth 100000

theorem strange_goes : false = Rows.strangeUptoRow.goesBy Tryz.prog := by kernel_rfl
theorem strange_text : Rows.strangeUptoRow.wfByText (Rows.OpenSpec.upto Rows.strangeSpec) = true := by kernel_rfl

end Go.Proofs.YtepgoppgblfjbaaGreatDoor
