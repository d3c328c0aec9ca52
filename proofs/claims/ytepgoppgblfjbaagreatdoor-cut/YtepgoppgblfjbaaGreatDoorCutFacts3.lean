/- Closed facts of the row of cut, by the kernel (part 3). -/
import Derived.Test.YtepgoppgblfjbaaGreatDoorRows
import Derived.JoinedCond
import Derived.SevenTiedAt
namespace Go.Proofs.YtepgoppgblfjbaaGreatDoor
set_option maxRecDepth 100000

theorem cut_goes : false = Rows.cutRow.goesBy Tryz.prog := by kernel_rfl
theorem cut_text : Rows.cutRow.wfByText (OpenSpec.ofChange Rows.cutSpec) = true := by kernel_rfl

end Go.Proofs.YtepgoppgblfjbaaGreatDoor
