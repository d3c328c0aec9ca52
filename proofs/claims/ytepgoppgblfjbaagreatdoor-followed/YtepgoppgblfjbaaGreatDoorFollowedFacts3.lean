/- Closed facts of the row of followed, by the kernel (part 3). -/
import Derived.Test.YtepgoppgblfjbaaGreatDoorRows
import Derived.JoinedCond
import Derived.SevenTiedAt
namespace Go.Proofs.YtepgoppgblfjbaaGreatDoor
set_option maxRecDepth 100000

theorem followed_goes : false = Rows.followedRow.goesBy Tryz.prog := by kernel_rfl
theorem followed_text : Rows.followedRow.wfByText (OpenSpec.ofChange Rows.followedSpec) = true := by kernel_rfl

end Go.Proofs.YtepgoppgblfjbaaGreatDoor
