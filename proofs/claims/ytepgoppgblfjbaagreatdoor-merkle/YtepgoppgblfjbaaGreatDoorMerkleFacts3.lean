/- Closed facts of the row of merkle, by the kernel (part 3). -/
import Derived.Test.YtepgoppgblfjbaaGreatDoorRows
import Derived.JoinedCond
import Derived.SevenTiedAt
namespace Go.Proofs.YtepgoppgblfjbaaGreatDoor
set_option maxRecDepth 100000

theorem merkle_goes : false = Rows.merkleRow.goesBy Tryz.prog := by kernel_rfl
theorem merkle_text : Rows.merkleRow.wfByText (OpenSpec.ofChange Rows.merkleSpec) = true := by kernel_rfl

end Go.Proofs.YtepgoppgblfjbaaGreatDoor
