/- Closed facts of the row of strange, by the kernel (part 2). -/
import Derived.Test.YtepgoppgblfjbaaGreatDoorRows
import Derived.JoinedCond
import Derived.SevenTiedAt
namespace Go.Proofs.YtepgoppgblfjbaaGreatDoor
set_option maxRecDepth 100000

theorem strange_k0 : (Rows.strangeUptoRow.wf (OpenSpec.ofChange Rows.strangeSpec)) = true := by kernel_rfl
theorem strange_k1 : (laidOutB Tryz.prog) = true := by kernel_rfl
theorem strange_k2 : (mapsRowed Tryz.prog) = true := by kernel_rfl
theorem strange_k3 : (Tryz.f11.params.all (Tryz.prog.readableRec ·)) = true := by kernel_rfl
theorem strange_k4 : (namedTie Tryz.prog Rows.strangeUptoRow.named Rows.strangeSpec.vars) = true := by kernel_rfl
theorem strange_k5 : ((Rows.strangeUptoRow.stops == [])) = true := by kernel_rfl
theorem strange_k6 : ((Tryz.prog.stops == [])) = true := by kernel_rfl
theorem strange_k7 : ((Rows.strangeUptoRow.knobs == [])) = true := by kernel_rfl
theorem strange_k8 : ((Tryz.prog.stopKnobs == [])) = true := by kernel_rfl
theorem strange_k13 : ((Rows.strangeUptoRow.maps == (Tryz.f11.params.toList ++ Rows.strangeSpec.plain.varTypes Tryz.prog).any (Tryz.prog.mapsRec ·))) = true := by kernel_rfl
theorem strange_k14 : ((Rows.strangeUptoRow.ifaces == (Tryz.f11.params.toList ++ Rows.strangeSpec.plain.varTypes Tryz.prog).any (Tryz.prog.ifacesRec ·))) = true := by kernel_rfl
theorem strange_k15 : ((Rows.strangeUptoRow.mapsOut == Tryz.prog.mapsAmong Tryz.f11.resultTypes.toList)) = true := by kernel_rfl
theorem strange_k16 : ((Rows.strangeUptoRow.loops == (Tryz.f11.params.toList ++ Rows.strangeSpec.plain.varTypes Tryz.prog).any (Tryz.prog.loopsFrom ·))) = true := by kernel_rfl
theorem strange_k17 : ((Rows.strangeUptoRow.wideKeys == (Tryz.f11.params.toList ++ Rows.strangeSpec.plain.varTypes Tryz.prog ++ Tryz.f11.resultTypes.toList).any (Tryz.prog.wideKeysFrom ·))) = true := by kernel_rfl
theorem strange_k18 : (Rows.strangeSpec.vars.all (Tryz.prog.varReadable ·)) = true := by kernel_rfl
theorem strange_k19 : (Tryz.f11.resultTypes.all (fun t => Tryz.prog.readableRec t && decide (t < Tryz.prog.types.size))) = true := by kernel_rfl
theorem strange_k20 : ((Rows.strangeUptoRow.ifacesOut == Tryz.f11.resultTypes.toList.any (Tryz.prog.ifacesRec ·))) = true := by kernel_rfl
theorem strange_k21 : ((Rows.strangeUptoRow.loopsOut == Tryz.f11.resultTypes.toList.any (Tryz.prog.loopsFrom ·))) = true := by kernel_rfl
theorem strange_k22 : ((Rows.strangeUptoRow.plainKeys == Tryz.prog.plainKeys)) = true := by kernel_rfl
theorem strange_k23 : (Rows.strangeUptoRow.shortTexts.isNone) = true := by kernel_rfl
theorem strange_k24 : (Tryz.prog.stopsHeard) = true := by kernel_rfl
theorem strange_k25 : (Tryz.prog.mayEnter) = true := by kernel_rfl
theorem strange_k26 : ((Rows.strangeUptoRow.lifted == Tryz.prog.liftsFinal)) = true := by kernel_rfl
theorem strange_k27 : ((Tryz.prog.make == some Rows.strangeUptoRow.make)) = true := by kernel_rfl
theorem strange_k28 : ((Rows.strangeUptoRow.kinds == (if Rows.strangeUptoRow.domain.isEmpty then [] else Tryz.f11.params.toList.map fun t => match Tryz.prog.underlying t with | some (.int k) => some k | _ => none))) = true := by kernel_rfl
theorem strange_k29 : ((Rows.strangeUptoRow.pinned == Rows.strangeUptoRow.pinnedBy)) = true := by kernel_rfl
theorem strange_k30 : ((Rows.strangeUptoRow.veiled == (Tryz.f11.params.toList ++ Rows.strangeSpec.plain.varTypes Tryz.prog ++ Tryz.f11.resultTypes.toList).any (Tryz.prog.veiledRec ·))) = true := by kernel_rfl
theorem strange_k31 : (Rows.strangeUptoRow.veiledFits Tryz.prog Tryz.f11.params.toList (Tryz.f11.params.toList ++ Rows.strangeSpec.plain.varTypes Tryz.prog ++ Tryz.f11.resultTypes.toList)) = true := by kernel_rfl

end Go.Proofs.YtepgoppgblfjbaaGreatDoor
