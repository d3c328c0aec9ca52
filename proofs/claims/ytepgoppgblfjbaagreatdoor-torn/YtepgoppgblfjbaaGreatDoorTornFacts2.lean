/- Closed facts of the row of torn, by the kernel (part 2). -/
import Derived.Test.YtepgoppgblfjbaaGreatDoorRows
import Derived.JoinedCond
import Derived.SevenTiedAt
namespace Go.Proofs.YtepgoppgblfjbaaGreatDoor
set_option maxRecDepth 100000

theorem torn_k0 : (Rows.tornRow.wf (OpenSpec.ofChange Rows.tornSpec)) = true := by kernel_rfl
theorem torn_k1 : (laidOutB Tryz.prog) = true := by kernel_rfl
theorem torn_k2 : (mapsRowed Tryz.prog) = true := by kernel_rfl
theorem torn_k3 : (Tryz.f10.params.all (Tryz.prog.readableRec ·)) = true := by kernel_rfl
theorem torn_k4 : (namedTie Tryz.prog Rows.tornRow.named Rows.tornSpec.vars) = true := by kernel_rfl
theorem torn_k5 : ((Rows.tornRow.stops == [])) = true := by kernel_rfl
theorem torn_k6 : ((Tryz.prog.stops == [])) = true := by kernel_rfl
theorem torn_k7 : ((Rows.tornRow.knobs == [])) = true := by kernel_rfl
theorem torn_k8 : ((Tryz.prog.stopKnobs == [])) = true := by kernel_rfl
theorem torn_k13 : ((Rows.tornRow.maps == (Tryz.f10.params.toList ++ Rows.tornSpec.plain.varTypes Tryz.prog).any (Tryz.prog.mapsRec ·))) = true := by kernel_rfl
theorem torn_k14 : ((Rows.tornRow.ifaces == (Tryz.f10.params.toList ++ Rows.tornSpec.plain.varTypes Tryz.prog).any (Tryz.prog.ifacesRec ·))) = true := by kernel_rfl
theorem torn_k15 : ((Rows.tornRow.mapsOut == Tryz.prog.mapsAmong Tryz.f10.resultTypes.toList)) = true := by kernel_rfl
theorem torn_k16 : ((Rows.tornRow.loops == (Tryz.f10.params.toList ++ Rows.tornSpec.plain.varTypes Tryz.prog).any (Tryz.prog.loopsFrom ·))) = true := by kernel_rfl
theorem torn_k17 : ((Rows.tornRow.wideKeys == (Tryz.f10.params.toList ++ Rows.tornSpec.plain.varTypes Tryz.prog ++ Tryz.f10.resultTypes.toList).any (Tryz.prog.wideKeysFrom ·))) = true := by kernel_rfl
theorem torn_k18 : (Rows.tornSpec.vars.all (Tryz.prog.varReadable ·)) = true := by kernel_rfl
theorem torn_k19 : (Tryz.f10.resultTypes.all (fun t => Tryz.prog.readableRec t && decide (t < Tryz.prog.types.size))) = true := by kernel_rfl
theorem torn_k20 : ((Rows.tornRow.ifacesOut == Tryz.f10.resultTypes.toList.any (Tryz.prog.ifacesRec ·))) = true := by kernel_rfl
theorem torn_k21 : ((Rows.tornRow.loopsOut == Tryz.f10.resultTypes.toList.any (Tryz.prog.loopsFrom ·))) = true := by kernel_rfl
theorem torn_k22 : ((Rows.tornRow.plainKeys == Tryz.prog.plainKeys)) = true := by kernel_rfl
theorem torn_k23 : (Rows.tornRow.shortTexts.isNone) = true := by kernel_rfl
theorem torn_k24 : (Tryz.prog.stopsHeard) = true := by kernel_rfl
theorem torn_k25 : (Tryz.prog.mayEnter) = true := by kernel_rfl
theorem torn_k26 : ((Rows.tornRow.lifted == Tryz.prog.liftsFinal)) = true := by kernel_rfl
theorem torn_k27 : ((Tryz.prog.make == some Rows.tornRow.make)) = true := by kernel_rfl
theorem torn_k28 : ((Rows.tornRow.kinds == (if Rows.tornRow.domain.isEmpty then [] else Tryz.f10.params.toList.map fun t => match Tryz.prog.underlying t with | some (.int k) => some k | _ => none))) = true := by kernel_rfl
theorem torn_k29 : ((Rows.tornRow.pinned == Rows.tornRow.pinnedBy)) = true := by kernel_rfl
theorem torn_k30 : ((Rows.tornRow.veiled == (Tryz.f10.params.toList ++ Rows.tornSpec.plain.varTypes Tryz.prog ++ Tryz.f10.resultTypes.toList).any (Tryz.prog.veiledRec ·))) = true := by kernel_rfl
theorem torn_k31 : (Rows.tornRow.veiledFits Tryz.prog Tryz.f10.params.toList (Tryz.f10.params.toList ++ Rows.tornSpec.plain.varTypes Tryz.prog ++ Tryz.f10.resultTypes.toList)) = true := by kernel_rfl

end Go.Proofs.YtepgoppgblfjbaaGreatDoor
