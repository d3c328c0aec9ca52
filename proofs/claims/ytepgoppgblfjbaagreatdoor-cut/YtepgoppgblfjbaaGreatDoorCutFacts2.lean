/- Closed facts of the row of cut, by the kernel (part 2). -/
import Derived.Test.YtepgoppgblfjbaaGreatDoorRows
import Derived.JoinedCond
import Derived.SevenTiedAt
namespace Go.Proofs.YtepgoppgblfjbaaGreatDoor
set_option maxRecDepth 100000

theorem cut_k0 : (Rows.cutRow.wf (OpenSpec.ofChange Rows.cutSpec)) = true := by kernel_rfl
theorem cut_k1 : (laidOutB Tryz.prog) = true := by kernel_rfl
theorem cut_k2 : (mapsRowed Tryz.prog) = true := by kernel_rfl
theorem cut_k3 : (Tryz.f4.params.all (Tryz.prog.readableRec ·)) = true := by kernel_rfl
theorem cut_k4 : (namedTie Tryz.prog Rows.cutRow.named Rows.cutSpec.vars) = true := by kernel_rfl
theorem cut_k5 : ((Rows.cutRow.stops == [])) = true := by kernel_rfl
theorem cut_k6 : ((Tryz.prog.stops == [])) = true := by kernel_rfl
theorem cut_k7 : ((Rows.cutRow.knobs == [])) = true := by kernel_rfl
theorem cut_k8 : ((Tryz.prog.stopKnobs == [])) = true := by kernel_rfl
theorem cut_k13 : ((Rows.cutRow.maps == (Tryz.f4.params.toList ++ Rows.cutSpec.plain.varTypes Tryz.prog).any (Tryz.prog.mapsRec ·))) = true := by kernel_rfl
theorem cut_k14 : ((Rows.cutRow.ifaces == (Tryz.f4.params.toList ++ Rows.cutSpec.plain.varTypes Tryz.prog).any (Tryz.prog.ifacesRec ·))) = true := by kernel_rfl
theorem cut_k15 : ((Rows.cutRow.mapsOut == Tryz.prog.mapsAmong Tryz.f4.resultTypes.toList)) = true := by kernel_rfl
theorem cut_k16 : ((Rows.cutRow.loops == (Tryz.f4.params.toList ++ Rows.cutSpec.plain.varTypes Tryz.prog).any (Tryz.prog.loopsFrom ·))) = true := by kernel_rfl
theorem cut_k17 : ((Rows.cutRow.wideKeys == (Tryz.f4.params.toList ++ Rows.cutSpec.plain.varTypes Tryz.prog ++ Tryz.f4.resultTypes.toList).any (Tryz.prog.wideKeysFrom ·))) = true := by kernel_rfl
theorem cut_k18 : (Rows.cutSpec.vars.all (Tryz.prog.varReadable ·)) = true := by kernel_rfl
theorem cut_k19 : (Tryz.f4.resultTypes.all (fun t => Tryz.prog.readableRec t && decide (t < Tryz.prog.types.size))) = true := by kernel_rfl
theorem cut_k20 : ((Rows.cutRow.ifacesOut == Tryz.f4.resultTypes.toList.any (Tryz.prog.ifacesRec ·))) = true := by kernel_rfl
theorem cut_k21 : ((Rows.cutRow.loopsOut == Tryz.f4.resultTypes.toList.any (Tryz.prog.loopsFrom ·))) = true := by kernel_rfl
theorem cut_k22 : ((Rows.cutRow.plainKeys == Tryz.prog.plainKeys)) = true := by kernel_rfl
theorem cut_k23 : (Rows.cutRow.shortTexts.isNone) = true := by kernel_rfl
theorem cut_k24 : (Tryz.prog.stopsHeard) = true := by kernel_rfl
theorem cut_k25 : (Tryz.prog.mayEnter) = true := by kernel_rfl
theorem cut_k26 : ((Rows.cutRow.lifted == Tryz.prog.liftsFinal)) = true := by kernel_rfl
theorem cut_k27 : ((Tryz.prog.make == some Rows.cutRow.make)) = true := by kernel_rfl
theorem cut_k28 : ((Rows.cutRow.kinds == (if Rows.cutRow.domain.isEmpty then [] else Tryz.f4.params.toList.map fun t => match Tryz.prog.underlying t with | some (.int k) => some k | _ => none))) = true := by kernel_rfl
theorem cut_k29 : ((Rows.cutRow.pinned == Rows.cutRow.pinnedBy)) = true := by kernel_rfl
theorem cut_k30 : ((Rows.cutRow.veiled == (Tryz.f4.params.toList ++ Rows.cutSpec.plain.varTypes Tryz.prog ++ Tryz.f4.resultTypes.toList).any (Tryz.prog.veiledRec ·))) = true := by kernel_rfl
theorem cut_k31 : (Rows.cutRow.veiledFits Tryz.prog Tryz.f4.params.toList (Tryz.f4.params.toList ++ Rows.cutSpec.plain.varTypes Tryz.prog ++ Tryz.f4.resultTypes.toList)) = true := by kernel_rfl

end Go.Proofs.YtepgoppgblfjbaaGreatDoor
