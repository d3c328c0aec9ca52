/- Closed facts of the row of streams, by the kernel (part 2). -/
import Derived.Test.YtepgoppgblfjbaaGreatDoorRows
import Derived.JoinedCond
import Derived.SevenTiedAt
namespace Go.Proofs.YtepgoppgblfjbaaGreatDoor
set_option maxRecDepth 100000

theorem streams_k0 : (Rows.streamsRow.wf (OpenSpec.ofChange Rows.streamsSpec)) = true := by kernel_rfl
theorem streams_k1 : (laidOutB Tryz.prog) = true := by kernel_rfl
theorem streams_k2 : (mapsRowed Tryz.prog) = true := by kernel_rfl
theorem streams_k3 : (Tryz.f3.params.all (Tryz.prog.readableRec ·)) = true := by kernel_rfl
theorem streams_k4 : (namedTie Tryz.prog Rows.streamsRow.named Rows.streamsSpec.vars) = true := by kernel_rfl
theorem streams_k5 : ((Rows.streamsRow.stops == [])) = true := by kernel_rfl
theorem streams_k6 : ((Tryz.prog.stops == [])) = true := by kernel_rfl
theorem streams_k7 : ((Rows.streamsRow.knobs == [])) = true := by kernel_rfl
theorem streams_k8 : ((Tryz.prog.stopKnobs == [])) = true := by kernel_rfl
theorem streams_k13 : ((Rows.streamsRow.maps == (Tryz.f3.params.toList ++ Rows.streamsSpec.plain.varTypes Tryz.prog).any (Tryz.prog.mapsRec ·))) = true := by kernel_rfl
theorem streams_k14 : ((Rows.streamsRow.ifaces == (Tryz.f3.params.toList ++ Rows.streamsSpec.plain.varTypes Tryz.prog).any (Tryz.prog.ifacesRec ·))) = true := by kernel_rfl
theorem streams_k15 : ((Rows.streamsRow.mapsOut == Tryz.prog.mapsAmong Tryz.f3.resultTypes.toList)) = true := by kernel_rfl
theorem streams_k16 : ((Rows.streamsRow.loops == (Tryz.f3.params.toList ++ Rows.streamsSpec.plain.varTypes Tryz.prog).any (Tryz.prog.loopsFrom ·))) = true := by kernel_rfl
theorem streams_k17 : ((Rows.streamsRow.wideKeys == (Tryz.f3.params.toList ++ Rows.streamsSpec.plain.varTypes Tryz.prog ++ Tryz.f3.resultTypes.toList).any (Tryz.prog.wideKeysFrom ·))) = true := by kernel_rfl
theorem streams_k18 : (Rows.streamsSpec.vars.all (Tryz.prog.varReadable ·)) = true := by kernel_rfl
theorem streams_k19 : (Tryz.f3.resultTypes.all (fun t => Tryz.prog.readableRec t && decide (t < Tryz.prog.types.size))) = true := by kernel_rfl
theorem streams_k20 : ((Rows.streamsRow.ifacesOut == Tryz.f3.resultTypes.toList.any (Tryz.prog.ifacesRec ·))) = true := by kernel_rfl
theorem streams_k21 : ((Rows.streamsRow.loopsOut == Tryz.f3.resultTypes.toList.any (Tryz.prog.loopsFrom ·))) = true := by kernel_rfl
theorem streams_k22 : ((Rows.streamsRow.plainKeys == Tryz.prog.plainKeys)) = true := by kernel_rfl
theorem streams_k23 : (Rows.streamsRow.shortTexts.isNone) = true := by kernel_rfl
theorem streams_k24 : (Tryz.prog.stopsHeard) = true := by kernel_rfl
theorem streams_k25 : (Tryz.prog.mayEnter) = true := by kernel_rfl
theorem streams_k26 : ((Rows.streamsRow.lifted == Tryz.prog.liftsFinal)) = true := by kernel_rfl
theorem streams_k27 : ((Tryz.prog.make == some Rows.streamsRow.make)) = true := by kernel_rfl
theorem streams_k28 : ((Rows.streamsRow.kinds == (if Rows.streamsRow.domain.isEmpty then [] else Tryz.f3.params.toList.map fun t => match Tryz.prog.underlying t with | some (.int k) => some k | _ => none))) = true := by kernel_rfl
theorem streams_k29 : ((Rows.streamsRow.pinned == Rows.streamsRow.pinnedBy)) = true := by kernel_rfl
theorem streams_k30 : ((Rows.streamsRow.veiled == (Tryz.f3.params.toList ++ Rows.streamsSpec.plain.varTypes Tryz.prog ++ Tryz.f3.resultTypes.toList).any (Tryz.prog.veiledRec ·))) = true := by kernel_rfl
theorem streams_k31 : (Rows.streamsRow.veiledFits Tryz.prog Tryz.f3.params.toList (Tryz.f3.params.toList ++ Rows.streamsSpec.plain.varTypes Tryz.prog ++ Tryz.f3.resultTypes.toList)) = true := by kernel_rfl

end Go.Proofs.YtepgoppgblfjbaaGreatDoor
