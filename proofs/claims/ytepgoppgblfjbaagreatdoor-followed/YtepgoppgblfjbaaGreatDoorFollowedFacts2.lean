/- Closed facts of the row of followed, by the kernel (part 2). -/
import Derived.Test.YtepgoppgblfjbaaGreatDoorRows
import Derived.JoinedCond
import Derived.SevenTiedAt
namespace Go.Proofs.YtepgoppgblfjbaaGreatDoor
set_option maxRecDepth 100000

theorem followed_k0 : (Rows.followedRow.wf (OpenSpec.ofChange Rows.followedSpec)) = true := by kernel_rfl
theorem followed_k1 : (laidOutB Tryz.prog) = true := by kernel_rfl
theorem followed_k2 : (mapsRowed Tryz.prog) = true := by kernel_rfl
theorem followed_k3 : (Tryz.f6.params.all (Tryz.prog.readableRec ·)) = true := by kernel_rfl
theorem followed_k4 : (namedTie Tryz.prog Rows.followedRow.named Rows.followedSpec.vars) = true := by kernel_rfl
theorem followed_k5 : ((Rows.followedRow.stops == [])) = true := by kernel_rfl
theorem followed_k6 : ((Tryz.prog.stops == [])) = true := by kernel_rfl
theorem followed_k7 : ((Rows.followedRow.knobs == [])) = true := by kernel_rfl
theorem followed_k8 : ((Tryz.prog.stopKnobs == [])) = true := by kernel_rfl
theorem followed_k13 : ((Rows.followedRow.maps == (Tryz.f6.params.toList ++ Rows.followedSpec.plain.varTypes Tryz.prog).any (Tryz.prog.mapsRec ·))) = true := by kernel_rfl
theorem followed_k14 : ((Rows.followedRow.ifaces == (Tryz.f6.params.toList ++ Rows.followedSpec.plain.varTypes Tryz.prog).any (Tryz.prog.ifacesRec ·))) = true := by kernel_rfl
theorem followed_k15 : ((Rows.followedRow.mapsOut == Tryz.prog.mapsAmong Tryz.f6.resultTypes.toList)) = true := by kernel_rfl
theorem followed_k16 : ((Rows.followedRow.loops == (Tryz.f6.params.toList ++ Rows.followedSpec.plain.varTypes Tryz.prog).any (Tryz.prog.loopsFrom ·))) = true := by kernel_rfl
theorem followed_k17 : ((Rows.followedRow.wideKeys == (Tryz.f6.params.toList ++ Rows.followedSpec.plain.varTypes Tryz.prog ++ Tryz.f6.resultTypes.toList).any (Tryz.prog.wideKeysFrom ·))) = true := by kernel_rfl
theorem followed_k18 : (Rows.followedSpec.vars.all (Tryz.prog.varReadable ·)) = true := by kernel_rfl
theorem followed_k19 : (Tryz.f6.resultTypes.all (fun t => Tryz.prog.readableRec t && decide (t < Tryz.prog.types.size))) = true := by kernel_rfl
theorem followed_k20 : ((Rows.followedRow.ifacesOut == Tryz.f6.resultTypes.toList.any (Tryz.prog.ifacesRec ·))) = true := by kernel_rfl
theorem followed_k21 : ((Rows.followedRow.loopsOut == Tryz.f6.resultTypes.toList.any (Tryz.prog.loopsFrom ·))) = true := by kernel_rfl
theorem followed_k22 : ((Rows.followedRow.plainKeys == Tryz.prog.plainKeys)) = true := by kernel_rfl
theorem followed_k23 : (Rows.followedRow.shortTexts.isNone) = true := by kernel_rfl
theorem followed_k24 : (Tryz.prog.stopsHeard) = true := by kernel_rfl
theorem followed_k25 : (Tryz.prog.mayEnter) = true := by kernel_rfl
theorem followed_k26 : ((Rows.followedRow.lifted == Tryz.prog.liftsFinal)) = true := by kernel_rfl
theorem followed_k27 : ((Tryz.prog.make == some Rows.followedRow.make)) = true := by kernel_rfl
theorem followed_k28 : ((Rows.followedRow.kinds == (if Rows.followedRow.domain.isEmpty then [] else Tryz.f6.params.toList.map fun t => match Tryz.prog.underlying t with | some (.int k) => some k | _ => none))) = true := by kernel_rfl
theorem followed_k29 : ((Rows.followedRow.pinned == Rows.followedRow.pinnedBy)) = true := by kernel_rfl
theorem followed_k30 : ((Rows.followedRow.veiled == (Tryz.f6.params.toList ++ Rows.followedSpec.plain.varTypes Tryz.prog ++ Tryz.f6.resultTypes.toList).any (Tryz.prog.veiledRec ·))) = true := by kernel_rfl
theorem followed_k31 : (Rows.followedRow.veiledFits Tryz.prog Tryz.f6.params.toList (Tryz.f6.params.toList ++ Rows.followedSpec.plain.varTypes Tryz.prog ++ Tryz.f6.resultTypes.toList)) = true := by kernel_rfl

end Go.Proofs.YtepgoppgblfjbaaGreatDoor
