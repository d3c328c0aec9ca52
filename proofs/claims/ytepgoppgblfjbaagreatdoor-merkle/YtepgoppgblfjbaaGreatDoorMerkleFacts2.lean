/- Closed facts of the row of merkle, by the kernel (part 2). -/
import Derived.Test.YtepgoppgblfjbaaGreatDoorRows
import Derived.JoinedCond
import Derived.SevenTiedAt
namespace Go.Proofs.YtepgoppgblfjbaaGreatDoor
set_option maxRecDepth 100000

theorem merkle_k0 : (Rows.merkleRow.wf (OpenSpec.ofChange Rows.merkleSpec)) = true := by kernel_rfl
theorem merkle_k1 : (laidOutB Tryz.prog) = true := by kernel_rfl
theorem merkle_k2 : (mapsRowed Tryz.prog) = true := by kernel_rfl
theorem merkle_k3 : (Tryz.f7.params.all (Tryz.prog.readableRec ·)) = true := by kernel_rfl
theorem merkle_k4 : (namedTie Tryz.prog Rows.merkleRow.named Rows.merkleSpec.vars) = true := by kernel_rfl
theorem merkle_k5 : ((Rows.merkleRow.stops == [])) = true := by kernel_rfl
theorem merkle_k6 : ((Tryz.prog.stops == [])) = true := by kernel_rfl
theorem merkle_k7 : ((Rows.merkleRow.knobs == [])) = true := by kernel_rfl
theorem merkle_k8 : ((Tryz.prog.stopKnobs == [])) = true := by kernel_rfl
theorem merkle_k13 : ((Rows.merkleRow.maps == (Tryz.f7.params.toList ++ Rows.merkleSpec.plain.varTypes Tryz.prog).any (Tryz.prog.mapsRec ·))) = true := by kernel_rfl
theorem merkle_k14 : ((Rows.merkleRow.ifaces == (Tryz.f7.params.toList ++ Rows.merkleSpec.plain.varTypes Tryz.prog).any (Tryz.prog.ifacesRec ·))) = true := by kernel_rfl
theorem merkle_k15 : ((Rows.merkleRow.mapsOut == Tryz.prog.mapsAmong Tryz.f7.resultTypes.toList)) = true := by kernel_rfl
theorem merkle_k16 : ((Rows.merkleRow.loops == (Tryz.f7.params.toList ++ Rows.merkleSpec.plain.varTypes Tryz.prog).any (Tryz.prog.loopsFrom ·))) = true := by kernel_rfl
theorem merkle_k17 : ((Rows.merkleRow.wideKeys == (Tryz.f7.params.toList ++ Rows.merkleSpec.plain.varTypes Tryz.prog ++ Tryz.f7.resultTypes.toList).any (Tryz.prog.wideKeysFrom ·))) = true := by kernel_rfl
theorem merkle_k18 : (Rows.merkleSpec.vars.all (Tryz.prog.varReadable ·)) = true := by kernel_rfl
theorem merkle_k19 : (Tryz.f7.resultTypes.all (fun t => Tryz.prog.readableRec t && decide (t < Tryz.prog.types.size))) = true := by kernel_rfl
theorem merkle_k20 : ((Rows.merkleRow.ifacesOut == Tryz.f7.resultTypes.toList.any (Tryz.prog.ifacesRec ·))) = true := by kernel_rfl
theorem merkle_k21 : ((Rows.merkleRow.loopsOut == Tryz.f7.resultTypes.toList.any (Tryz.prog.loopsFrom ·))) = true := by kernel_rfl
theorem merkle_k22 : ((Rows.merkleRow.plainKeys == Tryz.prog.plainKeys)) = true := by kernel_rfl
theorem merkle_k23 : (Rows.merkleRow.shortTexts.isNone) = true := by kernel_rfl
theorem merkle_k24 : (Tryz.prog.stopsHeard) = true := by kernel_rfl
theorem merkle_k25 : (Tryz.prog.mayEnter) = true := by kernel_rfl
theorem merkle_k26 : ((Rows.merkleRow.lifted == Tryz.prog.liftsFinal)) = true := by kernel_rfl
theorem merkle_k27 : ((Tryz.prog.make == some Rows.merkleRow.make)) = true := by kernel_rfl
theorem merkle_k28 : ((Rows.merkleRow.kinds == (if Rows.merkleRow.domain.isEmpty then [] else Tryz.f7.params.toList.map fun t => match Tryz.prog.underlying t with | some (.int k) => some k | _ => none))) = true := by kernel_rfl
theorem merkle_k29 : ((Rows.merkleRow.pinned == Rows.merkleRow.pinnedBy)) = true := by kernel_rfl
theorem merkle_k30 : ((Rows.merkleRow.veiled == (Tryz.f7.params.toList ++ Rows.merkleSpec.plain.varTypes Tryz.prog ++ Tryz.f7.resultTypes.toList).any (Tryz.prog.veiledRec ·))) = true := by kernel_rfl
theorem merkle_k31 : (Rows.merkleRow.veiledFits Tryz.prog Tryz.f7.params.toList (Tryz.f7.params.toList ++ Rows.merkleSpec.plain.varTypes Tryz.prog ++ Tryz.f7.resultTypes.toList)) = true := by kernel_rfl

end Go.Proofs.YtepgoppgblfjbaaGreatDoor
