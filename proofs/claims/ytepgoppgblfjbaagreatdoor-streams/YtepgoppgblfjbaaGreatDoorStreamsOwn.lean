/-
  Proved: the card of braidlaw.Streams: for every list of steps the call returns true and leaves its argument as it was: to any texts as streams the program answers as the document does. Condition: the package-level variables that the row lists start as the text of the program lays them.
-/
import Derived.Test.YtepgoppgblfjbaaGreatDoorStrProof
import Derived.Test.YtepgoppgblfjbaaGreatDoorCards
import Derived.Test.YtepgoppgblfjbaaGreatDoorTie
import Derived.Test.YtepgoppgblfjbaaGreatDoorStart
import Derived.Test.YtepgoppgblfjbaaGreatDoorStreamsFacts1
import Derived.Test.YtepgoppgblfjbaaGreatDoorStreamsFacts2
import Derived.Test.YtepgoppgblfjbaaGreatDoorStreamsFacts3
namespace Go.Proofs.YtepgoppgblfjbaaGreatDoor
open Go.ChangeShapes Go.WideShapes Go.ChangeAt Go.RowKit Go.Deep

set_option maxRecDepth 100000 in
theorem streams_laid_met (os : Os) : laidMet Tryz.prog Rows.streamsRow.laid ((startW os).forCall (fun _ _ => 0) ⟨#[], #[.slice none 0 0], []⟩).memory :=
  laidMet_of_run' 8 (by kernel_rfl) (by kernel_rfl)

set_option maxRecDepth 100000 in
theorem streams_reads (os : Os) {H : Type} (enc : TypeId × Value → H) : ∃ places, DataW.whole enc Tryz.prog ((startW os).forCall (fun _ _ => 0) ⟨#[], #[.slice none 0 0], []⟩).memory Tryz.f3.params.toList Rows.streamsSpec.vars false (#[.slice none 0 0] : Array Value).toList 8 = some ([.nil], [], places) :=
  ⟨[], by kernel_rfl⟩

set_option maxRecDepth 100000 in
theorem streams_lifted (os : Os) (started : os.Started) (H : Type) (enc : TypeId × Value → H) (F : Stop.Interp) :
    ReturnsInHanded {} Tryz.checked os 3 .any ((OpenSpec.ofChange Rows.streamsSpec).preRow enc Tryz.prog Tryz.f3 Rows.streamsRow.domain false Rows.streamsRow.laid) (((OpenSpec.ofChange Rows.streamsSpec).at F).post enc Tryz.prog Tryz.f3 false true false false) := by
  obtain ⟨places, hx⟩ := streams_reads os enc
  refine returnsInHanded_of_row (C := Tryz.checked) (s := OpenSpec.ofChange Rows.streamsSpec) own started (by kernel_rfl) Tryz.func3
    (witness_row_at (enc := enc) (C := Tryz.checked) false (startW os) #[.slice none 0 0] rfl (by kernel_rfl) (by kernel_rfl) (by kernel_rfl)
      (OpenSpec.preRow_of_cond 8 hx (by kernel_rfl) (fun k hk => by cases hk) (by kernel_rfl) (streams_laid_met os))) ?_
  intro W base args ds gs before hval hW _ hcond hweigh hlaid hsh _
  exact streams_contract H enc W base args ds gs before hval hW hweigh hlaid hsh

theorem streams_both {a b : Bool} (ha : a = true) (hb : b = true) : (a && b) = true := by rw [ha, hb]; rfl

set_option maxRecDepth 100000 in
theorem streams_closed : joinedFacts Tryz.prog 3 Tryz.f3 Rows.streamsSpec Rows.streamsRow = true := by
  unfold joinedFacts
  exact (streams_both (streams_both (streams_both (streams_both (streams_both (streams_both (streams_both (streams_both (streams_both (streams_both (streams_both (streams_both (streams_both (streams_both (streams_both (streams_both (streams_both (streams_both (streams_both (streams_both (streams_both (streams_both (streams_both (streams_both (streams_both (streams_both (streams_both (streams_both (streams_both (streams_both (streams_both streams_k0 streams_k1) streams_k2) streams_k3) streams_k4) streams_k5) streams_k6) streams_k7) streams_k8) streams_k9) streams_k10) streams_k11) streams_k12) streams_k13) streams_k14) streams_k15) streams_k16) streams_k17) streams_k18) streams_k19) streams_k20) streams_k21) streams_k22) streams_k23) streams_k24) streams_k25) streams_k26) streams_k27) streams_k28) streams_k29) streams_k30) streams_k31)

set_option maxRecDepth 100000 in
theorem streams_said : Rows.StreamsSaid :=
  OpenClaim.holds_of_cond 3 Tryz.f3 rfl rfl rfl rfl rfl rfl rfl ⟨rfl, rfl, rfl, rfl, rfl⟩ rfl rfl rfl rfl rfl (by kernel_rfl) Tryz.func3 streams_closed
    (of_decide_eq_true (by kernel_rfl)) (by unfold Func.isWrapper; rw [if_neg (of_decide_eq_false (by kernel_rfl))]; exact ⟨rfl, rfl⟩)
    (fun os started H enc _ F => by rw [OpenClaim.pre_eq_preRow]; exact streams_lifted os started H enc F)

/-- No parameter wants a stand-in; the program's own looks are off. -/
theorem streams_plain (f : FuncId) (fn : Func) (hf : Tryz.pinned.checked.prog.funcNamed Rows.streamsRow.func = some f) (hfn : Tryz.pinned.checked.prog.funcs[f]? = some fn) :
    false = Tryz.pinned.checked.prog.looks [] ∧ ∀ (j : Nat) t, fn.params[j]? = some t → Tryz.pinned.checked.prog.wantsStandIn t = false := by
  obtain rfl : f = 3 := Option.some.inj ((show Tryz.prog.funcNamed Rows.streamsRow.func = some 3 by kernel_rfl).symm.trans hf) |>.symm
  obtain rfl : fn = Tryz.f3 := (Option.some.inj (Tryz.func3.symm.trans hfn)).symm
  refine ⟨by kernel_rfl, fun j t ht => ?_⟩
  rw [Tryz.params3] at ht
  have hm : t = 22 := by simpa using Array.mem_of_getElem? ht
  subst hm
  exact (show Tryz.prog.wantsStandIn 22 = false by kernel_rfl)

/-- The card. -/
theorem streams_card : Rows.StreamsCardSaid :=
  Claim7.holds_tied_plain_at .later [] _ _ _ _ streams_said (fun _ h => by cases h) streams_text (fun _ h => by cases h) streams_row_tie rfl ⟨rfl, rfl⟩ (by kernel_rfl) rfl streams_plain streams_goes
#print axioms streams_card
end Go.Proofs.YtepgoppgblfjbaaGreatDoor
