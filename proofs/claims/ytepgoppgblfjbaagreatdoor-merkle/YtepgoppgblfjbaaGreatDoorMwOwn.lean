/-
  Proved: the card of braidkeep.Merkle: for every two lists of numbers the call returns true and leaves its arguments as they were: up to seven files that one import puts, and the same files put one by one, in any order that the second list picks, end in the same tree. Condition: the package-level variables that the row lists start as the text of the program lays them.
-/
import Derived.Test.YtepgoppgblfjbaaGreatDoorMw30
import Derived.Test.YtepgoppgblfjbaaGreatDoorCards
import Derived.Test.YtepgoppgblfjbaaGreatDoorTie
import Derived.Test.YtepgoppgblfjbaaGreatDoorMerkleFacts1
import Derived.Test.YtepgoppgblfjbaaGreatDoorMerkleFacts2
import Derived.Test.YtepgoppgblfjbaaGreatDoorMerkleFacts3
namespace Go.Proofs.YtepgoppgblfjbaaGreatDoor
open Go.ChangeShapes Go.WideShapes Go.ChangeAt Go.RowKit Go.Deep

set_option maxRecDepth 100000 in
theorem merkle_laid_met (os : Os) : laidMet Tryz.prog Rows.merkleRow.laid ((startW os).forCall (fun _ _ => 0) ⟨#[], #[.slice none 0 0, .slice none 0 0], []⟩).memory :=
  laidMet_of_run' 8 (by kernel_rfl) (by kernel_rfl)

set_option maxRecDepth 100000 in
theorem merkle_reads (os : Os) {H : Type} (enc : TypeId × Value → H) : ∃ places, DataW.whole enc Tryz.prog ((startW os).forCall (fun _ _ => 0) ⟨#[], #[.slice none 0 0, .slice none 0 0], []⟩).memory Tryz.f7.params.toList Rows.merkleSpec.vars false (#[.slice none 0 0, .slice none 0 0] : Array Value).toList 8 = some ([.nil, .nil], [], places) :=
  ⟨[], by kernel_rfl⟩

set_option maxRecDepth 100000 in
theorem merkle_lifted (os : Os) (started : os.Started) (H : Type) (enc : TypeId × Value → H) (F : Stop.Interp) :
    ReturnsInHanded {} Tryz.checked os 7 .any ((OpenSpec.ofChange Rows.merkleSpec).preRow enc Tryz.prog Tryz.f7 Rows.merkleRow.domain false Rows.merkleRow.laid) (((OpenSpec.ofChange Rows.merkleSpec).at F).post enc Tryz.prog Tryz.f7 false true false false) := by
  obtain ⟨places, hx⟩ := merkle_reads os enc
  refine returnsInHanded_of_row (C := Tryz.checked) (s := OpenSpec.ofChange Rows.merkleSpec) own started (by kernel_rfl) Tryz.func7
    (witness_row_at (enc := enc) (C := Tryz.checked) false (startW os) #[.slice none 0 0, .slice none 0 0] rfl (by kernel_rfl) (by kernel_rfl) (by kernel_rfl)
      (OpenSpec.preRow_of_cond 8 hx (by kernel_rfl) (fun k hk => by cases hk) (by kernel_rfl) (merkle_laid_met os))) ?_
  intro W base args ds gs before hval hW _ hcond hweigh hlaid hsh _
  exact merkle_contract H enc W base args ds gs before hval hW hweigh hlaid hsh

theorem merkle_both {a b : Bool} (ha : a = true) (hb : b = true) : (a && b) = true := by rw [ha, hb]; rfl

set_option maxRecDepth 100000 in
theorem merkle_closed : joinedFacts Tryz.prog 7 Tryz.f7 Rows.merkleSpec Rows.merkleRow = true := by
  unfold joinedFacts
  exact (merkle_both (merkle_both (merkle_both (merkle_both (merkle_both (merkle_both (merkle_both (merkle_both (merkle_both (merkle_both (merkle_both (merkle_both (merkle_both (merkle_both (merkle_both (merkle_both (merkle_both (merkle_both (merkle_both (merkle_both (merkle_both (merkle_both (merkle_both (merkle_both (merkle_both (merkle_both (merkle_both (merkle_both (merkle_both (merkle_both (merkle_both merkle_k0 merkle_k1) merkle_k2) merkle_k3) merkle_k4) merkle_k5) merkle_k6) merkle_k7) merkle_k8) merkle_k9) merkle_k10) merkle_k11) merkle_k12) merkle_k13) merkle_k14) merkle_k15) merkle_k16) merkle_k17) merkle_k18) merkle_k19) merkle_k20) merkle_k21) merkle_k22) merkle_k23) merkle_k24) merkle_k25) merkle_k26) merkle_k27) merkle_k28) merkle_k29) merkle_k30) merkle_k31)

set_option maxRecDepth 100000 in
theorem merkle_said : Rows.MerkleSaid :=
  OpenClaim.holds_of_cond 7 Tryz.f7 rfl rfl rfl rfl rfl rfl rfl ⟨rfl, rfl, rfl, rfl, rfl⟩ rfl rfl rfl rfl rfl (by kernel_rfl) Tryz.func7 merkle_closed
    (of_decide_eq_true (by kernel_rfl)) (by unfold Func.isWrapper; rw [if_neg (of_decide_eq_false (by kernel_rfl))]; exact ⟨rfl, rfl⟩)
    (fun os started H enc _ F => by rw [OpenClaim.pre_eq_preRow]; exact merkle_lifted os started H enc F)

/-- No parameter wants a stand-in; the program's own looks are off. -/
theorem merkle_plain (f : FuncId) (fn : Func) (hf : Tryz.pinned.checked.prog.funcNamed Rows.merkleRow.func = some f) (hfn : Tryz.pinned.checked.prog.funcs[f]? = some fn) :
    false = Tryz.pinned.checked.prog.looks [] ∧ ∀ (j : Nat) t, fn.params[j]? = some t → Tryz.pinned.checked.prog.wantsStandIn t = false := by
  obtain rfl : f = 7 := Option.some.inj ((show Tryz.prog.funcNamed Rows.merkleRow.func = some 7 by kernel_rfl).symm.trans hf) |>.symm
  obtain rfl : fn = Tryz.f7 := (Option.some.inj (Tryz.func7.symm.trans hfn)).symm
  refine ⟨by kernel_rfl, fun j t ht => ?_⟩
  rw [Tryz.params7] at ht
  have hm : t = 49 := by simpa using Array.mem_of_getElem? ht
  subst hm
  exact (show Tryz.prog.wantsStandIn 49 = false by kernel_rfl)

/-- The card. -/
theorem merkle_card : Rows.MerkleCardSaid :=
  Claim7.holds_tied_plain_at .later [] _ _ _ _ merkle_said (fun _ h => by cases h) merkle_text (fun _ h => by cases h) merkle_row_tie rfl ⟨rfl, rfl⟩ (by kernel_rfl) rfl merkle_plain merkle_goes
#print axioms merkle_card
end Go.Proofs.YtepgoppgblfjbaaGreatDoor
