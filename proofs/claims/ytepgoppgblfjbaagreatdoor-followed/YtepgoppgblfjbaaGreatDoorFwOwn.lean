/-
  Proved: the card of braidkeep.Followed: for every list of acts the call returns true and leaves its argument as it was: behind each of up to 20 imports, each of which puts or deletes one path, Files of what main names lists the paths that putting and deleting leave, and no other. Condition: the package-level variables that the row lists start as the text of the program lays them.
-/
import Derived.Test.YtepgoppgblfjbaaGreatDoorFw28
import Derived.Test.YtepgoppgblfjbaaGreatDoorCards
import Derived.Test.YtepgoppgblfjbaaGreatDoorTie
import Derived.Test.YtepgoppgblfjbaaGreatDoorFollowedFacts1
import Derived.Test.YtepgoppgblfjbaaGreatDoorFollowedFacts2
import Derived.Test.YtepgoppgblfjbaaGreatDoorFollowedFacts3
namespace Go.Proofs.YtepgoppgblfjbaaGreatDoor
open Go.ChangeShapes Go.WideShapes Go.ChangeAt Go.RowKit Go.Deep

set_option maxRecDepth 100000 in
theorem followed_laid_met (os : Os) : laidMet Tryz.prog Rows.followedRow.laid ((startW os).forCall (fun _ _ => 0) ⟨#[], #[.slice none 0 0], []⟩).memory :=
  laidMet_of_run' 8 (by kernel_rfl) (by kernel_rfl)

set_option maxRecDepth 100000 in
theorem followed_reads (os : Os) {H : Type} (enc : TypeId × Value → H) : ∃ places, DataW.whole enc Tryz.prog ((startW os).forCall (fun _ _ => 0) ⟨#[], #[.slice none 0 0], []⟩).memory Tryz.f6.params.toList Rows.followedSpec.vars false (#[.slice none 0 0] : Array Value).toList 8 = some ([.nil], [], places) :=
  ⟨[], by kernel_rfl⟩

set_option maxRecDepth 100000 in
theorem followed_lifted (os : Os) (started : os.Started) (H : Type) (enc : TypeId × Value → H) (F : Stop.Interp) :
    ReturnsInHanded {} Tryz.checked os 6 .any ((OpenSpec.ofChange Rows.followedSpec).preRow enc Tryz.prog Tryz.f6 Rows.followedRow.domain false Rows.followedRow.laid) (((OpenSpec.ofChange Rows.followedSpec).at F).post enc Tryz.prog Tryz.f6 false true false false) := by
  obtain ⟨places, hx⟩ := followed_reads os enc
  refine returnsInHanded_of_row (C := Tryz.checked) (s := OpenSpec.ofChange Rows.followedSpec) own started (by kernel_rfl) Tryz.func6
    (witness_row_at (enc := enc) (C := Tryz.checked) false (startW os) #[.slice none 0 0] rfl (by kernel_rfl) (by kernel_rfl) (by kernel_rfl)
      (OpenSpec.preRow_of_cond 8 hx (by kernel_rfl) (fun k hk => by cases hk) (by kernel_rfl) (followed_laid_met os))) ?_
  intro W base args ds gs before hval hW _ hcond hweigh hlaid hsh _
  exact followed_contract H enc W base args ds gs before hval hW hweigh hlaid hsh

theorem followed_both {a b : Bool} (ha : a = true) (hb : b = true) : (a && b) = true := by rw [ha, hb]; rfl

set_option maxRecDepth 100000 in
theorem followed_closed : joinedFacts Tryz.prog 6 Tryz.f6 Rows.followedSpec Rows.followedRow = true := by
  unfold joinedFacts
  exact (followed_both (followed_both (followed_both (followed_both (followed_both (followed_both (followed_both (followed_both (followed_both (followed_both (followed_both (followed_both (followed_both (followed_both (followed_both (followed_both (followed_both (followed_both (followed_both (followed_both (followed_both (followed_both (followed_both (followed_both (followed_both (followed_both (followed_both (followed_both (followed_both (followed_both (followed_both followed_k0 followed_k1) followed_k2) followed_k3) followed_k4) followed_k5) followed_k6) followed_k7) followed_k8) followed_k9) followed_k10) followed_k11) followed_k12) followed_k13) followed_k14) followed_k15) followed_k16) followed_k17) followed_k18) followed_k19) followed_k20) followed_k21) followed_k22) followed_k23) followed_k24) followed_k25) followed_k26) followed_k27) followed_k28) followed_k29) followed_k30) followed_k31)

set_option maxRecDepth 100000 in
theorem followed_said : Rows.FollowedSaid :=
  OpenClaim.holds_of_cond 6 Tryz.f6 rfl rfl rfl rfl rfl rfl rfl ⟨rfl, rfl, rfl, rfl, rfl⟩ rfl rfl rfl rfl rfl (by kernel_rfl) Tryz.func6 followed_closed
    (of_decide_eq_true (by kernel_rfl)) (by unfold Func.isWrapper; rw [if_neg (of_decide_eq_false (by kernel_rfl))]; exact ⟨rfl, rfl⟩)
    (fun os started H enc _ F => by rw [OpenClaim.pre_eq_preRow]; exact followed_lifted os started H enc F)

/-- No parameter wants a stand-in; the program's own looks are off. -/
theorem followed_plain (f : FuncId) (fn : Func) (hf : Tryz.pinned.checked.prog.funcNamed Rows.followedRow.func = some f) (hfn : Tryz.pinned.checked.prog.funcs[f]? = some fn) :
    false = Tryz.pinned.checked.prog.looks [] ∧ ∀ (j : Nat) t, fn.params[j]? = some t → Tryz.pinned.checked.prog.wantsStandIn t = false := by
  obtain rfl : f = 6 := Option.some.inj ((show Tryz.prog.funcNamed Rows.followedRow.func = some 6 by kernel_rfl).symm.trans hf) |>.symm
  obtain rfl : fn = Tryz.f6 := (Option.some.inj (Tryz.func6.symm.trans hfn)).symm
  refine ⟨by kernel_rfl, fun j t ht => ?_⟩
  rw [Tryz.params6] at ht
  have hm : t = 25 := by simpa using Array.mem_of_getElem? ht
  subst hm
  exact (show Tryz.prog.wantsStandIn 25 = false by kernel_rfl)

/-- The card. -/
theorem followed_card : Rows.FollowedCardSaid :=
  Claim7.holds_tied_plain_at .later [] _ _ _ _ followed_said (fun _ h => by cases h) followed_text (fun _ h => by cases h) followed_row_tie rfl ⟨rfl, rfl⟩ (by kernel_rfl) rfl followed_plain followed_goes
#print axioms followed_card
end Go.Proofs.YtepgoppgblfjbaaGreatDoor
