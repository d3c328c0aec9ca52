/-
  Proved: the card of braidkeep.Torn: for every list of lists of acts and every cut the call returns true and leaves its arguments as they were: of the bytes of a store, however many are left, a store is opened that shows what the other one showed when its bytes were no longer, and that goes on from there as the other one did. Condition: the package-level variables that the row lists start as the text of the program lays them.
-/
import Derived.Test.YtepgoppgblfjbaaGreatDoorTw33
import Derived.Test.YtepgoppgblfjbaaGreatDoorCards
import Derived.Test.YtepgoppgblfjbaaGreatDoorTie
import Derived.Test.YtepgoppgblfjbaaGreatDoorTornFacts1
import Derived.Test.YtepgoppgblfjbaaGreatDoorTornFacts2
import Derived.Test.YtepgoppgblfjbaaGreatDoorTornFacts3
namespace Go.Proofs.YtepgoppgblfjbaaGreatDoor
open Go.ChangeShapes Go.WideShapes Go.ChangeAt Go.RowKit Go.Deep

set_option maxRecDepth 100000 in
theorem torn_laid_met (os : Os) : laidMet Tryz.prog Rows.tornRow.laid ((startW os).forCall (fun _ _ => 0) ⟨#[], #[.slice none 0 0, .int .i64 0], []⟩).memory :=
  laidMet_of_run' 8 (by kernel_rfl) (by kernel_rfl)

set_option maxRecDepth 100000 in
theorem torn_reads (os : Os) {H : Type} (enc : TypeId × Value → H) : ∃ places, DataW.whole enc Tryz.prog ((startW os).forCall (fun _ _ => 0) ⟨#[], #[.slice none 0 0, .int .i64 0], []⟩).memory Tryz.f10.params.toList Rows.tornSpec.vars false (#[.slice none 0 0, .int .i64 0] : Array Value).toList 8 = some ([.nil, .lit (.int .i64 0)], [], places) :=
  ⟨[], by kernel_rfl⟩

set_option maxRecDepth 100000 in
theorem torn_lifted (os : Os) (started : os.Started) (H : Type) (enc : TypeId × Value → H) (F : Stop.Interp) :
    ReturnsInHanded {} Tryz.checked os 10 .any ((OpenSpec.ofChange Rows.tornSpec).preRow enc Tryz.prog Tryz.f10 Rows.tornRow.domain false Rows.tornRow.laid) (((OpenSpec.ofChange Rows.tornSpec).at F).post enc Tryz.prog Tryz.f10 false true false false) := by
  obtain ⟨places, hx⟩ := torn_reads os enc
  refine returnsInHanded_of_row (C := Tryz.checked) (s := OpenSpec.ofChange Rows.tornSpec) own started (by kernel_rfl) Tryz.func10
    (witness_row_at (enc := enc) (C := Tryz.checked) false (startW os) #[.slice none 0 0, .int .i64 0] rfl (by kernel_rfl) (by kernel_rfl) (by kernel_rfl)
      (OpenSpec.preRow_of_cond 8 hx (by kernel_rfl) (fun k hk => by cases hk) (by kernel_rfl) (torn_laid_met os))) ?_
  intro W base args ds gs before hval hW _ hcond hweigh hlaid hsh _
  exact torn_contract H enc W base args ds gs before hval hW hweigh hlaid hsh

theorem torn_both {a b : Bool} (ha : a = true) (hb : b = true) : (a && b) = true := by rw [ha, hb]; rfl

set_option maxRecDepth 100000 in
theorem torn_closed : joinedFacts Tryz.prog 10 Tryz.f10 Rows.tornSpec Rows.tornRow = true := by
  unfold joinedFacts
  exact (torn_both (torn_both (torn_both (torn_both (torn_both (torn_both (torn_both (torn_both (torn_both (torn_both (torn_both (torn_both (torn_both (torn_both (torn_both (torn_both (torn_both (torn_both (torn_both (torn_both (torn_both (torn_both (torn_both (torn_both (torn_both (torn_both (torn_both (torn_both (torn_both (torn_both (torn_both torn_k0 torn_k1) torn_k2) torn_k3) torn_k4) torn_k5) torn_k6) torn_k7) torn_k8) torn_k9) torn_k10) torn_k11) torn_k12) torn_k13) torn_k14) torn_k15) torn_k16) torn_k17) torn_k18) torn_k19) torn_k20) torn_k21) torn_k22) torn_k23) torn_k24) torn_k25) torn_k26) torn_k27) torn_k28) torn_k29) torn_k30) torn_k31)

set_option maxRecDepth 100000 in
theorem torn_said : Rows.TornSaid :=
  OpenClaim.holds_of_cond 10 Tryz.f10 rfl rfl rfl rfl rfl rfl rfl ⟨rfl, rfl, rfl, rfl, rfl⟩ rfl rfl rfl rfl rfl (by kernel_rfl) Tryz.func10 torn_closed
    (of_decide_eq_true (by kernel_rfl)) (by unfold Func.isWrapper; rw [if_neg (of_decide_eq_false (by kernel_rfl))]; exact ⟨rfl, rfl⟩)
    (fun os started H enc _ F => by rw [OpenClaim.pre_eq_preRow]; exact torn_lifted os started H enc F)

/-- No parameter wants a stand-in; the program's own looks are off. -/
theorem torn_plain (f : FuncId) (fn : Func) (hf : Tryz.pinned.checked.prog.funcNamed Rows.tornRow.func = some f) (hfn : Tryz.pinned.checked.prog.funcs[f]? = some fn) :
    false = Tryz.pinned.checked.prog.looks [] ∧ ∀ (j : Nat) t, fn.params[j]? = some t → Tryz.pinned.checked.prog.wantsStandIn t = false := by
  obtain rfl : f = 10 := Option.some.inj ((show Tryz.prog.funcNamed Rows.tornRow.func = some 10 by kernel_rfl).symm.trans hf) |>.symm
  obtain rfl : fn = Tryz.f10 := (Option.some.inj (Tryz.func10.symm.trans hfn)).symm
  refine ⟨by kernel_rfl, fun j t ht => ?_⟩
  rw [Tryz.params10] at ht
  have hm : t = 52 ∨ t = 3 := by simpa using Array.mem_of_getElem? ht
  rcases hm with rfl | rfl
  · exact (show Tryz.prog.wantsStandIn 52 = false by kernel_rfl)
  · exact (show Tryz.prog.wantsStandIn 3 = false by kernel_rfl)

/-- The card. -/
theorem torn_card : Rows.TornCardSaid :=
  Claim7.holds_tied_plain_at .later [] _ _ _ _ torn_said (fun _ h => by cases h) torn_text (fun _ h => by cases h) torn_row_tie rfl ⟨rfl, rfl⟩ (by kernel_rfl) rfl torn_plain torn_goes
#print axioms torn_card
end Go.Proofs.YtepgoppgblfjbaaGreatDoor
