/-
  Proved: the second form of the card of braidkeep.Strange: for all bytes, lists of lists of acts and numbers that hold together at most 1048576 values and letters the call returns true and leaves its arguments as they were: bytes that no store has told, and those of a store of which one byte was changed, are refused, or a store is opened of them that can be asked, exported and told again. Condition: the package-level variables that the row lists start as the text of the program lays them.
-/
import Derived.Test.YtepgoppgblfjbaaGreatDoorGw35
import Derived.Test.YtepgoppgblfjbaaGreatDoorCards
import Derived.Test.YtepgoppgblfjbaaGreatDoorTie
import Derived.Test.YtepgoppgblfjbaaGreatDoorStrangeFacts1
import Derived.Test.YtepgoppgblfjbaaGreatDoorStrangeFacts2
import Derived.Test.YtepgoppgblfjbaaGreatDoorStrangeFacts3

namespace Go.Proofs.YtepgoppgblfjbaaGreatDoor
open Go.ChangeShapes Go.WideShapes Go.ChangeAt Go.RowKit Go.Deep

set_option maxRecDepth 100000 in
theorem strange_laid_met (os : Os) : laidMet Tryz.prog Rows.strangeUptoRow.laid ((startW os).forCall (fun _ _ => 0) ⟨#[], #[.string ⟨#[]⟩, .slice none 0 0, .int .i64 0, .int .i64 0], []⟩).memory :=
  laidMet_of_run' 8 (by kernel_rfl) (by kernel_rfl)

set_option maxRecDepth 100000 in
theorem strange_reads (os : Os) {H : Type} (enc : TypeId × Value → H) : ∃ places, DataW.whole enc Tryz.prog ((startW os).forCall (fun _ _ => 0) ⟨#[], #[.string ⟨#[]⟩, .slice none 0 0, .int .i64 0, .int .i64 0], []⟩).memory Tryz.f11.params.toList Rows.strangeSpec.vars false (#[.string ⟨#[]⟩, .slice none 0 0, .int .i64 0, .int .i64 0] : Array Value).toList 8 = some ([.lit (.string []), .nil, .lit (.int .i64 0), .lit (.int .i64 0)], [], places) :=
  ⟨[], by kernel_rfl⟩

set_option maxRecDepth 100000 in
theorem strange_lifted (os : Os) (started : os.Started) (H : Type) (enc : TypeId × Value → H) (F : Stop.Interp) :
    ReturnsInHanded {} Tryz.checked os 11 .any ((Rows.OpenSpec.upto Rows.strangeSpec).preRow enc Tryz.prog Tryz.f11 Rows.strangeUptoRow.domain false Rows.strangeUptoRow.laid) (((Rows.OpenSpec.upto Rows.strangeSpec).at F).post enc Tryz.prog Tryz.f11 false true false false) := by
  obtain ⟨places, hx⟩ := strange_reads os enc
  refine returnsInHanded_of_row (C := Tryz.checked) (s := Rows.OpenSpec.upto Rows.strangeSpec) own started (by kernel_rfl) Tryz.func11
    (witness_row_at (enc := enc) (C := Tryz.checked) false (startW os) #[.string ⟨#[]⟩, .slice none 0 0, .int .i64 0, .int .i64 0] rfl (by kernel_rfl) (by kernel_rfl) (by kernel_rfl)
      (OpenSpec.preRow_of_cond 8 hx (by kernel_rfl) (fun k hk => by cases hk; kernel_rfl) (by kernel_rfl) (strange_laid_met os))) ?_
  intro W base args ds gs before hval hW _ hcond hweigh hlaid hsh _
  exact strange_contract H enc W base args ds gs before hval hW (hcond _ rfl) hlaid hsh

theorem strange_both {a b : Bool} (ha : a = true) (hb : b = true) : (a && b) = true := by rw [ha, hb]; rfl

set_option maxRecDepth 100000 in
theorem strange_closed : joinedFacts Tryz.prog 11 Tryz.f11 Rows.strangeSpec Rows.strangeUptoRow = true := by
  unfold joinedFacts
  exact (strange_both (strange_both (strange_both (strange_both (strange_both (strange_both (strange_both (strange_both (strange_both (strange_both (strange_both (strange_both (strange_both (strange_both (strange_both (strange_both (strange_both (strange_both (strange_both (strange_both (strange_both (strange_both (strange_both (strange_both (strange_both (strange_both (strange_both (strange_both (strange_both (strange_both (strange_both strange_k0 strange_k1) strange_k2) strange_k3) strange_k4) strange_k5) strange_k6) strange_k7) strange_k8) strange_k9) strange_k10) strange_k11) strange_k12) strange_k13) strange_k14) strange_k15) strange_k16) strange_k17) strange_k18) strange_k19) strange_k20) strange_k21) strange_k22) strange_k23) strange_k24) strange_k25) strange_k26) strange_k27) strange_k28) strange_k29) strange_k30) strange_k31)

set_option maxRecDepth 100000 in
theorem strange_said : Rows.StrangeUptoSaid :=
  OpenClaim.holds_of_cond 11 Tryz.f11 rfl rfl rfl rfl rfl rfl rfl ⟨rfl, rfl, rfl, rfl, rfl⟩ rfl rfl rfl rfl rfl (by kernel_rfl) Tryz.func11 strange_closed
    (of_decide_eq_true (by kernel_rfl)) (by unfold Func.isWrapper; rw [if_neg (of_decide_eq_false (by kernel_rfl))]; exact ⟨rfl, rfl⟩)
    (fun os started H enc _ F => by rw [OpenClaim.pre_eq_preRow]; exact strange_lifted os started H enc F)

theorem strange_plain (f : FuncId) (fn : Func) (hf : Tryz.pinned.checked.prog.funcNamed Rows.strangeUptoRow.func = some f) (hfn : Tryz.pinned.checked.prog.funcs[f]? = some fn) :
    false = Tryz.pinned.checked.prog.looks [] ∧ ∀ (j : Nat) t, fn.params[j]? = some t → Tryz.pinned.checked.prog.wantsStandIn t = false := by
  obtain rfl : f = 11 := Option.some.inj ((show Tryz.prog.funcNamed Rows.strangeUptoRow.func = some 11 by kernel_rfl).symm.trans hf) |>.symm
  obtain rfl : fn = Tryz.f11 := (Option.some.inj (Tryz.func11.symm.trans hfn)).symm
  refine ⟨by kernel_rfl, fun j t ht => ?_⟩
  rw [Tryz.params11] at ht
  have hm : t = 9 ∨ t = 52 ∨ t = 3 := by simpa using Array.mem_of_getElem? ht
  rcases hm with rfl | rfl | rfl
  · exact (show Tryz.prog.wantsStandIn 9 = false by kernel_rfl)
  · exact (show Tryz.prog.wantsStandIn 52 = false by kernel_rfl)
  · exact (show Tryz.prog.wantsStandIn 3 = false by kernel_rfl)

theorem strange_card : Rows.StrangeUptoCardSaid :=
  Claim7.holds_tied_plain_at .later [] _ _ _ _ strange_said (fun _ h => by cases h) strange_text (fun _ h => by cases h) strangeUpto_row_tie rfl ⟨rfl, rfl⟩ (by kernel_rfl) rfl strange_plain strange_goes
#print axioms strange_card
end Go.Proofs.YtepgoppgblfjbaaGreatDoor
