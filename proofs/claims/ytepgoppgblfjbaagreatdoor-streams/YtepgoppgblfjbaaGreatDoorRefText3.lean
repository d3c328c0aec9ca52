/- The document's reader: isPath, split. -/
import Derived.Test.YtepgoppgblfjbaaGreatDoorRefText2
import Derived.Test.YtepgoppgblfjbaaGreatDoorRefPure2
import Derived.Test.YtepgoppgblfjbaaGreatDoorChange
import Derived.Deep.QuietTactic
import Derived.BigQuiet
namespace Go.Proofs.YtepgoppgblfjbaaGreatDoor
open Go.RowKit
namespace Rf

theorem isPart_eq (t : List UInt8) : Pu.isPart t = (Pu.ofR t 12 true [46, 45, 95] && !(t == [46]) && !(t == [46, 46])) := by
  unfold Pu.isPart; rw [Pu.ofR_eq Pu.cls_part t 12]; rfl

set_option maxHeartbeats 1000000 in
theorem isPath_any (t : List UInt8) (w : World) (ht : t.length ≤ 8000) :
    Calls Tryz.prog 208 #[.string ⟨t.toArray⟩] w fun e w' => e = .returned (.bool (Pu.isPath t)) ∧ ∀ X, Kx X w w' := by
  have hlens := split_lens t [47]
  have hll := split_len t 47
  have HE : Hid (Pu.isPath t = (decide (t.length ≤ 60) && (Lib.split t [47]).all Pu.isPart && decide ((Lib.split t [47]).length ≤ 6))) := rfl
  obtain ⟨f0, r0, hsp⟩ := split_pos t 47
  have hpos : 0 < (Lib.split t [47]).length := by rw [hsp]; simp
  clear hsp
  go_enter Tryz.func208, Tryz.ntmps208
  go_wp2_with fail
  refine (parts_any t _ ht).mono ?_
  rintro e W ⟨v, rfl, hL⟩
  have hk := hL.2
  obtain ⟨g, cap, rfl, hg, hcell⟩ := hL.slice hpos
  clear hL
  generalize Lib.split t [47] = L at *
  go_wp2
  go_loop [4] (fun i => ∃ k : Nat, k ≤ L.length ∧ i = .int .i64 k ∧ (L.take k).all Pu.isPart = true) (fun i => L.length - (intOf i).toNat)
  case atStart => exact ⟨0, Nat.zero_le _, rfl, rfl⟩
  case round =>
    obtain ⟨k, hkl, rfl, ha⟩ := hrel
    have HA : Hid ((L.take k).all Pu.isPart = true) := ha
    clear ha
    by_cases hlt : k < L.length
    · have hsn := take_all_succ L Pu.isPart k hlt
      rw [HA.out, Bool.true_and] at hsn
      have HSN : Hid ((L.take (k + 1)).all Pu.isPart = Pu.isPart L[k]) := hsn
      clear hsn
      have hck := hcell k hlt
      have hxl := hlens L[k] (List.getElem_mem hlt)
      have HP : Hid (Pu.isPart L[k] = (Pu.ofR L[k] 12 true [46, 45, 95] && !(L[k] == [46]) && !(L[k] == [46, 46]))) := isPart_eq _
      have HF : Hid (Pu.isPart L[k] = false → L.all Pu.isPart = false) := by
        intro hx
        rw [List.all_eq_false]; exact ⟨L[k], List.getElem_mem hlt, by simp [hx]⟩
      clear hcell hlens
      generalize L[k] = x at *
      go_wp2_with fail
      refine (of_any x 12 true [46, 45, 95] _ (by omega) (by decide)).mono ?_
      rintro e w1 ⟨rfl, rfl⟩
      generalize Pu.ofR x 12 true [46, 45, 95] = o at *
      have fin : ∀ hx : Pu.isPart x = false, Pu.isPath t = false := by
        intro hx; rw [HE.out, HF.out hx]; simp
      have HFin : Hid (Pu.isPart x = false → Pu.isPath t = false) := fin
      clear fin
      cases o
      · have HX : Hid (Pu.isPath t = false) := HFin.out (by rw [HP.out]; rfl)
        go_wp2
        go_ret
        exact ⟨by rw [HX.out]; rfl, hk⟩
      · by_cases d1 : x = [46]
        · subst d1
          have HX : Hid (Pu.isPath t = false) := HFin.out (by rw [HP.out]; rfl)
          go_wp2
          go_ret
          exact ⟨by rw [HX.out]; rfl, hk⟩
        · by_cases d2 : x = [46, 46]
          · subst d2
            have HX : Hid (Pu.isPath t = false) := HFin.out (by rw [HP.out]; rfl)
            go_wp2
            go_ret
            exact ⟨by rw [HX.out]; rfl, hk⟩
          · have b1 : (x == [46]) = false := by simpa using d1
            have b2 : (x == [46, 46]) = false := by simpa using d2
            have HX : Hid (Pu.isPart x = true) := by show _ = _; rw [HP.out, b1, b2]; rfl
            clear d1 d2
            go_wp2
            go_round
            case rel => exact ⟨k + 1, by omega, by go_num, by rw [HSN.out, HX.out]⟩
            case measure => simp [intOf]; omega
    · have HA2 : Hid (L.all Pu.isPart = true) := by show _ = _; rw [← HA.out, List.take_of_length_le (by omega)]
      have HE2 : Hid (Pu.isPath t = (decide (t.length ≤ 60) && decide (L.length ≤ 6))) := by show _ = _; rw [HE.out, HA2.out]; simp
      clear hcell hlens HE
      by_cases h60 : (t.length : Int) ≤ 60
      · go_wp2
        go_ret
        refine ⟨ret_bool ?_, hk⟩
        rw [HE2.out, decide_eq_true (by omega : t.length ≤ 60), Bool.true_and]
        simp; omega
      · have h61 : decide ((t.length : Int) ≤ 60) = false := by simpa using h60
        go_wp2
        go_ret
        refine ⟨ret_bool ?_, hk⟩
        rw [HE2.out, decide_eq_false (by omega : ¬ t.length ≤ 60), Bool.false_and]

end Rf
end Go.Proofs.YtepgoppgblfjbaaGreatDoor
