/- words.IsPath. -/
import Derived.Test.YtepgoppgblfjbaaGreatDoorWords
namespace Go.Proofs.YtepgoppgblfjbaaGreatDoor
open Go.RowKit

theorem take_all_succ' {α : Type} (t : List α) (p : α → Bool) (k : Nat) (h : k < t.length) : (t.take (k + 1)).all p = ((t.take k).all p && p t[k]) := by
  rw [List.take_succ_eq_append_getElem h]; simp only [List.all_append, List.all_cons, List.all_nil, Bool.and_true]

/-- A list of strings in a block of their own. -/
theorem cell_strs (w : World) (L : List (List UInt8)) (t : TypeId) (k : Nat) (hk : k < L.length) :
    (w.alloc (.cells (L.map (fun x => Value.string ⟨x.toArray⟩)).toArray t)).cell? ⟨w.heap.size, k, none⟩ = some (.string ⟨L[k].toArray⟩) := by
  have h : (w.alloc (.cells (L.map (fun x => Value.string ⟨x.toArray⟩)).toArray t)).heap[w.heap.size]? = some (.cells (L.map (fun x => Value.string ⟨x.toArray⟩)).toArray t) := by
    show (w.heap.push _)[w.heap.size]? = _
    simp
  unfold World.cell?
  rw [h]
  simp [hk]

theorem split_len (s : List UInt8) (c : UInt8) : (Lib.split s [c]).length ≤ s.length + 1 := by
  have h1 := Lib.splitB_data ⟨#[c]⟩ 0 (Lib.countB ⟨s.toArray⟩ ⟨#[c]⟩) ⟨s.toArray⟩
  have e1 : Lib.split s [c] = (Lib.splitB ⟨#[c]⟩ 0 (Lib.countB ⟨s.toArray⟩ ⟨#[c]⟩) ⟨s.toArray⟩).map (·.data.toList) := by rw [h1]; rfl
  have h2 := Lib.splitB_length_le ⟨#[c]⟩ 0 (Lib.countB ⟨s.toArray⟩ ⟨#[c]⟩) ⟨s.toArray⟩
  have h3 := Lib.countB_le ⟨#[c]⟩ (by simp [ByteArray.size]) s.length ⟨s.toArray⟩ (by simp [ByteArray.size])
  have e2 : (⟨s.toArray⟩ : ByteArray).size = s.length := by simp [ByteArray.size]
  rw [e1, List.length_map]
  omega

theorem splitK_lens (sep : List UInt8) : ∀ (k : Nat) (s : List UInt8), ∀ x ∈ Lib.splitK sep 0 k s, x.length ≤ s.length := by
  intro k
  induction k with
  | zero => intro s x hx; unfold Lib.splitK at hx; simp at hx; subst hx; exact Nat.le_refl _
  | succ k ih =>
    intro s x hx
    unfold Lib.splitK at hx
    split at hx
    · simp at hx; subst hx; exact Nat.le_refl _
    · simp only [List.mem_cons] at hx
      rcases hx with rfl | hx
      · simp; omega
      · have := ih _ x hx
        simp at this; omega

theorem split_lens (s sep : List UInt8) : ∀ x ∈ Lib.split s sep, x.length ≤ s.length := splitK_lens sep _ s

set_option maxHeartbeats 400000 in
theorem isPath_any (t : List UInt8) (m : Int) (w : World) (ht : t.length ≤ 8000) (hm : w.cell? ⟨1, 0, none⟩ = some (.int .i64 m)) :
    Calls Tryz.prog 187 #[.string ⟨t.toArray⟩] w fun e w' => e = .returned (.bool (Pu.isPath t)) ∧ Kx (fun _ => False) w w' := by
  by_cases h60 : 60 < (t.length : Int)
  · have HE : Hid (Pu.isPath t = false) := by show _ = _; unfold Pu.isPath; rw [decide_eq_false (by omega)]; simp
    go_enter Tryz.func187, Tryz.ntmps187
    go_wp2
    go_ret
    exact ⟨by rw [HE.out]; rfl, Kx.refl _ _⟩
  · have HE : Hid (Pu.isPath t = ((Lib.split t [47]).all Pu.isPart && decide ((Lib.split t [47]).length ≤ 6))) := by show _ = _; unfold Pu.isPath; rw [decide_eq_true (by omega)]; simp
    have hlens := split_lens t [47]
    have hll := split_len t 47
    have hc := cell_strs w (Lib.split t [47]) 9
    have HK := (Kx.refl (fun _ => False) w).alloc (.cells ((Lib.split t [47]).map (fun x => Value.string ⟨x.toArray⟩)).toArray 9)
    have hz : w.heap.size < (w.alloc (.cells ((Lib.split t [47]).map (fun x => Value.string ⟨x.toArray⟩)).toArray 9)).heap.size := by simp
    go_enter Tryz.func187, Tryz.ntmps187
    go_wp2_with fail
    refine (split_any t 47 m _ ht hm).mono ?_
    rintro e w1 ⟨rfl, rfl⟩
    generalize w.alloc (.cells ((Lib.split t [47]).map (fun x => Value.string ⟨x.toArray⟩)).toArray 9) = W at *
    generalize Lib.split t [47] = L at *
    go_wp2
    go_loop [13] (fun i => ∃ k : Nat, k ≤ L.length ∧ i = .int .i64 k ∧ (L.take k).all Pu.isPart = true) (fun i => L.length - (intOf i).toNat)
    case atStart => exact ⟨0, Nat.zero_le _, rfl, rfl⟩
    case round =>
      obtain ⟨k, hk, rfl, ha⟩ := hrel
      have HA : Hid ((L.take k).all Pu.isPart = true) := ha
      clear ha
      by_cases hlt : k < L.length
      · have hsn := take_all_succ' L Pu.isPart k hlt
        have hck := hc k hlt
        have hxl := hlens L[k] (List.getElem_mem hlt)
        cases hx : Pu.isPart L[k]
        · have HF : Hid (L.all Pu.isPart = false) := by
            show _ = _
            rw [List.all_eq_false]; exact ⟨L[k], List.getElem_mem hlt, by simp [hx]⟩
          have HX : Hid (Pu.isPart L[k] = false) := hx
          clear hsn hx hc hlens
          go_wp2_with fail
          refine (isPart_any L[k] _ (by omega)).mono ?_
          rintro e w1 ⟨rfl, rfl⟩
          rw [HX.out]
          go_wp2
          go_ret
          exact ⟨by rw [HE.out, HF.out]; rfl, HK⟩
        · have HS : Hid ((L.take (k + 1)).all Pu.isPart = true) := by
            show _ = _
            rw [hsn, HA.out, hx]; rfl
          have HX : Hid (Pu.isPart L[k] = true) := hx
          clear hsn hx hc hlens
          go_wp2_with fail
          refine (isPart_any L[k] _ (by omega)).mono ?_
          rintro e w1 ⟨rfl, rfl⟩
          rw [HX.out]
          go_wp2
          go_round
          case rel => exact ⟨k + 1, by omega, by go_num, HS.out⟩
          case measure => simp [intOf]; omega
      · have HA2 : Hid (L.all Pu.isPart = true) := by
          show _ = _
          rw [← HA.out, List.take_of_length_le (by omega)]
        clear hc hlens
        go_wp2
        go_ret
        refine ⟨ret_bool ?_, HK⟩
        rw [HE.out, HA2.out, Bool.true_and]
        simp; omega

end Go.Proofs.YtepgoppgblfjbaaGreatDoor
