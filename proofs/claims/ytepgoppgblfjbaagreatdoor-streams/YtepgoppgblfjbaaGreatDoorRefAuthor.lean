/- The document's reader: split (an author's line). -/
import Derived.Test.YtepgoppgblfjbaaGreatDoorRefText3
namespace Go.Proofs.YtepgoppgblfjbaaGreatDoor
open Go.RowKit
namespace Rf

theorem no_step (t : List UInt8) (c : UInt8) (k : Nat) (hk : k < t.length) (hc : t[k] ≠ c) (hno : ¬ c ∈ t.take k) : ¬ c ∈ t.take (k + 1) := by
  rw [List.take_succ_eq_append_getElem hk]
  intro h
  rcases List.mem_append.1 h with h | h
  · exact hno h
  · exact hc (List.mem_singleton.1 h).symm

theorem cut_here (t : List UInt8) (c : UInt8) (k : Nat) (hk : k < t.length) (hc : t[k] = c) (hno : ¬ c ∈ t.take k) : Lib.cut t [c] = (t.take k, t.drop (k + 1), true) := by
  have h : t = t.take k ++ c :: t.drop (k + 1) := by
    rw [← hc, ← List.drop_eq_getElem_cons hk, List.take_append_drop]
  conv => lhs; rw [h]
  exact Pu.cut_at hno

theorem cut_nowhere (t : List UInt8) (c : UInt8) (hno : ¬ c ∈ t) : (Lib.cut t [c]).2.2 = false := by
  cases h : (Lib.cut t [c]).2.2 with
  | false => rfl
  | true => exact absurd (Pu.cut_found.1 h) hno

/-- What the two places say of the line. -/
theorem ref_at (t : List UInt8) (i k : Nat) (hi : i < t.length) (h60 : t[i] = 60) (hno : ¬ 60 ∈ t.take i) (hik : i < k) (hk : k < t.length) (h62 : t[k] = 62) (hno2 : ¬ 62 ∈ (t.drop (i + 1)).take (k - (i + 1))) :
    Pu.refAuthor t = (((t.take i).getLast? == some 32) && ((t.drop (k + 1)).head? == some 32) && Pu.isName (t.take (i - 1)) && Pu.isMail ((t.drop (i + 1)).take (k - (i + 1))) && decide (0 ≤ Pu.n10 (t.drop (k + 2)) 9999999999)) := by
  have c1 := cut_here t 60 i hi h60 hno
  have hk2 : k - (i + 1) < (t.drop (i + 1)).length := by simp; omega
  have h62' : (t.drop (i + 1))[k - (i + 1)] = 62 := by
    rw [List.getElem_drop]
    have : i + 1 + (k - (i + 1)) = k := by omega
    simp only [this]; exact h62
  have c2 := cut_here (t.drop (i + 1)) 62 (k - (i + 1)) hk2 h62' hno2
  have e3 : (t.drop (i + 1)).drop (k - (i + 1) + 1) = t.drop (k + 1) := by rw [List.drop_drop]; congr 1; omega
  rw [e3] at c2
  unfold Pu.refAuthor
  rw [c1]
  simp only
  rw [c2]
  simp only
  have e4 : (t.take i).dropLast = t.take (i - 1) := by rw [List.dropLast_take hi]
  have e5 : (t.drop (k + 1)).drop 1 = t.drop (k + 2) := by rw [List.drop_drop]
  rw [e4, e5]
  simp

/-- What split gives is an author just where the line is one. -/
def SplitOk (t : List UInt8) (nm ml : List UInt8) (tm : Int) : Prop :=
  nm.length ≤ 8000 ∧ ml.length ≤ 8000 ∧ (Pu.isName nm && Pu.isMail ml && decide (0 ≤ tm)) = Pu.refAuthor t

theorem split_bad (t : List UInt8) (h : Pu.refAuthor t = false) : SplitOk t [] [] (-1) := ⟨by simp, by simp, by rw [h]; simp⟩

set_option maxHeartbeats 2000000 in
set_option maxRecDepth 100000 in
theorem split_any (t : List UInt8) (w : World) (ht : t.length ≤ 8000) :
    Calls Tryz.prog 286 #[.string ⟨t.toArray⟩] w fun e w' => (∃ nm ml tm, e = .returned (.tuple #[.string ⟨nm.toArray⟩, .string ⟨ml.toArray⟩, .int .i64 tm]) ∧ SplitOk t nm ml tm) ∧ ∃ q, w' = w.drewN q := by
  have hext := ext_mid t
  go_enter Tryz.func286, Tryz.ntmps286
  go_wp2
  go_loop [5] (fun iv => ∃ i : Nat, i ≤ t.length ∧ iv = .int .i64 i ∧ ¬ 60 ∈ t.take i) (fun iv => t.length - (intOf iv).toNat)
  case atStart => exact ⟨0, Nat.zero_le _, rfl, by simp⟩
  case round =>
    obtain ⟨i, hi, rfl, hno⟩ := hrel
    have HNO : Hid (¬ 60 ∈ t.take i) := hno
    clear hno
    by_cases hlt : i < t.length
    · by_cases h60 : t[i] = 60
      · have b1 : (((⟨t.toArray⟩ : ByteArray)[i].toNat : Int) != 60) = false := by
          show ((t[i].toNat : Int) != 60) = false; rw [h60]; rfl
        have H60 : Hid (t[i] = 60) := h60
        clear h60
        go_wp2
        go_loop [6] (fun kv => ∃ k : Nat, i ≤ k ∧ k ≤ t.length ∧ kv = .int .i64 k ∧ ¬ 62 ∈ (t.drop (i + 1)).take (k - (i + 1))) (fun kv => t.length - (intOf kv).toNat)
        case atStart => exact ⟨i, by omega, by omega, rfl, by simp⟩
        case round =>
          obtain ⟨k, hik, hk, rfl, hno2⟩ := hrel
          have HNO2 : Hid (¬ 62 ∈ (t.drop (i + 1)).take (k - (i + 1))) := hno2
          clear hno2
          by_cases hlt2 : k < t.length
          · by_cases h62 : t[k] = 62
            · have b2 : (((⟨t.toArray⟩ : ByteArray)[k].toNat : Int) != 62) = false := by
                show ((t[k].toNat : Int) != 62) = false; rw [h62]; rfl
              have hik2 : i < k := by
                rcases Nat.lt_or_ge i k with e | e
                · exact e
                · have : i = k := by omega
                  subst this
                  rw [H60.out] at h62; exact absurd h62 (by decide)
              have HR : Hid (Pu.refAuthor t = (((t.take i).getLast? == some 32) && ((t.drop (k + 1)).head? == some 32) && Pu.isName (t.take (i - 1)) && Pu.isMail ((t.drop (i + 1)).take (k - (i + 1))) && decide (0 ≤ Pu.n10 (t.drop (k + 2)) 9999999999))) :=
                ref_at t i k hlt H60.out HNO.out hik2 hlt2 h62 HNO2.out
              clear h62
              by_cases hi0 : i = 0
              · subst hi0
                have HX : Hid (Pu.refAuthor t = false) := by show _ = _; rw [HR.out]; simp
                clear HR
                go_wp2
                go_ret3
                exact ⟨⟨[], [], -1, rfl, split_bad t HX.out⟩, 0, rfl⟩
              · have hi1 : 1 ≤ (i : Int) := by omega
                by_cases hkl : k + 1 < t.length
                · have him : i - 1 < t.length := by omega
                  have hg1 : (t.take i).getLast? = some t[i - 1] := by
                    rw [List.getLast?_eq_getElem?, List.length_take, Nat.min_eq_left (by omega), List.getElem?_take, if_pos (by omega), List.getElem?_eq_getElem him]
                  have hg2 : (t.drop (k + 1)).head? = some t[k + 1] := by
                    rw [List.head?_drop, List.getElem?_eq_getElem hkl]
                  rw [hg1, hg2] at HR
                  clear hg1 hg2
                  by_cases s1 : t[i - 1] = 32
                  · have c1 : (((⟨t.toArray⟩ : ByteArray)[i - 1].toNat : Int) != 32) = false := by
                      show ((t[i - 1].toNat : Int) != 32) = false; rw [s1]; rfl
                    by_cases s2 : t[k + 1] = 32
                    · have c2 : (((⟨t.toArray⟩ : ByteArray)[k + 1].toNat : Int) != 32) = false := by
                        show ((t[k + 1].toNat : Int) != 32) = false; rw [s2]; rfl
                      have HR2 : Hid (Pu.refAuthor t = (Pu.isName (t.take (i - 1)) && Pu.isMail ((t.drop (i + 1)).take (k - (i + 1))) && decide (0 ≤ Pu.n10 (t.drop (k + 2)) 9999999999))) := by
                        show _ = _; rw [HR.out, s1, s2]; simp
                      clear HR s1 s2
                      go_wp2_with fail
                      go_quiet ((go_at_call 273; exact Calls.quiet_of_same (number10_any _ _ _ (by simp; omega))))
                      go_wp2
                      go_ret3
                      have e9 : (t.drop (k + 2)).take (t.length - (k + 2)) = t.drop (k + 2) := List.take_of_length_le (by simp)
                      refine ⟨⟨t.take (i - 1), (t.drop (i + 1)).take (k - (i + 1)), Pu.n10 ((t.drop (k + 2)).take (t.length - (k + 2))) 9999999999, rfl, ?_⟩, _, rfl⟩
                      exact ⟨by simp; omega, by simp; omega, by rw [e9]; exact HR2.out.symm⟩
                    · have c2 : (((⟨t.toArray⟩ : ByteArray)[k + 1].toNat : Int) != 32) = true := by
                        have h2 : ((t[k + 1].toNat : Int) == ((32 : UInt8).toNat : Int)) = false := by rw [u8_int_eq]; simpa using s2
                        show (!((t[k + 1].toNat : Int) == ((32 : UInt8).toNat : Int))) = true; rw [h2]; rfl
                      have HX : Hid (Pu.refAuthor t = false) := by
                        have h2 : (some t[k + 1] == some (32 : UInt8)) = false := by simpa using s2
                        show _ = _; rw [HR.out, h2]; simp
                      clear HR s1 s2
                      go_wp2
                      go_ret3
                      exact ⟨⟨[], [], -1, rfl, split_bad t HX.out⟩, 0, rfl⟩
                  · have c1 : (((⟨t.toArray⟩ : ByteArray)[i - 1].toNat : Int) != 32) = true := by
                      have h2 : ((t[i - 1].toNat : Int) == ((32 : UInt8).toNat : Int)) = false := by rw [u8_int_eq]; simpa using s1
                      show (!((t[i - 1].toNat : Int) == ((32 : UInt8).toNat : Int))) = true; rw [h2]; rfl
                    have HX : Hid (Pu.refAuthor t = false) := by
                      have h2 : (some t[i - 1] == some (32 : UInt8)) = false := by simpa using s1
                      show _ = _; rw [HR.out, h2]; simp
                    clear HR s1
                    go_wp2
                    go_ret3
                    exact ⟨⟨[], [], -1, rfl, split_bad t HX.out⟩, 0, rfl⟩
                · have HX : Hid (Pu.refAuthor t = false) := by
                    have h2 : (t.drop (k + 1)).head? = none := by rw [List.drop_of_length_le (by omega)]; rfl
                    show _ = _; rw [HR.out, h2]; simp
                  have hkl2 : (t.length : Int) ≤ (k : Int) + 1 := by omega
                  clear HR
                  go_wp2
                  go_ret3
                  exact ⟨⟨[], [], -1, rfl, split_bad t HX.out⟩, 0, rfl⟩
            · have b2 : (((⟨t.toArray⟩ : ByteArray)[k].toNat : Int) != 62) = true := by
                have h2 : ((t[k].toNat : Int) == ((62 : UInt8).toNat : Int)) = false := by rw [u8_int_eq]; simpa using h62
                show (!((t[k].toNat : Int) == ((62 : UInt8).toNat : Int))) = true; rw [h2]; rfl
              have HN3 : Hid (¬ 62 ∈ (t.drop (i + 1)).take (k + 1 - (i + 1))) := by
                by_cases e : i < k
                · exact miss_step t 62 (i + 1) k (by omega) hlt2 h62 HNO2.out
                · have : k + 1 - (i + 1) = 0 := by omega
                  show ¬ _
                  rw [this]; simp
              clear h62
              go_wp2
              go_round
              case rel => exact ⟨k + 1, by omega, by omega, by go_num, HN3.out⟩
              case measure => simp [intOf]; omega
          · have HX : Hid (Pu.refAuthor t = false) := by
              have hkl : k = t.length := by omega
              have h1 := cut_here t 60 i hlt H60.out HNO.out
              have h2 : (Lib.cut (t.drop (i + 1)) [62]).2.2 = false := by
                apply cut_nowhere
                have h3 := HNO2.out
                rw [hkl, List.take_of_length_le (by simp)] at h3
                exact h3
              show _ = _
              unfold Pu.refAuthor
              rw [h1]
              simp only
              rw [h2]
              simp
            have hkl2 : (t.length : Int) ≤ (k : Int) + 1 := by omega
            by_cases hi0 : i = 0
            · subst hi0
              go_wp2
              go_ret3
              exact ⟨⟨[], [], -1, rfl, split_bad t HX.out⟩, 0, rfl⟩
            · have hi1 : 1 ≤ (i : Int) := by omega
              go_wp2
              go_ret3
              exact ⟨⟨[], [], -1, rfl, split_bad t HX.out⟩, 0, rfl⟩
      · have b1 : (((⟨t.toArray⟩ : ByteArray)[i].toNat : Int) != 60) = true := by
          have h2 : ((t[i].toNat : Int) == ((60 : UInt8).toNat : Int)) = false := by rw [u8_int_eq]; simpa using h60
          show (!((t[i].toNat : Int) == ((60 : UInt8).toNat : Int))) = true; rw [h2]; rfl
        have HN2 : Hid (¬ 60 ∈ t.take (i + 1)) := no_step t 60 i hlt h60 HNO.out
        clear h60 HNO
        go_wp2
        go_round
        case rel => exact ⟨i + 1, by omega, by go_num, HN2.out⟩
        case measure => simp [intOf]; omega
    · have hil : i = t.length := by omega
      subst hil
      have HX : Hid (Pu.refAuthor t = false) := by
        have h2 : (Lib.cut t [60]).2.2 = false := by
          apply cut_nowhere
          have h3 := HNO.out
          rw [List.take_length] at h3
          exact h3
        show _ = _
        unfold Pu.refAuthor
        rw [h2]
        simp
      have hkl2 : (t.length : Int) ≤ (t.length : Int) + 1 := by omega
      go_wp2
      refine wp_loop_rounds 1 ?_
      rw [rounds_succ]
      by_cases hi0 : t.length = 0
      · have h0 : (t.length : Int) < 1 := by omega
        go_wp2
        go_ret3
        exact ⟨⟨[], [], -1, rfl, split_bad t HX.out⟩, 0, rfl⟩
      · have hi1 : 1 ≤ (t.length : Int) := by omega
        go_wp2
        go_ret3
        exact ⟨⟨[], [], -1, rfl, split_bad t HX.out⟩, 0, rfl⟩

end Rf
end Go.Proofs.YtepgoppgblfjbaaGreatDoor
