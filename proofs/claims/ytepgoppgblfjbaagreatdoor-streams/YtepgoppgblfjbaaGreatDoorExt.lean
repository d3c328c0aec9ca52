/- What more text behind a text changes: nothing where it was read well. -/
import Derived.Test.YtepgoppgblfjbaaGreatDoorLens2
namespace Go.Proofs.YtepgoppgblfjbaaGreatDoor
namespace Pu

/-- Where the byte 10 first stands. -/
theorem index_mem {s : List UInt8} {c : UInt8} : 0 ≤ Lib.index s [c] ↔ c ∈ s := by
  induction s with
  | nil => simp [Lib.index]
  | cons a l ih =>
    unfold Lib.index
    by_cases h : c = a
    · subst h; simp [List.isPrefixOf]
    · have h2 : [c].isPrefixOf (a :: l) = false := by simp [List.isPrefixOf, h]
      rw [h2]
      simp only [Bool.false_eq_true, if_false, List.mem_cons, h, false_or]
      rw [← ih]
      have := Lib.index_ge l [c]
      split
      · rename_i e; simp at e; omega
      · rename_i e; simp at e; omega

theorem index_app {s : List UInt8} {c : UInt8} (t : List UInt8) (h : c ∈ s) : Lib.index (s ++ t) [c] = Lib.index s [c] := by
  induction s with
  | nil => simp at h
  | cons a l ih =>
    rw [List.cons_append]
    unfold Lib.index
    by_cases e : c = a
    · subst e; simp [List.isPrefixOf]
    · have h2 : [c].isPrefixOf (a :: l) = false := by simp [List.isPrefixOf, e]
      have h3 : [c].isPrefixOf (a :: (l ++ t)) = false := by simp [List.isPrefixOf, e]
      have h4 : c ∈ l := by simpa [e] using h
      rw [h2, h3, ih h4]

theorem index_lt {s : List UInt8} {c : UInt8} (h : c ∈ s) : (Lib.index s [c]).toNat < s.length := by
  induction s with
  | nil => simp at h
  | cons a l ih =>
    unfold Lib.index
    by_cases e : c = a
    · subst e; simp [List.isPrefixOf]
    · have h2 : [c].isPrefixOf (a :: l) = false := by simp [List.isPrefixOf, e]
      have h4 : c ∈ l := by simpa [e] using h
      have := ih h4
      rw [h2]
      simp only [Bool.false_eq_true, if_false, List.length_cons]
      split
      · omega
      · have := Lib.index_ge l [c]; omega

theorem cut_found {s : List UInt8} {c : UInt8} : (Lib.cut s [c]).2.2 = true ↔ c ∈ s := by
  rw [← index_mem]; unfold Lib.cut; split <;> simp_all

theorem cut_app {s : List UInt8} {c : UInt8} (t : List UInt8) (h : c ∈ s) : Lib.cut (s ++ t) [c] = ((Lib.cut s [c]).1, (Lib.cut s [c]).2.1 ++ t, true) := by
  have h0 := index_mem.2 h
  have h1 := index_app t h
  have h2 := index_lt h
  unfold Lib.cut
  rw [h1, if_pos h0, if_pos h0]
  simp only [List.length_cons, List.length_nil, Nat.zero_add]
  rw [List.take_append_of_le_length (by omega), List.drop_append_of_le_length (by omega)]

/- Wrong stays wrong. -/
theorem need_bad (ok : Bool) (s : List UInt8) : (need ok s true).2 = true := by unfold need; split <;> rfl
theorem line_bad (s : List UInt8) : (line s true).2.2 = true := by unfold line; split <;> rfl
theorem after_bad (hd s : List UInt8) : (after hd s true).2.2 = true := by
  unfold after; simp only [line_bad]; exact need_bad _ _
theorem exactly_bad (l s : List UInt8) : (exactly l s true).2 = true := by unfold exactly; rw [line_bad]; exact need_bad _ _
theorem ref_bad (hd s : List UInt8) : (ref hd s true).2.2 = true := by unfold ref; rw [after_bad]; exact need_bad _ _
theorem rmark_bad (s : List UInt8) : (rmark s true).2.2 = true := by unfold rmark; rw [after_bad]; exact need_bad _ _
theorem which_bad (hd s : List UInt8) : (which hd s true).2 = true := by
  unfold which; split
  · exact after_bad _ _
  · rw [after_bad]; exact need_bad _ _
theorem author_bad (s : List UInt8) : (author s true).2 = true := by unfold author; rw [after_bad]; exact need_bad _ _
theorem bytes_bad (n : Int) (s : List UInt8) : (bytes n s true).2.2 = true := by unfold bytes; split <;> rfl
theorem data_bad (s : List UInt8) : (data s true).2.2 = true := by unfold data; rw [after_bad, need_bad]; exact bytes_bad _ _
theorem fromOr_bad (s : List UInt8) : (fromOr s true).2 = true := by
  unfold fromOr; split
  · exact which_bad _ _
  · rfl
theorem mergesF_bad : ∀ (f : Nat) (s : List UInt8) (n : Nat), (mergesF f s true n).2.2 = true := by
  intro f
  induction f with
  | zero => intro s n; rfl
  | succ f ih =>
    intro s n
    unfold mergesF; split
    · rw [which_bad]; exact ih _ _
    · rfl
theorem merges_bad (s : List UInt8) : (merges s true).2 = true := by unfold merges; rw [mergesF_bad]; exact need_bad _ _
theorem content_bad (f s : List UInt8) : (content f s true).2 = true := by
  unfold content; split
  · exact data_bad _
  · exact need_bad _ _
theorem change_bad (l s : List UInt8) : (change l s true).2 = true := by
  unfold change; split
  · split
    · unfold changeM; rw [need_bad, need_bad]; exact content_bad _ _
    · exact need_bad _ _
  · split <;> exact need_bad _ _
  · split
    · rw [need_bad]; exact need_bad _ _
    · exact need_bad _ _
  · exact need_bad _ _
theorem changesF_bad : ∀ (f : Nat) (l s : List UInt8) (n : Nat), (changesF f l s true n).2.2 = true := by
  intro f
  induction f with
  | zero => intro l s n; rfl
  | succ f ih =>
    intro l s n
    unfold changesF; split
    · rfl
    · rw [change_bad, line_bad]; exact ih _ _ _
theorem changes_bad (s : List UInt8) : (changes s true).2 = true := by unfold changes; rw [line_bad, changesF_bad]; exact need_bad _ _

/- What was read well reads the same with more text behind it. -/
theorem need_good {ok : Bool} {s : List UInt8} {bad : Bool} (h : (need ok s bad).2 = false) : ok = true ∧ bad = false := by
  cases ok with
  | false => simp [need] at h
  | true => exact ⟨rfl, by simpa [need] using h⟩

theorem line_good {s : List UInt8} {bad : Bool} (h : (line s bad).2.2 = false) : 10 ∈ s ∧ bad = false := by
  unfold line at h
  split at h
  · rename_i hc; exact ⟨cut_found.1 hc, h⟩
  · cases h

theorem line_ext {s : List UInt8} (t : List UInt8) (h : 10 ∈ s) (bad : Bool) : line (s ++ t) bad = ((line s bad).1, (line s bad).2.1 ++ t, bad) := by
  have h1 := cut_app t h
  unfold line
  rw [h1, cut_found.2 h]
  simp

theorem line_has {s : List UInt8} (h : 10 ∈ s) (bad : Bool) : (line s bad).2.2 = bad := by
  unfold line; rw [cut_found.2 h]; simp

theorem exactly_ext {l s : List UInt8} {bad : Bool} (t : List UInt8) (h : (exactly l s bad).2 = false) : exactly l (s ++ t) bad = ((exactly l s bad).1 ++ t, false) := by
  unfold exactly at h ⊢
  obtain ⟨h1, h2⟩ := need_good h
  obtain ⟨h3, h4⟩ := line_good h2
  rw [line_ext t h3]
  simp only
  rw [h1, h4]
  simp [need]

theorem after_good {hd s : List UInt8} {bad : Bool} (h : (after hd s bad).2.2 = false) : 10 ∈ s ∧ bad = false := by
  unfold after at h
  exact line_good (need_good h).2

theorem after_ext {hd s : List UInt8} {bad : Bool} (t : List UInt8) (h : (after hd s bad).2.2 = false) : after hd (s ++ t) bad = ((after hd s bad).1, (after hd s bad).2.1 ++ t, false) := by
  unfold after at h ⊢
  obtain ⟨h1, h2⟩ := need_good h
  obtain ⟨h3, h4⟩ := line_good h2
  rw [line_ext t h3]
  simp only
  rw [h1, h4]
  simp [need]

theorem ref_ext {hd s : List UInt8} {bad : Bool} (t : List UInt8) (h : (ref hd s bad).2.2 = false) : (ref hd (s ++ t) bad).2 = ((ref hd s bad).2.1 ++ t, false) := by
  unfold ref at h ⊢
  obtain ⟨h1, h2⟩ := need_good h
  rw [after_ext t h2]
  simp only
  rw [h1]
  simp [need]

theorem rmark_ext {s : List UInt8} {bad : Bool} (t : List UInt8) (h : (rmark s bad).2.2 = false) : (rmark (s ++ t) bad).2 = ((rmark s bad).2.1 ++ t, false) := by
  unfold rmark at h ⊢
  obtain ⟨h1, h2⟩ := need_good h
  rw [after_ext t h2]
  simp only
  rw [h1]
  simp [need]

theorem which_ext {hd s : List UInt8} {bad : Bool} (t : List UInt8) (h : (which hd s bad).2 = false) : which hd (s ++ t) bad = ((which hd s bad).1 ++ t, false) := by
  unfold which at h ⊢
  split at h
  · rename_i hm
    rw [after_ext t h]
    simp only
    rw [if_pos hm, if_pos hm]
  · rename_i hm
    obtain ⟨h1, h2⟩ := need_good h
    rw [after_ext t h2]
    simp only
    rw [if_neg hm, if_neg hm, h1]
    simp [need]

theorem author_ext {s : List UInt8} {bad : Bool} (t : List UInt8) (h : (author s bad).2 = false) : author (s ++ t) bad = ((author s bad).1 ++ t, false) := by
  unfold author at h ⊢
  obtain ⟨h1, h2⟩ := need_good h
  rw [after_ext t h2]
  simp only
  rw [h1]
  simp [need]

theorem bytes_ext {n : Int} {s : List UInt8} {bad : Bool} (t : List UInt8) (h : (bytes n s bad).2.2 = false) : (bytes n (s ++ t) bad).2 = ((bytes n s bad).2.1 ++ t, false) := by
  unfold bytes at h ⊢
  split at h
  · rename_i hn
    have hlt : n.toNat < s.length := by
      have := (List.getElem?_eq_some_iff.1 hn).1; exact this
    have hn2 : (s ++ t)[n.toNat]? = some 10 := by rw [List.getElem?_append_left hlt]; exact hn
    rw [if_pos hn2, if_pos hn, List.drop_append_of_le_length (by omega)]
    simp only at h
    rw [h]
  · cases h

theorem data_ext {s : List UInt8} {bad : Bool} (t : List UInt8) (h : (data s bad).2.2 = false) : (data (s ++ t) bad).2 = ((data s bad).2.1 ++ t, false) := by
  have h0 : (need (number (after sData s bad).1 0 200).2 (after sData s bad).2.1 (after sData s bad).2.2).2 = false := by
    cases hb : (need (number (after sData s bad).1 0 200).2 (after sData s bad).2.1 (after sData s bad).2.2).2 with
    | false => rfl
    | true => unfold data at h; rw [hb, bytes_bad] at h; cases h
  obtain ⟨h1, h2⟩ := need_good h0
  have h3 := after_ext t h2
  unfold data at h ⊢
  rw [h3]
  simp only
  rw [h1, h2] at h ⊢
  simp only [need, if_true] at h ⊢
  exact bytes_ext t h

theorem prefix_app {s p : List UInt8} (t : List UInt8) (h : 10 ∈ s) (hp : ¬ (10 : UInt8) ∈ p) : Lib.hasPrefix (s ++ t) p = Lib.hasPrefix s p := by
  unfold Lib.hasPrefix
  induction s generalizing p with
  | nil => simp at h
  | cons a l ih =>
    cases p with
    | nil => simp [List.isPrefixOf]
    | cons q p =>
      rw [List.cons_append]
      simp only [List.isPrefixOf]
      by_cases e : q = a
      · have hq : ¬ (10 : UInt8) = q := fun e2 => hp (by rw [e2]; exact List.mem_cons_self ..)
        have hl : 10 ∈ l := by
          rcases List.mem_cons.1 h with e2 | e2
          · exact absurd (e2.trans e.symm) hq
          · exact e2
        rw [ih hl (fun e2 => hp (List.mem_cons_of_mem _ e2))]
      · have e2 : (q == a) = false := by simpa using e
        rw [e2, Bool.false_and, Bool.false_and]

end Pu
end Go.Proofs.YtepgoppgblfjbaaGreatDoor
