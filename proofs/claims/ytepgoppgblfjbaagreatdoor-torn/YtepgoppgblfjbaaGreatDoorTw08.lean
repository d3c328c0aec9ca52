import Derived.Test.YtepgoppgblfjbaaGreatDoorTw07
import Derived.KernelRfl
/- What more text behind a text changes: nothing where it was read well. -/
namespace Go.Proofs.YtepgoppgblfjbaaGreatDoor
namespace Pu

/-- Where the byte 10 first stands. -/
theorem index_mem {s : List UInt8} {c : UInt8} : 0 ≤ Lib.index s [c] ↔ c ∈ s := by
  induction s with
  | nil => simp [Lib.index]
  | cons a l ih =>
    unfold Lib.index
    by_cases h : c = a
    · subst h; simp [List.isPrefixOf]
    · have h2 : [c].isPrefixOf (a :: l) = false := by simp [List.isPrefixOf, h]
      rw [h2]
      simp only [Bool.false_eq_true, if_false, List.mem_cons, h, false_or]
      rw [← ih]
      have := Lib.index_ge l [c]
      split
      · rename_i e; simp at e; omega
      · rename_i e; simp at e; omega

theorem index_app {s : List UInt8} {c : UInt8} (t : List UInt8) (h : c ∈ s) : Lib.index (s ++ t) [c] = Lib.index s [c] := by
  induction s with
  | nil => simp at h
  | cons a l ih =>
    rw [List.cons_append]
    unfold Lib.index
    by_cases e : c = a
    · subst e; simp [List.isPrefixOf]
    · have h2 : [c].isPrefixOf (a :: l) = false := by simp [List.isPrefixOf, e]
      have h3 : [c].isPrefixOf (a :: (l ++ t)) = false := by simp [List.isPrefixOf, e]
      have h4 : c ∈ l := by simpa [e] using h
      rw [h2, h3, ih h4]

theorem index_lt {s : List UInt8} {c : UInt8} (h : c ∈ s) : (Lib.index s [c]).toNat < s.length := by
  induction s with
  | nil => simp at h
  | cons a l ih =>
    unfold Lib.index
    by_cases e : c = a
    · subst e; simp [List.isPrefixOf]
    · have h2 : [c].isPrefixOf (a :: l) = false := by simp [List.isPrefixOf, e]
      have h4 : c ∈ l := by simpa [e] using h
      have := ih h4
      rw [h2]
      simp only [Bool.false_eq_true, if_false, List.length_cons]
      split
      · omega
      · have := Lib.index_ge l [c]; omega

theorem cut_found {s : List UInt8} {c : UInt8} : (Lib.cut s [c]).2.2 = true ↔ c ∈ s := by
  rw [← index_mem]; unfold Lib.cut; split <;> simp_all

theorem cut_app {s : List UInt8} {c : UInt8} (t : List UInt8) (h : c ∈ s) : Lib.cut (s ++ t) [c] = ((Lib.cut s [c]).1, (Lib.cut s [c]).2.1 ++ t, true) := by
  have h0 := index_mem.2 h
  have h1 := index_app t h
  have h2 := index_lt h
  unfold Lib.cut
  rw [h1, if_pos h0, if_pos h0]
  simp only [List.length_cons, List.length_nil, Nat.zero_add]
  rw [List.take_append_of_le_length (by omega), List.drop_append_of_le_length (by omega)]

/- Wrong stays wrong. -/
theorem need_bad (ok : Bool) (s : List UInt8) : (need ok s true).2 = true := by unfold need; split <;> rfl
theorem line_bad (s : List UInt8) : (line s true).2.2 = true := by unfold line; split <;> rfl
theorem after_bad (hd s : List UInt8) : (after hd s true).2.2 = true := by
  unfold after; simp only [line_bad]; exact need_bad _ _
theorem exactly_bad (l s : List UInt8) : (exactly l s true).2 = true := by unfold exactly; rw [line_bad]; exact need_bad _ _
theorem ref_bad (hd s : List UInt8) : (ref hd s true).2.2 = true := by unfold ref; rw [after_bad]; exact need_bad _ _
theorem rmark_bad (s : List UInt8) : (rmark s true).2.2 = true := by unfold rmark; rw [after_bad]; exact need_bad _ _
theorem which_bad (hd s : List UInt8) : (which hd s true).2 = true := by
  unfold which; split
  · exact after_bad _ _
  · rw [after_bad]; exact need_bad _ _
theorem author_bad (s : List UInt8) : (author s true).2 = true := by unfold author; rw [after_bad]; exact need_bad _ _
theorem bytes_bad (n : Int) (s : List UInt8) : (bytes n s true).2.2 = true := by unfold bytes; split <;> rfl
theorem data_bad (s : List UInt8) : (data s true).2.2 = true := by unfold data; rw [after_bad, need_bad]; exact bytes_bad _ _
theorem fromOr_bad (s : List UInt8) : (fromOr s true).2 = true := by
  unfold fromOr; split
  · exact which_bad _ _
  · rfl
theorem mergesF_bad : ∀ (f : Nat) (s : List UInt8) (n : Nat), (mergesF f s true n).2.2 = true := by
  intro f
  induction f with
  | zero => intro s n; rfl
  | succ f ih =>
    intro s n
    unfold mergesF; split
    · rw [which_bad]; exact ih _ _
    · rfl
theorem merges_bad (s : List UInt8) : (merges s true).2 = true := by unfold merges; rw [mergesF_bad]; exact need_bad _ _
theorem content_bad (f s : List UInt8) : (content f s true).2 = true := by
  unfold content; split
  · exact data_bad _
  · exact need_bad _ _
theorem change_bad (l s : List UInt8) : (change l s true).2 = true := by
  unfold change; split
  · split
    · unfold changeM; rw [need_bad, need_bad]; exact content_bad _ _
    · exact need_bad _ _
  · split <;> exact need_bad _ _
  · split
    · rw [need_bad]; exact need_bad _ _
    · exact need_bad _ _
  · exact need_bad _ _
theorem changesF_bad : ∀ (f : Nat) (l s : List UInt8) (n : Nat), (changesF f l s true n).2.2 = true := by
  intro f
  induction f with
  | zero => intro l s n; rfl
  | succ f ih =>
    intro l s n
    unfold changesF; split
    · rfl
    · rw [change_bad, line_bad]; exact ih _ _ _
theorem changes_bad (s : List UInt8) : (changes s true).2 = true := by unfold changes; rw [line_bad, changesF_bad]; exact need_bad _ _

/- What was read well reads the same with more text behind it. -/
theorem need_good {ok : Bool} {s : List UInt8} {bad : Bool} (h : (need ok s bad).2 = false) : ok = true ∧ bad = false := by
  cases ok with
  | false => simp [need] at h
  | true => exact ⟨rfl, by simpa [need] using h⟩

theorem line_good {s : List UInt8} {bad : Bool} (h : (line s bad).2.2 = false) : 10 ∈ s ∧ bad = false := by
  unfold line at h
  split at h
  · rename_i hc; exact ⟨cut_found.1 hc, h⟩
  · cases h

theorem line_ext {s : List UInt8} (t : List UInt8) (h : 10 ∈ s) (bad : Bool) : line (s ++ t) bad = ((line s bad).1, (line s bad).2.1 ++ t, bad) := by
  have h1 := cut_app t h
  unfold line
  rw [h1, cut_found.2 h]
  simp

theorem line_has {s : List UInt8} (h : 10 ∈ s) (bad : Bool) : (line s bad).2.2 = bad := by
  unfold line; rw [cut_found.2 h]; simp

theorem exactly_ext {l s : List UInt8} {bad : Bool} (t : List UInt8) (h : (exactly l s bad).2 = false) : exactly l (s ++ t) bad = ((exactly l s bad).1 ++ t, false) := by
  unfold exactly at h ⊢
  obtain ⟨h1, h2⟩ := need_good h
  obtain ⟨h3, h4⟩ := line_good h2
  rw [line_ext t h3]
  simp only
  rw [h1, h4]
  simp [need]

theorem after_good {hd s : List UInt8} {bad : Bool} (h : (after hd s bad).2.2 = false) : 10 ∈ s ∧ bad = false := by
  unfold after at h
  exact line_good (need_good h).2

theorem after_ext {hd s : List UInt8} {bad : Bool} (t : List UInt8) (h : (after hd s bad).2.2 = false) : after hd (s ++ t) bad = ((after hd s bad).1, (after hd s bad).2.1 ++ t, false) := by
  unfold after at h ⊢
  obtain ⟨h1, h2⟩ := need_good h
  obtain ⟨h3, h4⟩ := line_good h2
  rw [line_ext t h3]
  simp only
  rw [h1, h4]
  simp [need]

theorem ref_ext {hd s : List UInt8} {bad : Bool} (t : List UInt8) (h : (ref hd s bad).2.2 = false) : (ref hd (s ++ t) bad).2 = ((ref hd s bad).2.1 ++ t, false) := by
  unfold ref at h ⊢
  obtain ⟨h1, h2⟩ := need_good h
  rw [after_ext t h2]
  simp only
  rw [h1]
  simp [need]

theorem rmark_ext {s : List UInt8} {bad : Bool} (t : List UInt8) (h : (rmark s bad).2.2 = false) : (rmark (s ++ t) bad).2 = ((rmark s bad).2.1 ++ t, false) := by
  unfold rmark at h ⊢
  obtain ⟨h1, h2⟩ := need_good h
  rw [after_ext t h2]
  simp only
  rw [h1]
  simp [need]

theorem which_ext {hd s : List UInt8} {bad : Bool} (t : List UInt8) (h : (which hd s bad).2 = false) : which hd (s ++ t) bad = ((which hd s bad).1 ++ t, false) := by
  unfold which at h ⊢
  split at h
  · rename_i hm
    rw [after_ext t h]
    simp only
    rw [if_pos hm, if_pos hm]
  · rename_i hm
    obtain ⟨h1, h2⟩ := need_good h
    rw [after_ext t h2]
    simp only
    rw [if_neg hm, if_neg hm, h1]
    simp [need]

theorem author_ext {s : List UInt8} {bad : Bool} (t : List UInt8) (h : (author s bad).2 = false) : author (s ++ t) bad = ((author s bad).1 ++ t, false) := by
  unfold author at h ⊢
  obtain ⟨h1, h2⟩ := need_good h
  rw [after_ext t h2]
  simp only
  rw [h1]
  simp [need]

theorem bytes_ext {n : Int} {s : List UInt8} {bad : Bool} (t : List UInt8) (h : (bytes n s bad).2.2 = false) : (bytes n (s ++ t) bad).2 = ((bytes n s bad).2.1 ++ t, false) := by
  unfold bytes at h ⊢
  split at h
  · rename_i hn
    have hlt : n.toNat < s.length := by
      have := (List.getElem?_eq_some_iff.1 hn).1; exact this
    have hn2 : (s ++ t)[n.toNat]? = some 10 := by rw [List.getElem?_append_left hlt]; exact hn
    rw [if_pos hn2, if_pos hn, List.drop_append_of_le_length (by omega)]
    simp only at h
    rw [h]
  · cases h

theorem data_ext {s : List UInt8} {bad : Bool} (t : List UInt8) (h : (data s bad).2.2 = false) : (data (s ++ t) bad).2 = ((data s bad).2.1 ++ t, false) := by
  have h0 : (need (number (after sData s bad).1 0 200).2 (after sData s bad).2.1 (after sData s bad).2.2).2 = false := by
    cases hb : (need (number (after sData s bad).1 0 200).2 (after sData s bad).2.1 (after sData s bad).2.2).2 with
    | false => rfl
    | true => unfold data at h; rw [hb, bytes_bad] at h; cases h
  obtain ⟨h1, h2⟩ := need_good h0
  have h3 := after_ext t h2
  unfold data at h ⊢
  rw [h3]
  simp only
  rw [h1, h2] at h ⊢
  simp only [need, if_true] at h ⊢
  exact bytes_ext t h

theorem prefix_app {s p : List UInt8} (t : List UInt8) (h : 10 ∈ s) (hp : ¬ (10 : UInt8) ∈ p) : Lib.hasPrefix (s ++ t) p = Lib.hasPrefix s p := by
  unfold Lib.hasPrefix
  induction s generalizing p with
  | nil => simp at h
  | cons a l ih =>
    cases p with
    | nil => simp [List.isPrefixOf]
    | cons q p =>
      rw [List.cons_append]
      simp only [List.isPrefixOf]
      by_cases e : q = a
      · have hq : ¬ (10 : UInt8) = q := fun e2 => hp (by rw [e2]; exact List.mem_cons_self ..)
        have hl : 10 ∈ l := by
          rcases List.mem_cons.1 h with e2 | e2
          · exact absurd (e2.trans e.symm) hq
          · exact e2
        rw [ih hl (fun e2 => hp (List.mem_cons_of_mem _ e2))]
      · have e2 : (q == a) = false := by simpa using e
        rw [e2, Bool.false_and, Bool.false_and]

end Pu
end Go.Proofs.YtepgoppgblfjbaaGreatDoor

/- More text behind a text: whole commands, and whole streams. -/
namespace Go.Proofs.YtepgoppgblfjbaaGreatDoor
namespace Pu

/- What is left was there. -/
theorem need_mem {ok : Bool} {s : List UInt8} {bad : Bool} {x : UInt8} (h : x ∈ (need ok s bad).1) : x ∈ s := by
  unfold need at h; split at h
  · exact h
  · simp at h
theorem line_mem {s : List UInt8} {bad : Bool} {x : UInt8} (h : x ∈ (line s bad).2.1) : x ∈ s := by
  unfold line Lib.cut at h
  split at h
  · split at h
    · exact List.mem_of_mem_drop h
    · simp at h
  · simp at h
theorem after_mem {hd s : List UInt8} {bad : Bool} {x : UInt8} (h : x ∈ (after hd s bad).2.1) : x ∈ s := by
  unfold after at h; exact line_mem (need_mem h)
theorem which_mem {hd s : List UInt8} {bad : Bool} {x : UInt8} (h : x ∈ (which hd s bad).1) : x ∈ s := by
  unfold which at h; split at h
  · exact after_mem h
  · exact after_mem (need_mem h)
theorem fromOr_mem {s : List UInt8} {bad : Bool} {x : UInt8} (h : x ∈ (fromOr s bad).1) : x ∈ s := by
  unfold fromOr at h; split at h
  · exact which_mem h
  · exact h
theorem mergesF_mem {x : UInt8} : ∀ (f : Nat) (s : List UInt8) (bad : Bool) (n : Nat), x ∈ (mergesF f s bad n).2.1 → x ∈ s := by
  intro f
  induction f with
  | zero => intro s bad n h; exact h
  | succ f ih =>
    intro s bad n h
    unfold mergesF at h; split at h
    · exact which_mem (ih _ _ _ h)
    · exact h
theorem merges_mem {s : List UInt8} {bad : Bool} {x : UInt8} (h : x ∈ (merges s bad).1) : x ∈ s := by
  unfold merges at h; exact mergesF_mem _ _ _ _ (need_mem h)

theorem fromOr_ext {s : List UInt8} {bad : Bool} (t : List UInt8) (h10 : 10 ∈ s) (h : (fromOr s bad).2 = false) : fromOr (s ++ t) bad = ((fromOr s bad).1 ++ t, false) := by
  have hp := prefix_app t h10 (p := sFrom) (by decide)
  unfold fromOr at h ⊢
  rw [hp]
  split at h
  · rename_i e
    rw [if_pos e, if_pos e]; exact which_ext t h
  · rename_i e
    rw [if_neg e, if_neg e]; simp only at h; rw [h]

theorem mergesF_ext (t : List UInt8) : ∀ (f : Nat) (s : List UInt8) (bad : Bool) (n : Nat), 10 ∈ (mergesF f s bad n).2.1 → (mergesF f s bad n).2.2 = false →
    mergesF f (s ++ t) bad n = ((mergesF f s bad n).1, (mergesF f s bad n).2.1 ++ t, false) := by
  intro f
  induction f with
  | zero => intro s bad n _ h; unfold mergesF at h ⊢; simp only at h; rw [h]
  | succ f ih =>
    intro s bad n h10 h
    have h11 := mergesF_mem _ _ _ _ h10
    have hp := prefix_app t h11 (p := sMerge) (by decide)
    unfold mergesF at h h10 ⊢
    rw [hp]
    split at h
    · rename_i e
      rw [if_pos e] at h10
      rw [if_pos e, if_pos e]
      have hw : (which sMerge s bad).2 = false := by
        cases hb : (which sMerge s bad).2 with
        | false => rfl
        | true => rw [hb, mergesF_bad] at h; cases h
      rw [which_ext t hw]
      simp only
      rw [hw] at h h10 ⊢
      exact ih _ _ _ h10 h
    · rename_i e
      rw [if_neg e, if_neg e]
      simp only at h
      rw [h]

theorem merges_ext {s : List UInt8} {bad : Bool} (t : List UInt8) (h10 : 10 ∈ (merges s bad).1) (h : (merges s bad).2 = false) : merges (s ++ t) bad = ((merges s bad).1 ++ t, false) := by
  unfold merges at h h10
  obtain ⟨h1, h2⟩ := need_good h
  have h11 := need_mem h10
  have hf : mergesF (s ++ t).length s bad 0 = mergesF s.length s bad 0 := mergesF_fuel _ _ _ _ _ (by simp) (Nat.le_refl _)
  have h3 := mergesF_ext t (s ++ t).length s bad 0 (by rw [hf]; exact h11) (by rw [hf]; exact h2)
  rw [hf] at h3
  unfold merges
  rw [h3]
  simp only
  rw [h1]
  simp [need]

theorem content_ext {f s : List UInt8} {bad : Bool} (t : List UInt8) (h : (content f s bad).2 = false) : content f (s ++ t) bad = ((content f s bad).1 ++ t, false) := by
  unfold content at h ⊢
  split at h
  · rename_i e
    rw [if_pos e, if_pos e]; exact data_ext t h
  · rename_i e
    rw [if_neg e, if_neg e]
    obtain ⟨h1, h2⟩ := need_good h
    rw [h1, h2]; simp [need]

theorem need_ext {ok : Bool} {s : List UInt8} {bad : Bool} (t : List UInt8) (h : (need ok s bad).2 = false) : need ok (s ++ t) bad = ((need ok s bad).1 ++ t, false) := by
  obtain ⟨h1, h2⟩ := need_good h
  rw [h1, h2]; simp [need]

theorem changeM_ext {f1 f2 f3 s : List UInt8} {bad : Bool} (t : List UInt8) (h : (changeM f1 f2 f3 s bad).2 = false) : changeM f1 f2 f3 (s ++ t) bad = ((changeM f1 f2 f3 s bad).1 ++ t, false) := by
  have h2 : (need (isPath f3) (need (f1 == s644 || f1 == s755) s bad).1 (need (f1 == s644 || f1 == s755) s bad).2).2 = false := by
    cases hb : (need (isPath f3) (need (f1 == s644 || f1 == s755) s bad).1 (need (f1 == s644 || f1 == s755) s bad).2).2 with
    | false => rfl
    | true => unfold changeM at h; rw [hb, content_bad] at h; cases h
  have h1 := (need_good h2).2
  unfold changeM at h ⊢
  have e1 := need_ext t h1
  rw [e1]
  simp only
  have e2 : need (isPath f3) ((need (f1 == s644 || f1 == s755) s bad).1 ++ t) false = ((need (isPath f3) (need (f1 == s644 || f1 == s755) s bad).1 (need (f1 == s644 || f1 == s755) s bad).2).1 ++ t, false) := by
    rw [h1] at h2 ⊢; exact need_ext t h2
  rw [e2]
  simp only
  rw [h2] at h ⊢
  exact content_ext t h

theorem change_ext {l s : List UInt8} {bad : Bool} (t : List UInt8) (h : (change l s bad).2 = false) : change l (s ++ t) bad = ((change l s bad).1 ++ t, false) := by
  unfold change at h ⊢
  split at h
  · split at h
    · rename_i e; rw [if_pos e, if_pos e]; exact changeM_ext t h
    · rename_i e; rw [if_neg e, if_neg e]; exact need_ext t h
  · split at h
    · rename_i e; rw [if_pos e, if_pos e]; exact need_ext t h
    · rename_i e; rw [if_neg e, if_neg e]; exact need_ext t h
  · split at h
    · rename_i e
      rw [if_pos e, if_pos e]
      have h1 := (need_good h).2
      rw [need_ext t h1]
      simp only
      rw [h1] at h ⊢
      exact need_ext t h
    · rename_i e; rw [if_neg e, if_neg e]; exact need_ext t h
  · exact need_ext t h

theorem changesF_ext (t : List UInt8) : ∀ (f : Nat) (l s : List UInt8) (bad : Bool) (n : Nat), (changesF f l s bad n).2.2 = false →
    changesF f l (s ++ t) bad n = ((changesF f l s bad n).1, (changesF f l s bad n).2.1 ++ t, false) := by
  intro f
  induction f with
  | zero => intro l s bad n h; unfold changesF at h ⊢; simp only at h; rw [h]
  | succ f ih =>
    intro l s bad n h
    unfold changesF at h ⊢
    split at h
    · rename_i e; rw [if_pos e, if_pos e]; simp only at h; rw [h]
    · rename_i e
      rw [if_neg e, if_neg e]
      have hl : (line (change l s bad).1 (change l s bad).2).2.2 = false := by
        cases hb : (line (change l s bad).1 (change l s bad).2).2.2 with
        | false => rfl
        | true => rw [hb, changesF_bad] at h; cases h
      obtain ⟨h10, hc⟩ := line_good hl
      rw [change_ext t hc]
      generalize change l s bad = x at *
      obtain ⟨x0, x1⟩ := x
      simp only at *
      subst hc
      rw [line_ext t h10 false]
      generalize line x0 false = y at *
      obtain ⟨y0, y1, y2⟩ := y
      simp only at *
      subst hl
      exact ih _ _ _ _ h

theorem changes_ext {s : List UInt8} {bad : Bool} (t : List UInt8) (h : (changes s bad).2 = false) : changes (s ++ t) bad = ((changes s bad).1 ++ t, false) ∧ 10 ∈ s := by
  have hl : (line s bad).2.2 = false := by
    cases hb : (line s bad).2.2 with
    | false => rfl
    | true => unfold changes at h; rw [hb, changesF_bad, need_bad] at h; cases h
  obtain ⟨h10, hb⟩ := line_good hl
  refine ⟨?_, h10⟩
  subst hb
  have hll := line_le s false
  have hx := line_ext t h10 false
  unfold changes at h ⊢
  rw [hx]
  generalize line s false = x at *
  obtain ⟨x0, x1, x2⟩ := x
  simp only at *
  subst hl
  obtain ⟨h1, h2⟩ := need_good h
  have hf := changesF_fuel ((s ++ t).length + 2) (s.length + 2) x0 x1 false 0 (by simp; omega) (by omega)
  have h3 := changesF_ext t ((s ++ t).length + 2) x0 x1 false 0 (by rw [hf]; exact h2)
  rw [h3, hf]
  generalize changesF (s.length + 2) x0 x1 false 0 = R at *
  simp only
  rw [h1]
  simp [need]

theorem readBlob_ext {s : List UInt8} {bad : Bool} (t : List UInt8) (h : (readBlob s bad).2 = false) : readBlob (s ++ t) bad = ((readBlob s bad).1 ++ t, false) ∧ 10 ∈ s ∧ bad = false := by
  unfold readBlob at h ⊢
  have h1 : (rmark (exactly sBlob s bad).1 (exactly sBlob s bad).2).2.2 = false := by
    cases hb : (rmark (exactly sBlob s bad).1 (exactly sBlob s bad).2).2.2 with
    | false => rfl
    | true => rw [hb, data_bad] at h; cases h
  have h2 : (exactly sBlob s bad).2 = false := by
    cases hb : (exactly sBlob s bad).2 with
    | false => rfl
    | true => rw [hb, rmark_bad] at h1; cases h1
  have h3 : 10 ∈ s ∧ bad = false := by
    unfold exactly at h2; exact line_good (need_good h2).2
  refine ⟨?_, h3⟩
  rw [exactly_ext t h2]
  generalize exactly sBlob s bad = x at *
  obtain ⟨x0, x1⟩ := x
  simp only at *
  subst h2
  rw [rmark_ext t h1]
  generalize (rmark x0 false).2 = y at *
  obtain ⟨y0, y1⟩ := y
  simp only at *
  subst h1
  exact data_ext t h

theorem ref_good {hd s : List UInt8} {bad : Bool} (h : (ref hd s bad).2.2 = false) : 10 ∈ s ∧ bad = false := by
  unfold ref at h; exact after_good (need_good h).2

theorem readTag_ext {s : List UInt8} {bad : Bool} (t : List UInt8) (h : (readTag s bad).2 = false) : readTag (s ++ t) bad = ((readTag s bad).1 ++ t, false) ∧ 10 ∈ s ∧ bad = false := by
  unfold readTag at h ⊢
  have h1 : (which sFrom (ref sTag1 s bad).2.1 (ref sTag1 s bad).2.2).2 = false := by
    cases hb : (which sFrom (ref sTag1 s bad).2.1 (ref sTag1 s bad).2.2).2 with
    | false => rfl
    | true => rw [hb, data_bad] at h; cases h
  have h2 : (ref sTag1 s bad).2.2 = false := by
    cases hb : (ref sTag1 s bad).2.2 with
    | false => rfl
    | true => rw [hb, which_bad] at h1; cases h1
  refine ⟨?_, ref_good h2⟩
  rw [ref_ext t h2]
  generalize (ref sTag1 s bad).2 = x at *
  obtain ⟨x0, x1⟩ := x
  simp only at *
  subst h2
  rw [which_ext t h1]
  generalize which sFrom x0 false = y at *
  obtain ⟨y0, y1⟩ := y
  simp only at *
  subst h1
  exact data_ext t h

theorem readReset_ext {s : List UInt8} {bad : Bool} (t : List UInt8) (h : (readReset s bad).2 = false) : readReset (s ++ t) bad = ((readReset s bad).1 ++ t, false) ∧ 10 ∈ s ∧ bad = false := by
  unfold readReset at h ⊢
  have h0 : 10 ∈ (fromOr (ref sReset1 s bad).2.1 (ref sReset1 s bad).2.2).1 ∧ (fromOr (ref sReset1 s bad).2.1 (ref sReset1 s bad).2.2).2 = false := by
    unfold exactly at h; exact line_good (need_good h).2
  obtain ⟨h10, h1⟩ := h0
  have h2 : (ref sReset1 s bad).2.2 = false := by
    cases hb : (ref sReset1 s bad).2.2 with
    | false => rfl
    | true => rw [hb, fromOr_bad] at h1; cases h1
  refine ⟨?_, ref_good h2⟩
  rw [ref_ext t h2]
  generalize (ref sReset1 s bad).2 = x at *
  obtain ⟨x0, x1⟩ := x
  simp only at *
  subst h2
  rw [fromOr_ext t (fromOr_mem h10) h1]
  generalize fromOr x0 false = y at *
  obtain ⟨y0, y1⟩ := y
  simp only at *
  subst h1
  exact exactly_ext t h

/-- The head of a commit: up to its message. -/
def commitA (s : List UInt8) (bad : Bool) : List UInt8 × Bool :=
  thn (thn (thn (ref sCommit1 s bad).2 (fun s b => (rmark s b).2)) author) (fun s b => (data s b).2)
/-- The rest of it. -/
def commitB (s : List UInt8) (bad : Bool) : List UInt8 × Bool := thn (thn (fromOr s bad) merges) changes

theorem readCommit_eq (s : List UInt8) (bad : Bool) : readCommit s bad = commitB (commitA s bad).1 (commitA s bad).2 := by
  unfold readCommit commitA commitB; simp only [thn]

theorem commitB_bad (s : List UInt8) : (commitB s true).2 = true := by
  unfold commitB; simp only [thn]; rw [fromOr_bad, merges_bad]; exact changes_bad _

theorem commitA_ext {s : List UInt8} {bad : Bool} (t : List UInt8) (h : (commitA s bad).2 = false) : commitA (s ++ t) bad = ((commitA s bad).1 ++ t, false) ∧ 10 ∈ s ∧ bad = false := by
  unfold commitA at h ⊢
  simp only [thn] at h ⊢
  have h2 : (ref sCommit1 s bad).2.2 = false := by
    cases hb : (ref sCommit1 s bad).2.2 with
    | false => rfl
    | true => rw [hb, rmark_bad, author_bad, data_bad] at h; cases h
  refine ⟨?_, ref_good h2⟩
  rw [ref_ext t h2]
  generalize (ref sCommit1 s bad).2 = x at *
  obtain ⟨x0, x1⟩ := x
  simp only at *
  subst h2
  have h3 : (rmark x0 false).2.2 = false := by
    cases hb : (rmark x0 false).2.2 with
    | false => rfl
    | true => rw [hb, author_bad, data_bad] at h; cases h
  rw [rmark_ext t h3]
  generalize (rmark x0 false).2 = y at *
  obtain ⟨y0, y1⟩ := y
  simp only at *
  subst h3
  have h4 : (author y0 false).2 = false := by
    cases hb : (author y0 false).2 with
    | false => rfl
    | true => rw [hb, data_bad] at h; cases h
  rw [author_ext t h4]
  generalize author y0 false = z at *
  obtain ⟨z0, z1⟩ := z
  simp only at *
  subst h4
  exact data_ext t h

theorem commitB_ext {s : List UInt8} {bad : Bool} (t : List UInt8) (h : (commitB s bad).2 = false) : commitB (s ++ t) bad = ((commitB s bad).1 ++ t, false) ∧ bad = false := by
  have hbad : bad = false := by
    cases bad with
    | false => rfl
    | true => rw [commitB_bad] at h; cases h
  refine ⟨?_, hbad⟩
  subst hbad
  unfold commitB at h ⊢
  simp only [thn] at h ⊢
  obtain ⟨hc, h10⟩ := changes_ext t h
  have h1 : (merges (fromOr s false).1 (fromOr s false).2).2 = false := by
    cases hb : (merges (fromOr s false).1 (fromOr s false).2).2 with
    | false => rfl
    | true => rw [hb, changes_bad] at h; cases h
  have h2 : (fromOr s false).2 = false := by
    cases hb : (fromOr s false).2 with
    | false => rfl
    | true => rw [hb, merges_bad] at h1; cases h1
  have h11 := merges_mem h10
  rw [fromOr_ext t (fromOr_mem h11) h2]
  generalize fromOr s false = x at *
  obtain ⟨x0, x1⟩ := x
  simp only at *
  subst h2
  rw [merges_ext t h10 h1]
  generalize merges x0 false = y at *
  obtain ⟨y0, y1⟩ := y
  simp only at *
  subst h1
  exact hc

theorem readCommit_ext {s : List UInt8} {bad : Bool} (t : List UInt8) (h : (readCommit s bad).2 = false) : readCommit (s ++ t) bad = ((readCommit s bad).1 ++ t, false) ∧ 10 ∈ s ∧ bad = false := by
  rw [readCommit_eq] at h ⊢
  obtain ⟨_, h1⟩ := commitB_ext t h
  obtain ⟨h2, h3⟩ := commitA_ext t h1
  refine ⟨?_, h3⟩
  rw [readCommit_eq, h2]
  generalize commitA s bad = x at *
  obtain ⟨x0, x1⟩ := x
  simp only at *
  subst h1
  exact (commitB_ext t h).1

theorem word_app {s : List UInt8} (t : List UInt8) (h : 10 ∈ s) : word (s ++ t) = word s := by
  unfold word; rw [cut_app t h]

theorem readOne_ext {s : List UInt8} {bad : Bool} (t : List UInt8) (h : (readOne s bad).2 = false) : readOne (s ++ t) bad = ((readOne s bad).1 ++ t, false) ∧ 10 ∈ s ∧ bad = false := by
  have hm : 10 ∈ s ∧ bad = false := by
    unfold readOne at h
    split at h
    · exact (readBlob_ext t h).2
    · split at h
      · exact (readCommit_ext t h).2
      · split at h
        · exact (readTag_ext t h).2
        · split at h
          · exact (readReset_ext t h).2
          · cases h
  refine ⟨?_, hm⟩
  unfold readOne at h ⊢
  rw [word_app t hm.1]
  split at h
  · rename_i e; rw [if_pos e, if_pos e]; exact (readBlob_ext t h).1
  · rename_i e
    rw [if_neg e, if_neg e]
    split at h
    · rename_i e; rw [if_pos e, if_pos e]; exact (readCommit_ext t h).1
    · rename_i e
      rw [if_neg e, if_neg e]
      split at h
      · rename_i e; rw [if_pos e, if_pos e]; exact (readTag_ext t h).1
      · rename_i e
        rw [if_neg e, if_neg e]
        split at h
        · rename_i e; rw [if_pos e, if_pos e]; exact (readReset_ext t h).1
        · cases h

theorem readAllF_ge : ∀ (f : Nat) (s : List UInt8) (bad : Bool) (n : Nat), n ≤ (readAllF f s bad n).1 := by
  intro f
  induction f with
  | zero => intro s bad n; exact Nat.le_refl _
  | succ f ih =>
    intro s bad n
    unfold readAllF
    split
    · exact Nat.le_refl _
    · split
      · exact Nat.le_refl _
      · exact Nat.le_trans (Nat.le_succ _) (ih _ _ _)

theorem readAllF_ext (t : List UInt8) : ∀ (f : Nat) (s : List UInt8) (n : Nat), (s ++ t).length < f →
    (readAllF f s false n).1 ≤ (readAllF f (s ++ t) false n).1 ∧
    ((readAllF f s false n).2.2 = false → readAllF f (s ++ t) false n = ((readAllF f s false n).1, (readAllF f s false n).2.1 ++ t, false)) := by
  intro f
  induction f with
  | zero => intro s n h; omega
  | succ f ih =>
    intro s n hf
    cases hw : (word s == sDone) with
    | true =>
      have e1 := readAllF_done f s false n hw
      rw [e1]
      refine ⟨readAllF_ge _ _ _ _, fun hg => ?_⟩
      simp only at hg
      have h10 : 10 ∈ s := by unfold exactly at hg; exact (line_good (need_good hg).2).1
      rw [readAllF_done f (s ++ t) false n (by rw [word_app t h10]; exact hw), exactly_ext t hg]
    | false =>
      cases hr : (readOne s false).2 with
      | true =>
        have e1 := readAllF_bad f s false n hw hr
        rw [e1]
        refine ⟨readAllF_ge _ _ _ _, fun hg => ?_⟩
        simp only at hg
        rw [hr] at hg; cases hg
      | false =>
        obtain ⟨h1, h10, _⟩ := readOne_ext t hr
        have hl := readOne_lt' s false hr
        unfold readAllF
        rw [word_app t h10, hw, h1, hr]
        simp only [Bool.false_eq_true, if_false]
        exact ih _ _ (by simp only [List.length_append] at hf ⊢; omega)

theorem readAll_ext (s t : List UInt8) :
    (readAll s).1 ≤ (readAll (s ++ t)).1 ∧ ((readAll s).2.2 = false → readAll (s ++ t) = ((readAll s).1, (readAll s).2.1 ++ t, false)) := by
  have h := readAllF_ext t ((s ++ t).length + 1) s 0 (by omega)
  have hf : readAllF ((s ++ t).length + 1) s false 0 = readAll s := readAllF_fuel _ _ _ _ _ (by simp; omega) (by omega)
  rw [hf] at h
  exact h

end Pu
end Go.Proofs.YtepgoppgblfjbaaGreatDoor

/- The streams that the statement writes, and that they are streams. -/
namespace Go.Proofs.YtepgoppgblfjbaaGreatDoor
namespace Pu

def refsL : List (List UInt8) := [[109, 97, 105, 110], [115, 105, 100, 101], [120, 47, 121]]
def pathsL : List (List UInt8) := [[97], [97, 47, 98], [97, 47, 98, 47, 99], [100], [100, 47, 101], [102, 46, 120], [102]]
/-- A number below 100 in decimal digits. -/
def dig (n : Nat) : List UInt8 := if n < 10 then [UInt8.ofNat (48 + n)] else [UInt8.ofNat (48 + n / 10), UInt8.ofNat (48 + n % 10)]
/-- A change: kB: its kind (of ten); p, q: the paths; d: the data (of thirty). -/
def changeS (kB : Nat) (p q : List UInt8) (d : Nat) : List UInt8 :=
  if kB = 6 then [68, 32] ++ p ++ [10]
  else if kB = 7 then [67, 32] ++ p ++ [32] ++ q ++ [10]
  else if kB = 8 then [82, 32] ++ p ++ [32] ++ q ++ [10]
  else if kB = 9 then [100, 101, 108, 101, 116, 101, 97, 108, 108, 10]
  else [77, 32] ++ (if d % 5 = 4 then s755 else s644) ++ [32, 105, 110, 108, 105, 110, 101, 32] ++ p ++ [10, 100, 97, 116, 97, 32] ++ dig (dig d).length ++ [10] ++ dig d ++ [10]
def headS (r : List UInt8) (n : Nat) : List UInt8 :=
  [99, 111, 109, 109, 105, 116, 32] ++ r ++ [10, 109, 97, 114, 107, 32, 58] ++ dig n ++ [10, 97, 117, 116, 104, 111, 114, 32, 65, 32, 66, 32, 60, 97, 64, 98, 62, 32] ++ dig n ++ [10, 100, 97, 116, 97, 32, 49, 10, 109, 10]
/-- A command: k: its kind (of nine); r, o: the refs; n: its mark; t: the tag's number; c: the change. -/
def commandS (k : Nat) (r o : List UInt8) (n t : Nat) (c : List UInt8) : List UInt8 :=
  if k < 6 then headS r n ++ c ++ [10]
  else if k = 6 then [114, 101, 115, 101, 116, 32] ++ r ++ [10, 102, 114, 111, 109, 32] ++ o ++ [10, 10]
  else if k = 7 then [116, 97, 103, 32, 116] ++ dig t ++ [10, 102, 114, 111, 109, 32] ++ o ++ [10, 100, 97, 116, 97, 32, 48, 10, 10]
  else headS r n ++ [109, 101, 114, 103, 101, 32] ++ o ++ [10, 10]

theorem heads_ok : (refsL.all fun r => (List.range 12).all fun n => commitA (headS r (n + 1)) false == ([], false)) = true := by kernel_rfl
theorem words_ok : (refsL.all fun r => (List.range 12).all fun n => word (headS r (n + 1)) == sCommit) = true := by kernel_rfl
theorem resets_ok : (refsL.all fun r => refsL.all fun o => readOne ([114, 101, 115, 101, 116, 32] ++ r ++ [10, 102, 114, 111, 109, 32] ++ o ++ [10, 10]) false == ([], false)) = true := by kernel_rfl
theorem tags_ok : ((List.range 3).all fun t => refsL.all fun o => readOne ([116, 97, 103, 32, 116] ++ dig t ++ [10, 102, 114, 111, 109, 32] ++ o ++ [10, 100, 97, 116, 97, 32, 48, 10, 10]) false == ([], false)) = true := by kernel_rfl
theorem merges_ok : (refsL.all fun o => commitB ([109, 101, 114, 103, 101, 32] ++ o ++ [10, 10]) false == ([], false)) = true := by kernel_rfl
theorem dels_ok : (pathsL.all fun p => commitB (changeS 6 p [] 0 ++ [10]) false == ([], false)) = true := by kernel_rfl
theorem copies_ok : (pathsL.all fun p => pathsL.all fun q => commitB (changeS 7 p q 0 ++ [10]) false == ([], false)) = true := by kernel_rfl
theorem moves_ok : (pathsL.all fun p => pathsL.all fun q => commitB (changeS 8 p q 0 ++ [10]) false == ([], false)) = true := by kernel_rfl
theorem all_ok : (commitB (changeS 9 [] [] 0 ++ [10]) false == ([], false)) = true := by kernel_rfl
theorem puts_ok : (pathsL.all fun p => (List.range 30).all fun d => commitB (changeS 0 p [] d ++ [10]) false == ([], false)) = true := by kernel_rfl

end Pu
end Go.Proofs.YtepgoppgblfjbaaGreatDoor

/- The statement's streams are streams; what Check says of their beginnings. -/
namespace Go.Proofs.YtepgoppgblfjbaaGreatDoor
namespace Pu

theorem heads_len : (refsL.all fun r => (List.range 12).all fun n => decide ((headS r (n + 1)).length ≤ 100)) = true := by kernel_rfl
theorem resets_len : (refsL.all fun r => refsL.all fun o => decide (([114, 101, 115, 101, 116, 32] ++ r ++ [10, 102, 114, 111, 109, 32] ++ o ++ [10, 10]).length ≤ 100) && !(word ([114, 101, 115, 101, 116, 32] ++ r ++ [10, 102, 114, 111, 109, 32] ++ o ++ [10, 10]) == sDone)) = true := by kernel_rfl
theorem tags_len : ((List.range 3).all fun t => refsL.all fun o => decide (([116, 97, 103, 32, 116] ++ dig t ++ [10, 102, 114, 111, 109, 32] ++ o ++ [10, 100, 97, 116, 97, 32, 48, 10, 10]).length ≤ 100) && !(word ([116, 97, 103, 32, 116] ++ dig t ++ [10, 102, 114, 111, 109, 32] ++ o ++ [10, 100, 97, 116, 97, 32, 48, 10, 10]) == sDone)) = true := by kernel_rfl
theorem merges_len : (refsL.all fun o => decide (([109, 101, 114, 103, 101, 32] ++ o ++ [10, 10]).length ≤ 100)) = true := by kernel_rfl
theorem dels_len : (pathsL.all fun p => decide ((changeS 6 p [] 0 ++ [10]).length ≤ 100)) = true := by kernel_rfl
theorem copies_len : (pathsL.all fun p => pathsL.all fun q => decide ((changeS 7 p q 0 ++ [10]).length ≤ 100)) = true := by kernel_rfl
theorem moves_len : (pathsL.all fun p => pathsL.all fun q => decide ((changeS 8 p q 0 ++ [10]).length ≤ 100)) = true := by kernel_rfl
theorem puts_len : (pathsL.all fun p => (List.range 30).all fun d => decide ((changeS 0 p [] d ++ [10]).length ≤ 100)) = true := by kernel_rfl

/-- A text that is one command. -/
structure Good (c : List UInt8) : Prop where
  read : readOne c false = ([], false)
  word : (word c == sDone) = false
  len : c.length ≤ 200

theorem commit_good (r : List UInt8) (n : Nat) (x : List UInt8) (hr : r ∈ refsL) (hn : 1 ≤ n ∧ n ≤ 12) (hx : commitB x false = ([], false)) (hl : x.length ≤ 100) : Good (headS r n ++ x) := by
  obtain ⟨k, rfl⟩ : ∃ k, n = k + 1 := ⟨n - 1, by omega⟩
  have hk : k ∈ List.range 12 := List.mem_range.2 (by omega)
  have h1 : commitA (headS r (k + 1)) false = ([], false) := beq_iff_eq.1 (List.all_eq_true.1 (List.all_eq_true.1 heads_ok r hr) k hk)
  have h2 : word (headS r (k + 1)) = sCommit := beq_iff_eq.1 (List.all_eq_true.1 (List.all_eq_true.1 words_ok r hr) k hk)
  have h3 : (headS r (k + 1)).length ≤ 100 := of_decide_eq_true (List.all_eq_true.1 (List.all_eq_true.1 heads_len r hr) k hk)
  obtain ⟨h4, h10, _⟩ := commitA_ext x (s := headS r (k + 1)) (bad := false) (by rw [h1])
  have hw : word (headS r (k + 1) ++ x) = sCommit := by rw [word_app x h10]; exact h2
  refine ⟨?_, ?_, ?_⟩
  · unfold readOne
    rw [hw]
    have e1 : (sCommit == sBlob) = false := by decide
    have e2 : (sCommit == sCommit) = true := by decide
    rw [e1, e2]
    simp only [Bool.false_eq_true, if_false, if_true]
    rw [readCommit_eq, h4, h1]
    exact hx
  · rw [hw]; decide
  · rw [List.length_append]; omega

theorem changeS_irrel (p q : List UInt8) (d : Nat) : changeS 6 p q d = changeS 6 p [] 0 ∧ changeS 7 p q d = changeS 7 p q 0 ∧ changeS 8 p q d = changeS 8 p q 0 ∧ changeS 9 p q d = changeS 9 [] [] 0 := ⟨rfl, rfl, rfl, rfl⟩

theorem changeS_put (kB : Nat) (p q : List UInt8) (d : Nat) (h : kB < 6) : changeS kB p q d = changeS 0 p [] d := by
  unfold changeS
  rw [if_neg (by omega), if_neg (by omega), if_neg (by omega), if_neg (by omega)]
  simp

theorem change_good (kB : Nat) (p q : List UInt8) (d : Nat) (hB : kB < 10) (hp : p ∈ pathsL) (hq : q ∈ pathsL) (hd : d < 30) :
    commitB (changeS kB p q d ++ [10]) false = ([], false) ∧ (changeS kB p q d ++ [10]).length ≤ 100 := by
  by_cases h6 : kB < 6
  · rw [changeS_put kB p q d h6]
    have hk : d ∈ List.range 30 := List.mem_range.2 hd
    exact ⟨beq_iff_eq.1 (List.all_eq_true.1 (List.all_eq_true.1 puts_ok p hp) d hk), of_decide_eq_true (List.all_eq_true.1 (List.all_eq_true.1 puts_len p hp) d hk)⟩
  have hc : kB = 6 ∨ kB = 7 ∨ kB = 8 ∨ kB = 9 := by omega
  obtain ⟨i6, i7, i8, i9⟩ := changeS_irrel p q d
  rcases hc with rfl | rfl | rfl | rfl
  · rw [i6]; exact ⟨beq_iff_eq.1 (List.all_eq_true.1 dels_ok p hp), of_decide_eq_true (List.all_eq_true.1 dels_len p hp)⟩
  · rw [i7]; exact ⟨beq_iff_eq.1 (List.all_eq_true.1 (List.all_eq_true.1 copies_ok p hp) q hq), of_decide_eq_true (List.all_eq_true.1 (List.all_eq_true.1 copies_len p hp) q hq)⟩
  · rw [i8]; exact ⟨beq_iff_eq.1 (List.all_eq_true.1 (List.all_eq_true.1 moves_ok p hp) q hq), of_decide_eq_true (List.all_eq_true.1 (List.all_eq_true.1 moves_len p hp) q hq)⟩
  · rw [i9]; exact ⟨beq_iff_eq.1 all_ok, by decide⟩

theorem command_good (k : Nat) (r o : List UInt8) (n t : Nat) (c : List UInt8) (hr : r ∈ refsL) (ho : o ∈ refsL) (hn : 1 ≤ n ∧ n ≤ 12) (ht : t < 3)
    (hc : commitB (c ++ [10]) false = ([], false) ∧ (c ++ [10]).length ≤ 100) : Good (commandS k r o n t c) := by
  unfold commandS
  split
  · rw [List.append_assoc]; exact commit_good r n _ hr hn hc.1 hc.2
  · split
    · have h1 := List.all_eq_true.1 (List.all_eq_true.1 resets_ok r hr) o ho
      have h2 := List.all_eq_true.1 (List.all_eq_true.1 resets_len r hr) o ho
      simp only [Bool.and_eq_true, Bool.not_eq_true', decide_eq_true_eq] at h2
      exact ⟨beq_iff_eq.1 h1, h2.2, Nat.le_trans h2.1 (by omega)⟩
    · split
      · have h1 := List.all_eq_true.1 (List.all_eq_true.1 tags_ok t (List.mem_range.2 ht)) o ho
        have h2 := List.all_eq_true.1 (List.all_eq_true.1 tags_len t (List.mem_range.2 ht)) o ho
        simp only [Bool.and_eq_true, Bool.not_eq_true', decide_eq_true_eq] at h2
        exact ⟨beq_iff_eq.1 h1, h2.2, Nat.le_trans h2.1 (by omega)⟩
      · rw [List.append_assoc, List.append_assoc]
        have h1 := beq_iff_eq.1 (List.all_eq_true.1 merges_ok o ho)
        have h2 := of_decide_eq_true (List.all_eq_true.1 merges_len o ho)
        rw [List.append_assoc] at h1 h2
        exact commit_good r n _ hr hn h1 h2

/-- A stream of commands. -/
def streamS (cs : List (List UInt8)) : List UInt8 := cs.flatten ++ [100, 111, 110, 101, 10]

theorem done_word : (word [100, 111, 110, 101, 10] == sDone) = true := by decide

theorem readAllF_stream : ∀ (cs : List (List UInt8)) (f n : Nat), (∀ c ∈ cs, Good c) → (streamS cs).length < f → readAllF f (streamS cs) false n = (n + cs.length, [], false) := by
  intro cs
  induction cs with
  | nil =>
    intro f n _ hf
    cases f with
    | zero => omega
    | succ f =>
      have e : streamS [] = [100, 111, 110, 101, 10] := rfl
      rw [e, readAllF_done f _ false n done_word]
      rfl
  | cons c cs ih =>
    intro f n hg hf
    have hc := hg c (List.mem_cons_self ..)
    have e : streamS (c :: cs) = c ++ streamS cs := by simp [streamS]
    cases f with
    | zero => omega
    | succ f =>
      obtain ⟨h1, h10, _⟩ := readOne_ext (streamS cs) (s := c) (bad := false) (by rw [hc.read])
      rw [hc.read] at h1
      simp only [List.nil_append] at h1
      have hlen : 0 < c.length := List.length_pos_iff.2 (by intro e2; subst e2; simp at h10)
      rw [e] at hf ⊢
      unfold readAllF
      rw [word_app _ h10, hc.word, h1]
      simp only [Bool.false_eq_true, if_false]
      rw [ih f (n + 1) (fun c hc => hg c (List.mem_cons_of_mem _ hc)) (by simp only [List.length_append] at hf; omega)]
      simp only [List.length_cons]
      rw [Nat.add_assoc, Nat.add_comm 1]

theorem readAll_stream (cs : List (List UInt8)) (h : ∀ c ∈ cs, Good c) : readAll (streamS cs) = (cs.length, [], false) := by
  unfold readAll
  rw [readAllF_stream cs _ 0 h (by omega), Nat.zero_add]

theorem stream_len : ∀ (cs : List (List UInt8)), (∀ c ∈ cs, Good c) → cs.flatten.length ≤ 200 * cs.length := by
  intro cs
  induction cs with
  | nil => intro _; simp
  | cons c cs ih =>
    intro h
    have h1 := (h c (List.mem_cons_self ..)).len
    have h2 := ih (fun c hc => h c (List.mem_cons_of_mem _ hc))
    simp only [List.flatten_cons, List.length_append, List.length_cons]
    omega

theorem check_ok (s : List UInt8) (n : Nat) (h : readAll s = (n, [], false)) (hn : n ≤ 60) (hl : s.length ≤ 8000) : check s = ((n : Int), 0) := by
  unfold check
  rw [if_neg (by omega), h]
  simp [hn]

theorem check_cut (p t : List UInt8) (n : Nat) (h : readAll (p ++ t) = (n, [], false)) (hl : (p ++ t).length ≤ 8000) (ht : t ≠ []) :
    check p = (((readAll p).1 : Int) + 1, 1) ∧ (readAll p).1 ≤ n := by
  obtain ⟨h1, h2⟩ := readAll_ext p t
  rw [h] at h1 h2
  refine ⟨?_, h1⟩
  have hb : (readAll p).2.2 = true := by
    cases hb : (readAll p).2.2 with
    | true => rfl
    | false =>
      have h3 := h2 hb
      simp only [Prod.mk.injEq] at h3
      exact absurd (List.append_eq_nil_iff.1 h3.2.1.symm).2 ht
  simp only [List.length_append] at hl
  unfold check
  rw [if_neg (by omega), hb]
  simp

theorem check_more (s t : List UInt8) (n : Nat) (h : readAll s = (n, [], false)) (hl : (s ++ t).length ≤ 8000) (ht : t ≠ []) : (check (s ++ t)).2 = 1 := by
  obtain ⟨_, h2⟩ := readAll_ext s t
  rw [h] at h2
  have h3 := h2 rfl
  simp only [List.nil_append] at h3
  unfold check
  rw [if_neg (by omega), h3]
  simp [ht]

/-- The statement itself, of texts. -/
theorem cut_main (s : List UInt8) (n c : Nat) (h : readAll s = (n, [], false)) (hn : n ≤ 60) (hl : s.length < 8000) (hc : c < s.length) :
    check s = ((n : Int), 0) ∧ (check (s.take c)).2 = 1 ∧ 1 ≤ (check (s.take c)).1 ∧ (check (s.take c)).1 ≤ n + 1 ∧
    ((check (s.take (c + 1))).2 = 0 ∨ ((check (s.take (c + 1))).2 = 1 ∧ (check (s.take c)).1 ≤ (check (s.take (c + 1))).1)) ∧ (check (s ++ [120])).2 = 1 := by
  have e0 : s.take c ++ s.drop c = s := List.take_append_drop c s
  have hd : s.drop c ≠ [] := by intro e; have := congrArg List.length e; simp at this; omega
  obtain ⟨h1, h2⟩ := check_cut (s.take c) (s.drop c) n (by rw [e0]; exact h) (by rw [e0]; omega) hd
  refine ⟨check_ok s n h hn (by omega), by rw [h1], by rw [h1]; simp only; omega, by rw [h1]; simp only; omega, ?_, check_more s [120] n h (by simp; omega) (by simp)⟩
  by_cases hlast : c + 1 = s.length
  · left
    rw [List.take_of_length_le (by omega), check_ok s n h hn (by omega)]
  · right
    have e1 : s.take (c + 1) ++ s.drop (c + 1) = s := List.take_append_drop (c + 1) s
    have hd1 : s.drop (c + 1) ≠ [] := by intro e; have := congrArg List.length e; simp at this; omega
    obtain ⟨h3, _⟩ := check_cut (s.take (c + 1)) (s.drop (c + 1)) n (by rw [e1]; exact h) (by rw [e1]; omega) hd1
    rw [h1, h3]
    refine ⟨rfl, ?_⟩
    obtain ⟨h4, _⟩ := readAll_ext (s.take c) [s[c]]
    rw [← List.take_succ_eq_append_getElem hc] at h4
    simp only
    omega

end Pu
end Go.Proofs.YtepgoppgblfjbaaGreatDoor
