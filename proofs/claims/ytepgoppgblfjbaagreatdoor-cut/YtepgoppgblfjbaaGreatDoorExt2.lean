/- More text behind a text: whole commands, and whole streams. -/
import Derived.Test.YtepgoppgblfjbaaGreatDoorExt
namespace Go.Proofs.YtepgoppgblfjbaaGreatDoor
namespace Pu

/- What is left was there. -/
theorem need_mem {ok : Bool} {s : List UInt8} {bad : Bool} {x : UInt8} (h : x ∈ (need ok s bad).1) : x ∈ s := by
  unfold need at h; split at h
  · exact h
  · simp at h
theorem line_mem {s : List UInt8} {bad : Bool} {x : UInt8} (h : x ∈ (line s bad).2.1) : x ∈ s := by
  unfold line Lib.cut at h
  split at h
  · split at h
    · exact List.mem_of_mem_drop h
    · simp at h
  · simp at h
theorem after_mem {hd s : List UInt8} {bad : Bool} {x : UInt8} (h : x ∈ (after hd s bad).2.1) : x ∈ s := by
  unfold after at h; exact line_mem (need_mem h)
theorem which_mem {hd s : List UInt8} {bad : Bool} {x : UInt8} (h : x ∈ (which hd s bad).1) : x ∈ s := by
  unfold which at h; split at h
  · exact after_mem h
  · exact after_mem (need_mem h)
theorem fromOr_mem {s : List UInt8} {bad : Bool} {x : UInt8} (h : x ∈ (fromOr s bad).1) : x ∈ s := by
  unfold fromOr at h; split at h
  · exact which_mem h
  · exact h
theorem mergesF_mem {x : UInt8} : ∀ (f : Nat) (s : List UInt8) (bad : Bool) (n : Nat), x ∈ (mergesF f s bad n).2.1 → x ∈ s := by
  intro f
  induction f with
  | zero => intro s bad n h; exact h
  | succ f ih =>
    intro s bad n h
    unfold mergesF at h; split at h
    · exact which_mem (ih _ _ _ h)
    · exact h
theorem merges_mem {s : List UInt8} {bad : Bool} {x : UInt8} (h : x ∈ (merges s bad).1) : x ∈ s := by
  unfold merges at h; exact mergesF_mem _ _ _ _ (need_mem h)

theorem fromOr_ext {s : List UInt8} {bad : Bool} (t : List UInt8) (h10 : 10 ∈ s) (h : (fromOr s bad).2 = false) : fromOr (s ++ t) bad = ((fromOr s bad).1 ++ t, false) := by
  have hp := prefix_app t h10 (p := sFrom) (by decide)
  unfold fromOr at h ⊢
  rw [hp]
  split at h
  · rename_i e
    rw [if_pos e, if_pos e]; exact which_ext t h
  · rename_i e
    rw [if_neg e, if_neg e]; simp only at h; rw [h]

theorem mergesF_ext (t : List UInt8) : ∀ (f : Nat) (s : List UInt8) (bad : Bool) (n : Nat), 10 ∈ (mergesF f s bad n).2.1 → (mergesF f s bad n).2.2 = false →
    mergesF f (s ++ t) bad n = ((mergesF f s bad n).1, (mergesF f s bad n).2.1 ++ t, false) := by
  intro f
  induction f with
  | zero => intro s bad n _ h; unfold mergesF at h ⊢; simp only at h; rw [h]
  | succ f ih =>
    intro s bad n h10 h
    have h11 := mergesF_mem _ _ _ _ h10
    have hp := prefix_app t h11 (p := sMerge) (by decide)
    unfold mergesF at h h10 ⊢
    rw [hp]
    split at h
    · rename_i e
      rw [if_pos e] at h10
      rw [if_pos e, if_pos e]
      have hw : (which sMerge s bad).2 = false := by
        cases hb : (which sMerge s bad).2 with
        | false => rfl
        | true => rw [hb, mergesF_bad] at h; cases h
      rw [which_ext t hw]
      simp only
      rw [hw] at h h10 ⊢
      exact ih _ _ _ h10 h
    · rename_i e
      rw [if_neg e, if_neg e]
      simp only at h
      rw [h]

theorem merges_ext {s : List UInt8} {bad : Bool} (t : List UInt8) (h10 : 10 ∈ (merges s bad).1) (h : (merges s bad).2 = false) : merges (s ++ t) bad = ((merges s bad).1 ++ t, false) := by
  unfold merges at h h10
  obtain ⟨h1, h2⟩ := need_good h
  have h11 := need_mem h10
  have hf : mergesF (s ++ t).length s bad 0 = mergesF s.length s bad 0 := mergesF_fuel _ _ _ _ _ (by simp) (Nat.le_refl _)
  have h3 := mergesF_ext t (s ++ t).length s bad 0 (by rw [hf]; exact h11) (by rw [hf]; exact h2)
  rw [hf] at h3
  unfold merges
  rw [h3]
  simp only
  rw [h1]
  simp [need]

theorem content_ext {f s : List UInt8} {bad : Bool} (t : List UInt8) (h : (content f s bad).2 = false) : content f (s ++ t) bad = ((content f s bad).1 ++ t, false) := by
  unfold content at h ⊢
  split at h
  · rename_i e
    rw [if_pos e, if_pos e]; exact data_ext t h
  · rename_i e
    rw [if_neg e, if_neg e]
    obtain ⟨h1, h2⟩ := need_good h
    rw [h1, h2]; simp [need]

theorem need_ext {ok : Bool} {s : List UInt8} {bad : Bool} (t : List UInt8) (h : (need ok s bad).2 = false) : need ok (s ++ t) bad = ((need ok s bad).1 ++ t, false) := by
  obtain ⟨h1, h2⟩ := need_good h
  rw [h1, h2]; simp [need]

theorem changeM_ext {f1 f2 f3 s : List UInt8} {bad : Bool} (t : List UInt8) (h : (changeM f1 f2 f3 s bad).2 = false) : changeM f1 f2 f3 (s ++ t) bad = ((changeM f1 f2 f3 s bad).1 ++ t, false) := by
  have h2 : (need (isPath f3) (need (f1 == s644 || f1 == s755) s bad).1 (need (f1 == s644 || f1 == s755) s bad).2).2 = false := by
    cases hb : (need (isPath f3) (need (f1 == s644 || f1 == s755) s bad).1 (need (f1 == s644 || f1 == s755) s bad).2).2 with
    | false => rfl
    | true => unfold changeM at h; rw [hb, content_bad] at h; cases h
  have h1 := (need_good h2).2
  unfold changeM at h ⊢
  have e1 := need_ext t h1
  rw [e1]
  simp only
  have e2 : need (isPath f3) ((need (f1 == s644 || f1 == s755) s bad).1 ++ t) false = ((need (isPath f3) (need (f1 == s644 || f1 == s755) s bad).1 (need (f1 == s644 || f1 == s755) s bad).2).1 ++ t, false) := by
    rw [h1] at h2 ⊢; exact need_ext t h2
  rw [e2]
  simp only
  rw [h2] at h ⊢
  exact content_ext t h

theorem change_ext {l s : List UInt8} {bad : Bool} (t : List UInt8) (h : (change l s bad).2 = false) : change l (s ++ t) bad = ((change l s bad).1 ++ t, false) := by
  unfold change at h ⊢
  split at h
  · split at h
    · rename_i e; rw [if_pos e, if_pos e]; exact changeM_ext t h
    · rename_i e; rw [if_neg e, if_neg e]; exact need_ext t h
  · split at h
    · rename_i e; rw [if_pos e, if_pos e]; exact need_ext t h
    · rename_i e; rw [if_neg e, if_neg e]; exact need_ext t h
  · split at h
    · rename_i e
      rw [if_pos e, if_pos e]
      have h1 := (need_good h).2
      rw [need_ext t h1]
      simp only
      rw [h1] at h ⊢
      exact need_ext t h
    · rename_i e; rw [if_neg e, if_neg e]; exact need_ext t h
  · exact need_ext t h

theorem changesF_ext (t : List UInt8) : ∀ (f : Nat) (l s : List UInt8) (bad : Bool) (n : Nat), (changesF f l s bad n).2.2 = false →
    changesF f l (s ++ t) bad n = ((changesF f l s bad n).1, (changesF f l s bad n).2.1 ++ t, false) := by
  intro f
  induction f with
  | zero => intro l s bad n h; unfold changesF at h ⊢; simp only at h; rw [h]
  | succ f ih =>
    intro l s bad n h
    unfold changesF at h ⊢
    split at h
    · rename_i e; rw [if_pos e, if_pos e]; simp only at h; rw [h]
    · rename_i e
      rw [if_neg e, if_neg e]
      have hl : (line (change l s bad).1 (change l s bad).2).2.2 = false := by
        cases hb : (line (change l s bad).1 (change l s bad).2).2.2 with
        | false => rfl
        | true => rw [hb, changesF_bad] at h; cases h
      obtain ⟨h10, hc⟩ := line_good hl
      rw [change_ext t hc]
      generalize change l s bad = x at *
      obtain ⟨x0, x1⟩ := x
      simp only at *
      subst hc
      rw [line_ext t h10 false]
      generalize line x0 false = y at *
      obtain ⟨y0, y1, y2⟩ := y
      simp only at *
      subst hl
      exact ih _ _ _ _ h

theorem changes_ext {s : List UInt8} {bad : Bool} (t : List UInt8) (h : (changes s bad).2 = false) : changes (s ++ t) bad = ((changes s bad).1 ++ t, false) ∧ 10 ∈ s := by
  have hl : (line s bad).2.2 = false := by
    cases hb : (line s bad).2.2 with
    | false => rfl
    | true => unfold changes at h; rw [hb, changesF_bad, need_bad] at h; cases h
  obtain ⟨h10, hb⟩ := line_good hl
  refine ⟨?_, h10⟩
  subst hb
  have hll := line_le s false
  have hx := line_ext t h10 false
  unfold changes at h ⊢
  rw [hx]
  generalize line s false = x at *
  obtain ⟨x0, x1, x2⟩ := x
  simp only at *
  subst hl
  obtain ⟨h1, h2⟩ := need_good h
  have hf := changesF_fuel ((s ++ t).length + 2) (s.length + 2) x0 x1 false 0 (by simp; omega) (by omega)
  have h3 := changesF_ext t ((s ++ t).length + 2) x0 x1 false 0 (by rw [hf]; exact h2)
  rw [h3, hf]
  generalize changesF (s.length + 2) x0 x1 false 0 = R at *
  simp only
  rw [h1]
  simp [need]

theorem readBlob_ext {s : List UInt8} {bad : Bool} (t : List UInt8) (h : (readBlob s bad).2 = false) : readBlob (s ++ t) bad = ((readBlob s bad).1 ++ t, false) ∧ 10 ∈ s ∧ bad = false := by
  unfold readBlob at h ⊢
  have h1 : (rmark (exactly sBlob s bad).1 (exactly sBlob s bad).2).2.2 = false := by
    cases hb : (rmark (exactly sBlob s bad).1 (exactly sBlob s bad).2).2.2 with
    | false => rfl
    | true => rw [hb, data_bad] at h; cases h
  have h2 : (exactly sBlob s bad).2 = false := by
    cases hb : (exactly sBlob s bad).2 with
    | false => rfl
    | true => rw [hb, rmark_bad] at h1; cases h1
  have h3 : 10 ∈ s ∧ bad = false := by
    unfold exactly at h2; exact line_good (need_good h2).2
  refine ⟨?_, h3⟩
  rw [exactly_ext t h2]
  generalize exactly sBlob s bad = x at *
  obtain ⟨x0, x1⟩ := x
  simp only at *
  subst h2
  rw [rmark_ext t h1]
  generalize (rmark x0 false).2 = y at *
  obtain ⟨y0, y1⟩ := y
  simp only at *
  subst h1
  exact data_ext t h

theorem ref_good {hd s : List UInt8} {bad : Bool} (h : (ref hd s bad).2.2 = false) : 10 ∈ s ∧ bad = false := by
  unfold ref at h; exact after_good (need_good h).2

theorem readTag_ext {s : List UInt8} {bad : Bool} (t : List UInt8) (h : (readTag s bad).2 = false) : readTag (s ++ t) bad = ((readTag s bad).1 ++ t, false) ∧ 10 ∈ s ∧ bad = false := by
  unfold readTag at h ⊢
  have h1 : (which sFrom (ref sTag1 s bad).2.1 (ref sTag1 s bad).2.2).2 = false := by
    cases hb : (which sFrom (ref sTag1 s bad).2.1 (ref sTag1 s bad).2.2).2 with
    | false => rfl
    | true => rw [hb, data_bad] at h; cases h
  have h2 : (ref sTag1 s bad).2.2 = false := by
    cases hb : (ref sTag1 s bad).2.2 with
    | false => rfl
    | true => rw [hb, which_bad] at h1; cases h1
  refine ⟨?_, ref_good h2⟩
  rw [ref_ext t h2]
  generalize (ref sTag1 s bad).2 = x at *
  obtain ⟨x0, x1⟩ := x
  simp only at *
  subst h2
  rw [which_ext t h1]
  generalize which sFrom x0 false = y at *
  obtain ⟨y0, y1⟩ := y
  simp only at *
  subst h1
  exact data_ext t h

theorem readReset_ext {s : List UInt8} {bad : Bool} (t : List UInt8) (h : (readReset s bad).2 = false) : readReset (s ++ t) bad = ((readReset s bad).1 ++ t, false) ∧ 10 ∈ s ∧ bad = false := by
  unfold readReset at h ⊢
  have h0 : 10 ∈ (fromOr (ref sReset1 s bad).2.1 (ref sReset1 s bad).2.2).1 ∧ (fromOr (ref sReset1 s bad).2.1 (ref sReset1 s bad).2.2).2 = false := by
    unfold exactly at h; exact line_good (need_good h).2
  obtain ⟨h10, h1⟩ := h0
  have h2 : (ref sReset1 s bad).2.2 = false := by
    cases hb : (ref sReset1 s bad).2.2 with
    | false => rfl
    | true => rw [hb, fromOr_bad] at h1; cases h1
  refine ⟨?_, ref_good h2⟩
  rw [ref_ext t h2]
  generalize (ref sReset1 s bad).2 = x at *
  obtain ⟨x0, x1⟩ := x
  simp only at *
  subst h2
  rw [fromOr_ext t (fromOr_mem h10) h1]
  generalize fromOr x0 false = y at *
  obtain ⟨y0, y1⟩ := y
  simp only at *
  subst h1
  exact exactly_ext t h

/-- The head of a commit: up to its message. -/
def commitA (s : List UInt8) (bad : Bool) : List UInt8 × Bool :=
  thn (thn (thn (ref sCommit1 s bad).2 (fun s b => (rmark s b).2)) author) (fun s b => (data s b).2)
/-- The rest of it. -/
def commitB (s : List UInt8) (bad : Bool) : List UInt8 × Bool := thn (thn (fromOr s bad) merges) changes

theorem readCommit_eq (s : List UInt8) (bad : Bool) : readCommit s bad = commitB (commitA s bad).1 (commitA s bad).2 := by
  unfold readCommit commitA commitB; simp only [thn]

theorem commitB_bad (s : List UInt8) : (commitB s true).2 = true := by
  unfold commitB; simp only [thn]; rw [fromOr_bad, merges_bad]; exact changes_bad _

theorem commitA_ext {s : List UInt8} {bad : Bool} (t : List UInt8) (h : (commitA s bad).2 = false) : commitA (s ++ t) bad = ((commitA s bad).1 ++ t, false) ∧ 10 ∈ s ∧ bad = false := by
  unfold commitA at h ⊢
  simp only [thn] at h ⊢
  have h2 : (ref sCommit1 s bad).2.2 = false := by
    cases hb : (ref sCommit1 s bad).2.2 with
    | false => rfl
    | true => rw [hb, rmark_bad, author_bad, data_bad] at h; cases h
  refine ⟨?_, ref_good h2⟩
  rw [ref_ext t h2]
  generalize (ref sCommit1 s bad).2 = x at *
  obtain ⟨x0, x1⟩ := x
  simp only at *
  subst h2
  have h3 : (rmark x0 false).2.2 = false := by
    cases hb : (rmark x0 false).2.2 with
    | false => rfl
    | true => rw [hb, author_bad, data_bad] at h; cases h
  rw [rmark_ext t h3]
  generalize (rmark x0 false).2 = y at *
  obtain ⟨y0, y1⟩ := y
  simp only at *
  subst h3
  have h4 : (author y0 false).2 = false := by
    cases hb : (author y0 false).2 with
    | false => rfl
    | true => rw [hb, data_bad] at h; cases h
  rw [author_ext t h4]
  generalize author y0 false = z at *
  obtain ⟨z0, z1⟩ := z
  simp only at *
  subst h4
  exact data_ext t h

theorem commitB_ext {s : List UInt8} {bad : Bool} (t : List UInt8) (h : (commitB s bad).2 = false) : commitB (s ++ t) bad = ((commitB s bad).1 ++ t, false) ∧ bad = false := by
  have hbad : bad = false := by
    cases bad with
    | false => rfl
    | true => rw [commitB_bad] at h; cases h
  refine ⟨?_, hbad⟩
  subst hbad
  unfold commitB at h ⊢
  simp only [thn] at h ⊢
  obtain ⟨hc, h10⟩ := changes_ext t h
  have h1 : (merges (fromOr s false).1 (fromOr s false).2).2 = false := by
    cases hb : (merges (fromOr s false).1 (fromOr s false).2).2 with
    | false => rfl
    | true => rw [hb, changes_bad] at h; cases h
  have h2 : (fromOr s false).2 = false := by
    cases hb : (fromOr s false).2 with
    | false => rfl
    | true => rw [hb, merges_bad] at h1; cases h1
  have h11 := merges_mem h10
  rw [fromOr_ext t (fromOr_mem h11) h2]
  generalize fromOr s false = x at *
  obtain ⟨x0, x1⟩ := x
  simp only at *
  subst h2
  rw [merges_ext t h10 h1]
  generalize merges x0 false = y at *
  obtain ⟨y0, y1⟩ := y
  simp only at *
  subst h1
  exact hc

theorem readCommit_ext {s : List UInt8} {bad : Bool} (t : List UInt8) (h : (readCommit s bad).2 = false) : readCommit (s ++ t) bad = ((readCommit s bad).1 ++ t, false) ∧ 10 ∈ s ∧ bad = false := by
  rw [readCommit_eq] at h ⊢
  obtain ⟨_, h1⟩ := commitB_ext t h
  obtain ⟨h2, h3⟩ := commitA_ext t h1
  refine ⟨?_, h3⟩
  rw [readCommit_eq, h2]
  generalize commitA s bad = x at *
  obtain ⟨x0, x1⟩ := x
  simp only at *
  subst h1
  exact (commitB_ext t h).1

theorem word_app {s : List UInt8} (t : List UInt8) (h : 10 ∈ s) : word (s ++ t) = word s := by
  unfold word; rw [cut_app t h]

theorem readOne_ext {s : List UInt8} {bad : Bool} (t : List UInt8) (h : (readOne s bad).2 = false) : readOne (s ++ t) bad = ((readOne s bad).1 ++ t, false) ∧ 10 ∈ s ∧ bad = false := by
  have hm : 10 ∈ s ∧ bad = false := by
    unfold readOne at h
    split at h
    · exact (readBlob_ext t h).2
    · split at h
      · exact (readCommit_ext t h).2
      · split at h
        · exact (readTag_ext t h).2
        · split at h
          · exact (readReset_ext t h).2
          · cases h
  refine ⟨?_, hm⟩
  unfold readOne at h ⊢
  rw [word_app t hm.1]
  split at h
  · rename_i e; rw [if_pos e, if_pos e]; exact (readBlob_ext t h).1
  · rename_i e
    rw [if_neg e, if_neg e]
    split at h
    · rename_i e; rw [if_pos e, if_pos e]; exact (readCommit_ext t h).1
    · rename_i e
      rw [if_neg e, if_neg e]
      split at h
      · rename_i e; rw [if_pos e, if_pos e]; exact (readTag_ext t h).1
      · rename_i e
        rw [if_neg e, if_neg e]
        split at h
        · rename_i e; rw [if_pos e, if_pos e]; exact (readReset_ext t h).1
        · cases h

theorem readAllF_ge : ∀ (f : Nat) (s : List UInt8) (bad : Bool) (n : Nat), n ≤ (readAllF f s bad n).1 := by
  intro f
  induction f with
  | zero => intro s bad n; exact Nat.le_refl _
  | succ f ih =>
    intro s bad n
    unfold readAllF
    split
    · exact Nat.le_refl _
    · split
      · exact Nat.le_refl _
      · exact Nat.le_trans (Nat.le_succ _) (ih _ _ _)

theorem readAllF_ext (t : List UInt8) : ∀ (f : Nat) (s : List UInt8) (n : Nat), (s ++ t).length < f →
    (readAllF f s false n).1 ≤ (readAllF f (s ++ t) false n).1 ∧
    ((readAllF f s false n).2.2 = false → readAllF f (s ++ t) false n = ((readAllF f s false n).1, (readAllF f s false n).2.1 ++ t, false)) := by
  intro f
  induction f with
  | zero => intro s n h; omega
  | succ f ih =>
    intro s n hf
    cases hw : (word s == sDone) with
    | true =>
      have e1 := readAllF_done f s false n hw
      rw [e1]
      refine ⟨readAllF_ge _ _ _ _, fun hg => ?_⟩
      simp only at hg
      have h10 : 10 ∈ s := by unfold exactly at hg; exact (line_good (need_good hg).2).1
      rw [readAllF_done f (s ++ t) false n (by rw [word_app t h10]; exact hw), exactly_ext t hg]
    | false =>
      cases hr : (readOne s false).2 with
      | true =>
        have e1 := readAllF_bad f s false n hw hr
        rw [e1]
        refine ⟨readAllF_ge _ _ _ _, fun hg => ?_⟩
        simp only at hg
        rw [hr] at hg; cases hg
      | false =>
        obtain ⟨h1, h10, _⟩ := readOne_ext t hr
        have hl := readOne_lt' s false hr
        unfold readAllF
        rw [word_app t h10, hw, h1, hr]
        simp only [Bool.false_eq_true, if_false]
        exact ih _ _ (by simp only [List.length_append] at hf ⊢; omega)

theorem readAll_ext (s t : List UInt8) :
    (readAll s).1 ≤ (readAll (s ++ t)).1 ∧ ((readAll s).2.2 = false → readAll (s ++ t) = ((readAll s).1, (readAll s).2.1 ++ t, false)) := by
  have h := readAllF_ext t ((s ++ t).length + 1) s 0 (by omega)
  have hf : readAllF ((s ++ t).length + 1) s false 0 = readAll s := readAllF_fuel _ _ _ _ _ (by simp; omega) (by omega)
  rw [hf] at h
  exact h

end Pu
end Go.Proofs.YtepgoppgblfjbaaGreatDoor
