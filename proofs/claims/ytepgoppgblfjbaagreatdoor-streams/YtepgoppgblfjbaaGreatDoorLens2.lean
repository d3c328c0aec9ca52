/- readOne leaves less; enough rounds of readAll are enough. -/
import Derived.Test.YtepgoppgblfjbaaGreatDoorLens
namespace Go.Proofs.YtepgoppgblfjbaaGreatDoor
namespace Pu

theorem exactly_lt (l s : List UInt8) (bad : Bool) (h : s ≠ []) : (exactly l s bad).1.length < s.length := by
  unfold exactly; exact Nat.lt_of_le_of_lt (need_len _ _ _) (line_lt s bad h)
theorem exactly_le (l s : List UInt8) (bad : Bool) : (exactly l s bad).1.length ≤ s.length := by
  unfold exactly; exact Nat.le_trans (need_len _ _ _) (line_le s bad)
theorem ref_lt (head s : List UInt8) (bad : Bool) (h : s ≠ []) : (ref head s bad).2.1.length < s.length := by
  unfold ref; exact Nat.lt_of_le_of_lt (need_len _ _ _) (after_lt head s bad h)
theorem rmark_le (s : List UInt8) (bad : Bool) : (rmark s bad).2.1.length ≤ s.length := by
  unfold rmark; exact Nat.le_trans (need_len _ _ _) (after_le _ s bad)
theorem which_le2 (head s : List UInt8) (bad : Bool) : (which head s bad).1.length ≤ s.length := Nat.le_trans (which_le head s bad) (after_le head s bad)
theorem author_le (s : List UInt8) (bad : Bool) : (author s bad).1.length ≤ s.length := by
  unfold author; exact Nat.le_trans (need_len _ _ _) (after_le _ s bad)
theorem data_le2 (s : List UInt8) (bad : Bool) : (data s bad).2.1.length ≤ s.length := Nat.le_trans (data_le s bad) (after_le _ s bad)
theorem fromOr_le (s : List UInt8) (bad : Bool) : (fromOr s bad).1.length ≤ s.length := by
  unfold fromOr; split
  · exact which_le2 _ _ _
  · exact Nat.le_refl _
theorem mergesF_le : ∀ (f : Nat) (s : List UInt8) (bad : Bool) (n : Nat), (mergesF f s bad n).2.1.length ≤ s.length := by
  intro f
  induction f with
  | zero => intro s bad n; exact Nat.le_refl _
  | succ f ih =>
    intro s bad n
    unfold mergesF
    split
    · exact Nat.le_trans (ih _ _ _) (which_le2 _ _ _)
    · exact Nat.le_refl _
theorem merges_le (s : List UInt8) (bad : Bool) : (merges s bad).1.length ≤ s.length := by
  unfold merges; exact Nat.le_trans (need_len _ _ _) (mergesF_le _ _ _ _)
theorem changesF_le : ∀ (f : Nat) (l s : List UInt8) (bad : Bool) (n : Nat), (changesF f l s bad n).2.1.length ≤ s.length := by
  intro f
  induction f with
  | zero => intro l s bad n; exact Nat.le_refl _
  | succ f ih =>
    intro l s bad n
    unfold changesF
    split
    · exact Nat.le_refl _
    · exact Nat.le_trans (ih _ _ _ _) (Nat.le_trans (line_le _ _) (change_le _ _ _))
theorem changes_le (s : List UInt8) (bad : Bool) : (changes s bad).1.length ≤ s.length := by
  unfold changes; exact Nat.le_trans (need_len _ _ _) (Nat.le_trans (changesF_le _ _ _ _ _) (line_le _ _))

theorem readCommit_lt (s : List UInt8) (bad : Bool) (h : s ≠ []) : (readCommit s bad).1.length < s.length := by
  have h0 := ref_lt sCommit1 s bad h
  unfold readCommit
  generalize (ref sCommit1 s bad).2 = x0 at *
  simp only [thn]
  have h1 := rmark_le x0.1 x0.2
  generalize (rmark x0.1 x0.2).2 = x1 at *
  have h2 := author_le x1.1 x1.2
  generalize author x1.1 x1.2 = x2 at *
  have h3 := data_le2 x2.1 x2.2
  generalize (data x2.1 x2.2).2 = x3 at *
  have h4 := fromOr_le x3.1 x3.2
  generalize fromOr x3.1 x3.2 = x4 at *
  have h5 := merges_le x4.1 x4.2
  generalize merges x4.1 x4.2 = x5 at *
  have h6 := changes_le x5.1 x5.2
  omega

theorem word_nil : word [] = [] := rfl

theorem readOne_nil (bad : Bool) : readOne [] bad = ([], true) := rfl

theorem readOne_lt (s : List UInt8) (bad : Bool) (h : s ≠ []) : (readOne s bad).1.length < s.length := by
  unfold readOne
  split
  · unfold readBlob
    exact Nat.lt_of_le_of_lt (Nat.le_trans (data_le2 _ _) (rmark_le _ _)) (exactly_lt _ _ _ h)
  · split
    · exact readCommit_lt s bad h
    · split
      · unfold readTag
        exact Nat.lt_of_le_of_lt (Nat.le_trans (data_le2 _ _) (which_le2 _ _ _)) (ref_lt _ _ _ h)
      · split
        · unfold readReset
          exact Nat.lt_of_le_of_lt (Nat.le_trans (exactly_le _ _ _) (fromOr_le _ _)) (ref_lt _ _ _ h)
        · exact List.length_pos_iff.2 h

theorem readOne_lt' (s : List UInt8) (bad : Bool) (h : (readOne s bad).2 = false) : (readOne s bad).1.length < s.length := by
  by_cases e : s = []
  · subst e; rw [readOne_nil] at h; cases h
  · exact readOne_lt s bad e

theorem readAllF_fuel : ∀ (f g : Nat) (s : List UInt8) (bad : Bool) (n : Nat), s.length < f → s.length < g → readAllF f s bad n = readAllF g s bad n := by
  intro f
  induction f with
  | zero => intro g s bad n h; omega
  | succ f ih =>
    intro g s bad n h hg
    cases g with
    | zero => omega
    | succ g =>
      unfold readAllF
      split
      · rfl
      · split
        · rfl
        · rename_i hb
          have := readOne_lt' s bad (by simpa using hb)
          exact ih g _ _ _ (by omega) (by omega)

theorem readAllF_step (s : List UInt8) (bad : Bool) (n : Nat) (h1 : (word s == sDone) = false) (h2 : (readOne s bad).2 = false) :
    readAllF (s.length + 1) s bad n = readAllF ((readOne s bad).1.length + 1) (readOne s bad).1 (readOne s bad).2 (n + 1) := by
  have hl := readOne_lt' s bad h2
  conv => lhs; unfold readAllF
  rw [h1, h2]
  simp only [Bool.false_eq_true, if_false]
  exact readAllF_fuel _ _ _ _ _ (by omega) (by omega)

theorem readAllF_done (f : Nat) (s : List UInt8) (bad : Bool) (n : Nat) (h1 : (word s == sDone) = true) :
    readAllF (f + 1) s bad n = (n, (exactly sDone s bad).1, (exactly sDone s bad).2) := by
  unfold readAllF; rw [h1]; rfl

theorem readAllF_bad (f : Nat) (s : List UInt8) (bad : Bool) (n : Nat) (h1 : (word s == sDone) = false) (h2 : (readOne s bad).2 = true) :
    readAllF (f + 1) s bad n = (n, (readOne s bad).1, (readOne s bad).2) := by
  unfold readAllF; rw [h1, h2]; rfl

end Pu
end Go.Proofs.YtepgoppgblfjbaaGreatDoor
