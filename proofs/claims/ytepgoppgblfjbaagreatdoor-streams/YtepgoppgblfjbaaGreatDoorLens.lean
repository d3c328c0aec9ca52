/- How much is left: each method leaves less, and enough rounds are enough. -/
import Derived.Test.YtepgoppgblfjbaaGreatDoorPure
import Derived.Lib.IndexLaws
namespace Go.Proofs.YtepgoppgblfjbaaGreatDoor
namespace Pu

theorem line_lt (s : List UInt8) (bad : Bool) (h : s ≠ []) : (line s bad).2.1.length < s.length := by
  have h0 : 0 < s.length := List.length_pos_iff.2 h
  unfold line
  split
  · rename_i hc
    unfold Lib.cut at hc ⊢
    split at hc
    · rename_i hi
      rw [if_pos hi]
      simp; omega
    · simp at hc
  · simpa using h0

theorem line_le (s : List UInt8) (bad : Bool) : (line s bad).2.1.length ≤ s.length := (line_lens s bad).2

theorem need_le (ok : Bool) (x : List UInt8 × Bool) : (need ok x.1 x.2).1.length ≤ x.1.length := need_len ok x.1 x.2

theorem after_lt (head s : List UInt8) (bad : Bool) (h : s ≠ []) : (after head s bad).2.1.length < s.length := by
  have h1 := line_lt s bad h
  have h2 := need_len (Lib.hasPrefix (line s bad).1 head) (line s bad).2.1 (line s bad).2.2
  unfold after; exact Nat.lt_of_le_of_lt h2 h1

theorem which_le (head s : List UInt8) (bad : Bool) : (which head s bad).1.length ≤ (after head s bad).2.1.length := by
  unfold which; split
  · exact Nat.le_refl _
  · exact need_len _ _ _

theorem which_lt (head s : List UInt8) (bad : Bool) (h : s ≠ []) : (which head s bad).1.length < s.length :=
  Nat.lt_of_le_of_lt (which_le head s bad) (after_lt head s bad h)

theorem hasPrefix_ne {s p : List UInt8} (h : Lib.hasPrefix s p = true) (hp : p ≠ []) : s ≠ [] := by
  intro e; subst e
  unfold Lib.hasPrefix at h
  cases p with
  | nil => exact hp rfl
  | cons a r => simp [List.isPrefixOf] at h

theorem mergesF_nil (f : Nat) (bad : Bool) (n : Nat) : mergesF f [] bad n = (n, [], bad) := by
  cases f with
  | zero => rfl
  | succ f => rfl

theorem mergesF_fuel : ∀ (f g : Nat) (s : List UInt8) (bad : Bool) (n : Nat), s.length ≤ f → s.length ≤ g → mergesF f s bad n = mergesF g s bad n := by
  intro f
  induction f with
  | zero =>
    intro g s bad n h _
    have : s = [] := List.length_eq_zero_iff.1 (by omega)
    subst this
    rw [mergesF_nil, mergesF_nil]
  | succ f ih =>
    intro g s bad n h hg
    cases g with
    | zero =>
      have : s = [] := List.length_eq_zero_iff.1 (by omega)
      subst this
      rw [mergesF_nil, mergesF_nil]
    | succ g =>
      unfold mergesF
      split
      · rename_i hp
        have hlt := which_lt sMerge s bad (hasPrefix_ne hp (by decide))
        exact ih g _ _ _ (by omega) (by omega)
      · rfl

theorem mergesF_step (s : List UInt8) (bad : Bool) (n : Nat) (hp : Lib.hasPrefix s sMerge = true) :
    mergesF s.length s bad n = mergesF (which sMerge s bad).1.length (which sMerge s bad).1 (which sMerge s bad).2 (n + 1) := by
  have hne := hasPrefix_ne hp (by decide)
  have hlt := which_lt sMerge s bad hne
  obtain ⟨k, hk⟩ : ∃ k, s.length = k + 1 := ⟨s.length - 1, by have := List.length_pos_iff.2 hne; omega⟩
  rw [hk]
  conv => lhs; unfold mergesF
  rw [if_pos hp]
  exact mergesF_fuel _ _ _ _ _ (by omega) (Nat.le_refl _)

theorem mergesF_stop (f : Nat) (s : List UInt8) (bad : Bool) (n : Nat) (hp : Lib.hasPrefix s sMerge = false) : mergesF f s bad n = (n, s, bad) := by
  cases f with
  | zero => rfl
  | succ f => unfold mergesF; rw [hp]; rfl

theorem data_le (s : List UInt8) (bad : Bool) : (data s bad).2.1.length ≤ (after sData s bad).2.1.length := by
  unfold data bytes
  split
  · have := need_len (number (after sData s bad).1 0 200).2 (after sData s bad).2.1 (after sData s bad).2.2
    simp; omega
  · simp

theorem after_le (head s : List UInt8) (bad : Bool) : (after head s bad).2.1.length ≤ s.length := (after_len head s bad).2

theorem content_le (f s : List UInt8) (bad : Bool) : (content f s bad).1.length ≤ s.length := by
  unfold content
  split
  · exact Nat.le_trans (data_le s bad) (after_le _ _ _)
  · exact need_len _ _ _

theorem change_le (l s : List UInt8) (bad : Bool) : (change l s bad).1.length ≤ s.length := by
  unfold change
  split
  · split
    · unfold changeM
      exact Nat.le_trans (content_le _ _ _) (Nat.le_trans (need_len _ _ _) (need_len _ _ _))
    · exact need_len _ _ _
  · split <;> exact need_len _ _ _
  · split
    · exact Nat.le_trans (need_len _ _ _) (need_len _ _ _)
    · exact need_len _ _ _
  · exact need_len _ _ _

theorem line_nil (bad : Bool) : line [] bad = ([], [], true) := rfl

/-- What a round of the changes leaves: less, or an empty line. -/
theorem round_lt (l s : List UInt8) (bad : Bool) :
    (line (change l s bad).1 (change l s bad).2).1 = [] ∨ (line (change l s bad).1 (change l s bad).2).2.1.length < s.length := by
  have h := change_le l s bad
  generalize change l s bad = x at *
  obtain ⟨x0, x1⟩ := x
  by_cases e : x0 = []
  · left; subst e; rfl
  · right
    exact Nat.lt_of_lt_of_le (line_lt x0 x1 e) h

theorem changesF_nil (f : Nat) (s : List UInt8) (bad : Bool) (n : Nat) : changesF f [] s bad n = (n, s, bad) := by
  cases f with
  | zero => rfl
  | succ f => rfl

theorem changesF_fuel : ∀ (f g : Nat) (l s : List UInt8) (bad : Bool) (n : Nat), s.length < f → s.length < g → changesF f l s bad n = changesF g l s bad n := by
  intro f
  induction f with
  | zero => intro g l s bad n h; omega
  | succ f ih =>
    intro g l s bad n h hg
    cases g with
    | zero => omega
    | succ g =>
      unfold changesF
      split
      · rfl
      · rcases round_lt l s bad with e | e
        · rw [e, changesF_nil, changesF_nil]
        · exact ih g _ _ _ _ (by omega) (by omega)

theorem changesF_step (l s : List UInt8) (bad : Bool) (n : Nat) (hp : (l == []) = false) :
    changesF (s.length + 1) l s bad n = changesF ((line (change l s bad).1 (change l s bad).2).2.1.length + 1) (line (change l s bad).1 (change l s bad).2).1 (line (change l s bad).1 (change l s bad).2).2.1 (line (change l s bad).1 (change l s bad).2).2.2 (n + 1) := by
  conv => lhs; unfold changesF
  rw [hp]
  simp only [Bool.false_eq_true, if_false]
  rcases round_lt l s bad with e | e
  · rw [e, changesF_nil, changesF_nil]
  · exact changesF_fuel _ _ _ _ _ _ (by omega) (by omega)

end Pu
end Go.Proofs.YtepgoppgblfjbaaGreatDoor
