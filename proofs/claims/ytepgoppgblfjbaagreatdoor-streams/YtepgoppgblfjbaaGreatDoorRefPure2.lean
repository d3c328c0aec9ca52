/- An author's line: the document's way and the program's. -/
import Derived.Test.YtepgoppgblfjbaaGreatDoorRefPure
namespace Go.Proofs.YtepgoppgblfjbaaGreatDoor
namespace Pu

theorem madeOf_not {t set : List UInt8} {most : Int} {x : UInt8} (h : madeOf t set most = true) (hx : Lib.indexByte set x = -1) : ¬ x ∈ t := by
  intro hm
  unfold madeOf at h
  simp only [Bool.and_eq_true, List.all_eq_true, decide_eq_true_eq] at h
  have := h.2 x hm
  omega

theorem number_dec (s : List UInt8) : (number s 0 9999999999).2 = decide (0 ≤ n10 s 9999999999) := by
  rw [number_n10 s 0 9999999999 (by omega)]
  by_cases h : 0 ≤ n10 s 9999999999
  · rw [if_neg (by omega), decide_eq_true h]
  · rw [if_pos (by omega), decide_eq_false h]

theorem author_eq (w : List UInt8) : refAuthor w = isAuthor w := by
  rw [Bool.eq_iff_iff]
  constructor
  · intro h
    unfold refAuthor at h
    simp only [Bool.and_eq_true, beq_iff_eq, decide_eq_true_eq] at h
    obtain ⟨⟨⟨⟨⟨⟨h1, h2⟩, h3⟩, h4⟩, h5⟩, h6⟩, h7⟩ := h
    obtain ⟨e1, n1⟩ := cut_is h1
    obtain ⟨e2, n2⟩ := cut_is h2
    generalize Lib.cut w [60] = x at *
    obtain ⟨p, q, f⟩ := x
    simp only at *
    generalize Lib.cut q [62] = y at *
    obtain ⟨m, r, g⟩ := y
    simp only at *
    obtain ⟨A, rfl⟩ : ∃ A, p = A ++ [32] := by
      refine ⟨p.dropLast, ?_⟩
      have hne : p ≠ [] := by intro e; subst e; simp at h3
      rw [List.getLast?_eq_some_getLast hne] at h3
      have := List.dropLast_concat_getLast hne
      rw [Option.some.inj h3] at this
      exact this.symm
    obtain ⟨D, rfl⟩ : ∃ D, r = 32 :: D := by
      cases r with
      | nil => simp at h4
      | cons a l => simp at h4; subst h4; exact ⟨l, rfl⟩
    have hw : w = A ++ 32 :: 60 :: q := by rw [e1]; simp
    have c1 : Lib.cut w [32, 60] = (A, q, true) := by
      rw [hw]
      refine cut_pair ?_
      rintro j hj ⟨_, g2⟩
      apply n1
      by_cases hj2 : j + 1 < A.length
      · rw [List.getElem?_append_left hj2] at g2
        exact List.mem_append_left _ (List.mem_of_getElem? g2)
      · have : j + 1 = A.length := by omega
        rw [this, List.getElem?_append_right (Nat.le_refl _)] at g2
        simp at g2
    have c2 : Lib.cut q [62, 32] = (m, D, true) := by
      rw [e2]
      refine cut_pair ?_
      rintro j hj ⟨g1, _⟩
      apply n2
      rw [List.getElem?_append_left hj] at g1
      exact List.mem_of_getElem? g1
    unfold isAuthor
    rw [c1]
    simp only
    rw [c2]
    simp only
    rw [number_dec]
    simp only [List.drop_succ_cons, List.drop_zero, List.dropLast_concat] at h5 h7
    rw [h5, h6, decide_eq_true h7]
    rfl
  · intro h
    unfold isAuthor at h
    simp only [Bool.and_eq_true] at h
    obtain ⟨⟨⟨⟨h1, h2⟩, h3⟩, h4⟩, h5⟩ := h
    have e1 := cut_pair_is h1
    have e2 := cut_pair_is h2
    generalize Lib.cut w [32, 60] = x at *
    obtain ⟨A, B, f⟩ := x
    simp only at *
    generalize Lib.cut B [62, 32] = y at *
    obtain ⟨C, D, g⟩ := y
    simp only at *
    have n1 : ¬ (60 : UInt8) ∈ A := by
      unfold isName at h4
      simp only [Bool.and_eq_true] at h4
      exact madeOf_not h4.1 (by kernel_rfl)
    have n2 : ¬ (62 : UInt8) ∈ C := madeOf_not h5 (by kernel_rfl)
    have hw : w = (A ++ [32]) ++ 60 :: B := by rw [e1]; simp
    have c1 : Lib.cut w [60] = (A ++ [32], B, true) := by
      rw [hw]; exact cut_at (by simpa using n1)
    have c2 : Lib.cut B [62] = (C, 32 :: D, true) := by
      rw [e2]; exact cut_at n2
    unfold refAuthor
    rw [c1]
    simp only
    rw [c2]
    simp only
    rw [number_dec] at h3
    simp [h4, h5, of_decide_eq_true h3]

end Pu
end Go.Proofs.YtepgoppgblfjbaaGreatDoor
