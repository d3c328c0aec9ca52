/- The statement's streams are streams; what Check says of their beginnings. -/
import Derived.Test.YtepgoppgblfjbaaGreatDoorStrs
namespace Go.Proofs.YtepgoppgblfjbaaGreatDoor
namespace Pu

theorem heads_len : (refsL.all fun r => (List.range 12).all fun n => decide ((headS r (n + 1)).length ≤ 100)) = true := by kernel_rfl
theorem resets_len : (refsL.all fun r => refsL.all fun o => decide (([114, 101, 115, 101, 116, 32] ++ r ++ [10, 102, 114, 111, 109, 32] ++ o ++ [10, 10]).length ≤ 100) && !(word ([114, 101, 115, 101, 116, 32] ++ r ++ [10, 102, 114, 111, 109, 32] ++ o ++ [10, 10]) == sDone)) = true := by kernel_rfl
theorem tags_len : ((List.range 3).all fun t => refsL.all fun o => decide (([116, 97, 103, 32, 116] ++ dig t ++ [10, 102, 114, 111, 109, 32] ++ o ++ [10, 100, 97, 116, 97, 32, 48, 10, 10]).length ≤ 100) && !(word ([116, 97, 103, 32, 116] ++ dig t ++ [10, 102, 114, 111, 109, 32] ++ o ++ [10, 100, 97, 116, 97, 32, 48, 10, 10]) == sDone)) = true := by kernel_rfl
theorem merges_len : (refsL.all fun o => decide (([109, 101, 114, 103, 101, 32] ++ o ++ [10, 10]).length ≤ 100)) = true := by kernel_rfl
theorem dels_len : (pathsL.all fun p => decide ((changeS 6 p [] 0 ++ [10]).length ≤ 100)) = true := by kernel_rfl
theorem copies_len : (pathsL.all fun p => pathsL.all fun q => decide ((changeS 7 p q 0 ++ [10]).length ≤ 100)) = true := by kernel_rfl
theorem moves_len : (pathsL.all fun p => pathsL.all fun q => decide ((changeS 8 p q 0 ++ [10]).length ≤ 100)) = true := by kernel_rfl
theorem puts_len : (pathsL.all fun p => (List.range 30).all fun d => decide ((changeS 0 p [] d ++ [10]).length ≤ 100)) = true := by kernel_rfl

/-- A text that is one command. -/
structure Good (c : List UInt8) : Prop where
  read : readOne c false = ([], false)
  word : (word c == sDone) = false
  len : c.length ≤ 200

theorem commit_good (r : List UInt8) (n : Nat) (x : List UInt8) (hr : r ∈ refsL) (hn : 1 ≤ n ∧ n ≤ 12) (hx : commitB x false = ([], false)) (hl : x.length ≤ 100) : Good (headS r n ++ x) := by
  obtain ⟨k, rfl⟩ : ∃ k, n = k + 1 := ⟨n - 1, by omega⟩
  have hk : k ∈ List.range 12 := List.mem_range.2 (by omega)
  have h1 : commitA (headS r (k + 1)) false = ([], false) := beq_iff_eq.1 (List.all_eq_true.1 (List.all_eq_true.1 heads_ok r hr) k hk)
  have h2 : word (headS r (k + 1)) = sCommit := beq_iff_eq.1 (List.all_eq_true.1 (List.all_eq_true.1 words_ok r hr) k hk)
  have h3 : (headS r (k + 1)).length ≤ 100 := of_decide_eq_true (List.all_eq_true.1 (List.all_eq_true.1 heads_len r hr) k hk)
  obtain ⟨h4, h10, _⟩ := commitA_ext x (s := headS r (k + 1)) (bad := false) (by rw [h1])
  have hw : word (headS r (k + 1) ++ x) = sCommit := by rw [word_app x h10]; exact h2
  refine ⟨?_, ?_, ?_⟩
  · unfold readOne
    rw [hw]
    have e1 : (sCommit == sBlob) = false := by decide
    have e2 : (sCommit == sCommit) = true := by decide
    rw [e1, e2]
    simp only [Bool.false_eq_true, if_false, if_true]
    rw [readCommit_eq, h4, h1]
    exact hx
  · rw [hw]; decide
  · rw [List.length_append]; omega

theorem changeS_irrel (p q : List UInt8) (d : Nat) : changeS 6 p q d = changeS 6 p [] 0 ∧ changeS 7 p q d = changeS 7 p q 0 ∧ changeS 8 p q d = changeS 8 p q 0 ∧ changeS 9 p q d = changeS 9 [] [] 0 := ⟨rfl, rfl, rfl, rfl⟩

theorem changeS_put (kB : Nat) (p q : List UInt8) (d : Nat) (h : kB < 6) : changeS kB p q d = changeS 0 p [] d := by
  unfold changeS
  rw [if_neg (by omega), if_neg (by omega), if_neg (by omega), if_neg (by omega)]
  simp

theorem change_good (kB : Nat) (p q : List UInt8) (d : Nat) (hB : kB < 10) (hp : p ∈ pathsL) (hq : q ∈ pathsL) (hd : d < 30) :
    commitB (changeS kB p q d ++ [10]) false = ([], false) ∧ (changeS kB p q d ++ [10]).length ≤ 100 := by
  by_cases h6 : kB < 6
  · rw [changeS_put kB p q d h6]
    have hk : d ∈ List.range 30 := List.mem_range.2 hd
    exact ⟨beq_iff_eq.1 (List.all_eq_true.1 (List.all_eq_true.1 puts_ok p hp) d hk), of_decide_eq_true (List.all_eq_true.1 (List.all_eq_true.1 puts_len p hp) d hk)⟩
  have hc : kB = 6 ∨ kB = 7 ∨ kB = 8 ∨ kB = 9 := by omega
  obtain ⟨i6, i7, i8, i9⟩ := changeS_irrel p q d
  rcases hc with rfl | rfl | rfl | rfl
  · rw [i6]; exact ⟨beq_iff_eq.1 (List.all_eq_true.1 dels_ok p hp), of_decide_eq_true (List.all_eq_true.1 dels_len p hp)⟩
  · rw [i7]; exact ⟨beq_iff_eq.1 (List.all_eq_true.1 (List.all_eq_true.1 copies_ok p hp) q hq), of_decide_eq_true (List.all_eq_true.1 (List.all_eq_true.1 copies_len p hp) q hq)⟩
  · rw [i8]; exact ⟨beq_iff_eq.1 (List.all_eq_true.1 (List.all_eq_true.1 moves_ok p hp) q hq), of_decide_eq_true (List.all_eq_true.1 (List.all_eq_true.1 moves_len p hp) q hq)⟩
  · rw [i9]; exact ⟨beq_iff_eq.1 all_ok, by decide⟩

theorem command_good (k : Nat) (r o : List UInt8) (n t : Nat) (c : List UInt8) (hr : r ∈ refsL) (ho : o ∈ refsL) (hn : 1 ≤ n ∧ n ≤ 12) (ht : t < 3)
    (hc : commitB (c ++ [10]) false = ([], false) ∧ (c ++ [10]).length ≤ 100) : Good (commandS k r o n t c) := by
  unfold commandS
  split
  · rw [List.append_assoc]; exact commit_good r n _ hr hn hc.1 hc.2
  · split
    · have h1 := List.all_eq_true.1 (List.all_eq_true.1 resets_ok r hr) o ho
      have h2 := List.all_eq_true.1 (List.all_eq_true.1 resets_len r hr) o ho
      simp only [Bool.and_eq_true, Bool.not_eq_true', decide_eq_true_eq] at h2
      exact ⟨beq_iff_eq.1 h1, h2.2, Nat.le_trans h2.1 (by omega)⟩
    · split
      · have h1 := List.all_eq_true.1 (List.all_eq_true.1 tags_ok t (List.mem_range.2 ht)) o ho
        have h2 := List.all_eq_true.1 (List.all_eq_true.1 tags_len t (List.mem_range.2 ht)) o ho
        simp only [Bool.and_eq_true, Bool.not_eq_true', decide_eq_true_eq] at h2
        exact ⟨beq_iff_eq.1 h1, h2.2, Nat.le_trans h2.1 (by omega)⟩
      · rw [List.append_assoc, List.append_assoc]
        have h1 := beq_iff_eq.1 (List.all_eq_true.1 merges_ok o ho)
        have h2 := of_decide_eq_true (List.all_eq_true.1 merges_len o ho)
        rw [List.append_assoc] at h1 h2
        exact commit_good r n _ hr hn h1 h2

/-- A stream of commands. -/
def streamS (cs : List (List UInt8)) : List UInt8 := cs.flatten ++ [100, 111, 110, 101, 10]

theorem done_word : (word [100, 111, 110, 101, 10] == sDone) = true := by decide

theorem readAllF_stream : ∀ (cs : List (List UInt8)) (f n : Nat), (∀ c ∈ cs, Good c) → (streamS cs).length < f → readAllF f (streamS cs) false n = (n + cs.length, [], false) := by
  intro cs
  induction cs with
  | nil =>
    intro f n _ hf
    cases f with
    | zero => omega
    | succ f =>
      have e : streamS [] = [100, 111, 110, 101, 10] := rfl
      rw [e, readAllF_done f _ false n done_word]
      rfl
  | cons c cs ih =>
    intro f n hg hf
    have hc := hg c (List.mem_cons_self ..)
    have e : streamS (c :: cs) = c ++ streamS cs := by simp [streamS]
    cases f with
    | zero => omega
    | succ f =>
      obtain ⟨h1, h10, _⟩ := readOne_ext (streamS cs) (s := c) (bad := false) (by rw [hc.read])
      rw [hc.read] at h1
      simp only [List.nil_append] at h1
      have hlen : 0 < c.length := List.length_pos_iff.2 (by intro e2; subst e2; simp at h10)
      rw [e] at hf ⊢
      unfold readAllF
      rw [word_app _ h10, hc.word, h1]
      simp only [Bool.false_eq_true, if_false]
      rw [ih f (n + 1) (fun c hc => hg c (List.mem_cons_of_mem _ hc)) (by simp only [List.length_append] at hf; omega)]
      simp only [List.length_cons]
      rw [Nat.add_assoc, Nat.add_comm 1]

theorem readAll_stream (cs : List (List UInt8)) (h : ∀ c ∈ cs, Good c) : readAll (streamS cs) = (cs.length, [], false) := by
  unfold readAll
  rw [readAllF_stream cs _ 0 h (by omega), Nat.zero_add]

theorem stream_len : ∀ (cs : List (List UInt8)), (∀ c ∈ cs, Good c) → cs.flatten.length ≤ 200 * cs.length := by
  intro cs
  induction cs with
  | nil => intro _; simp
  | cons c cs ih =>
    intro h
    have h1 := (h c (List.mem_cons_self ..)).len
    have h2 := ih (fun c hc => h c (List.mem_cons_of_mem _ hc))
    simp only [List.flatten_cons, List.length_append, List.length_cons]
    omega

theorem check_ok (s : List UInt8) (n : Nat) (h : readAll s = (n, [], false)) (hn : n ≤ 60) (hl : s.length ≤ 8000) : check s = ((n : Int), 0) := by
  unfold check
  rw [if_neg (by omega), h]
  simp [hn]

theorem check_cut (p t : List UInt8) (n : Nat) (h : readAll (p ++ t) = (n, [], false)) (hl : (p ++ t).length ≤ 8000) (ht : t ≠ []) :
    check p = (((readAll p).1 : Int) + 1, 1) ∧ (readAll p).1 ≤ n := by
  obtain ⟨h1, h2⟩ := readAll_ext p t
  rw [h] at h1 h2
  refine ⟨?_, h1⟩
  have hb : (readAll p).2.2 = true := by
    cases hb : (readAll p).2.2 with
    | true => rfl
    | false =>
      have h3 := h2 hb
      simp only [Prod.mk.injEq] at h3
      exact absurd (List.append_eq_nil_iff.1 h3.2.1.symm).2 ht
  simp only [List.length_append] at hl
  unfold check
  rw [if_neg (by omega), hb]
  simp

theorem check_more (s t : List UInt8) (n : Nat) (h : readAll s = (n, [], false)) (hl : (s ++ t).length ≤ 8000) (ht : t ≠ []) : (check (s ++ t)).2 = 1 := by
  obtain ⟨_, h2⟩ := readAll_ext s t
  rw [h] at h2
  have h3 := h2 rfl
  simp only [List.nil_append] at h3
  unfold check
  rw [if_neg (by omega), h3]
  simp [ht]

/-- The statement itself, of texts. -/
theorem cut_main (s : List UInt8) (n c : Nat) (h : readAll s = (n, [], false)) (hn : n ≤ 60) (hl : s.length < 8000) (hc : c < s.length) :
    check s = ((n : Int), 0) ∧ (check (s.take c)).2 = 1 ∧ 1 ≤ (check (s.take c)).1 ∧ (check (s.take c)).1 ≤ n + 1 ∧
    ((check (s.take (c + 1))).2 = 0 ∨ ((check (s.take (c + 1))).2 = 1 ∧ (check (s.take c)).1 ≤ (check (s.take (c + 1))).1)) ∧ (check (s ++ [120])).2 = 1 := by
  have e0 : s.take c ++ s.drop c = s := List.take_append_drop c s
  have hd : s.drop c ≠ [] := by intro e; have := congrArg List.length e; simp at this; omega
  obtain ⟨h1, h2⟩ := check_cut (s.take c) (s.drop c) n (by rw [e0]; exact h) (by rw [e0]; omega) hd
  refine ⟨check_ok s n h hn (by omega), by rw [h1], by rw [h1]; simp only; omega, by rw [h1]; simp only; omega, ?_, check_more s [120] n h (by simp; omega) (by simp)⟩
  by_cases hlast : c + 1 = s.length
  · left
    rw [List.take_of_length_le (by omega), check_ok s n h hn (by omega)]
  · right
    have e1 : s.take (c + 1) ++ s.drop (c + 1) = s := List.take_append_drop (c + 1) s
    have hd1 : s.drop (c + 1) ≠ [] := by intro e; have := congrArg List.length e; simp at this; omega
    obtain ⟨h3, _⟩ := check_cut (s.take (c + 1)) (s.drop (c + 1)) n (by rw [e1]; exact h) (by rw [e1]; omega) hd1
    rw [h1, h3]
    refine ⟨rfl, ?_⟩
    obtain ⟨h4, _⟩ := readAll_ext (s.take c) [s[c]]
    rw [← List.take_succ_eq_append_getElem hc] at h4
    simp only
    omega

end Pu
end Go.Proofs.YtepgoppgblfjbaaGreatDoor
