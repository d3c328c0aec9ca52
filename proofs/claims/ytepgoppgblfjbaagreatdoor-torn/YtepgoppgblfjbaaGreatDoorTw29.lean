import Derived.Test.YtepgoppgblfjbaaGreatDoorTw08
import Derived.Test.YtepgoppgblfjbaaGreatDoorTw25
import Derived.Test.YtepgoppgblfjbaaGreatDoorTw28
import Derived.Test.YtepgoppgblfjbaaGreatDoorTw09
import Derived.Deep.QuietTactic
import Derived.BigQuiet
/- Every stream that Check takes keeps the bounds that Import wants. -/
namespace Go.Proofs.YtepgoppgblfjbaaGreatDoor
namespace Pu

theorem z999 : (0 : Int) ≤ 0 ∧ (0 : Int) ≤ 999 := by decide
theorem zTime : (0 : Int) ≤ 0 ∧ (0 : Int) ≤ 9999999999 := by decide

theorem need_fine {ok : Bool} {s : List UInt8} {bad : Bool} (h : (need ok s bad).2 = false) : ok = true ∧ bad = false ∧ need ok s bad = (s, bad) := by
  cases ok with
  | false => simp [need] at h
  | true => exact ⟨rfl, by simpa [need] using h, rfl⟩

theorem number_le (t : List UInt8) (lo hi : Int) (hl : 0 ≤ lo) (hh : lo ≤ hi) : 0 ≤ (number t lo hi).1 ∧ (number t lo hi).1 ≤ hi := by
  unfold number
  split
  · constructor <;> simp <;> omega
  · split
    · constructor <;> simp <;> omega
    · constructor <;> simp <;> omega
theorem mark_le (t : List UInt8) : 0 ≤ (mark t).1 ∧ (mark t).1 ≤ 999 := by
  unfold mark
  split
  · exact number_le _ 1 999 (by decide) (by decide)
  · decide
theorem madeOf_len {t set : List UInt8} {most : Int} (h : madeOf t set most = true) : (t.length : Int) ≤ most := by
  unfold madeOf at h
  simp only [Bool.and_eq_true, decide_eq_true_eq] at h
  exact h.1.2
theorem isRef_len {t : List UInt8} (h : isRef t = true) : t.length ≤ 20 := by
  unfold isRef at h
  simp only [Bool.and_eq_true] at h
  have := madeOf_len h.1.1
  omega
theorem isName_len {t : List UInt8} (h : isName t = true) : t.length ≤ 20 := by
  unfold isName at h
  simp only [Bool.and_eq_true] at h
  have := madeOf_len h.1
  omega
theorem isMail_len {t : List UInt8} (h : isMail t = true) : t.length ≤ 20 := by
  unfold isMail at h
  have := madeOf_len h
  omega
theorem isPath_len {t : List UInt8} (h : isPath t = true) : t.length ≤ 60 := by
  unfold isPath at h
  simp only [Bool.and_eq_true, decide_eq_true_eq] at h
  exact h.1.1
theorem data_len (s : List UInt8) (bad : Bool) : (data s bad).1.length ≤ 200 := by
  unfold data bytes
  have := number_le (after sData s bad).1 0 200 (by decide) (by decide)
  split
  · show (List.take _ _).length ≤ 200
    rw [List.length_take]
    omega
  · exact Nat.zero_le _

theorem which_fine {hd s : List UInt8} {bad : Bool} (h : (which hd s bad).2 = false) : WhOk (whichV hd s bad) ∧ bad = false := by
  have hb : bad = false := by
    cases bad with
    | false => rfl
    | true => rw [which_bad] at h; cases h
  refine ⟨?_, hb⟩
  have hm := mark_le (after hd s bad).1
  unfold which at h
  unfold whichV
  split
  · exact ⟨hm, Nat.zero_le _⟩
  · rename_i hn
    rw [if_neg hn] at h
    have := isRef_len (need_fine h).1
    exact ⟨z999, Nat.le_trans this (by decide)⟩

theorem fromOr_fine {s : List UInt8} {bad : Bool} (h : (fromOr s bad).2 = false) : WhOk (fromOrV s bad) ∧ bad = false := by
  unfold fromOr at h
  unfold fromOrV
  split
  · rename_i hp
    rw [if_pos hp] at h
    exact which_fine h
  · rename_i hp
    rw [if_neg hp] at h
    exact ⟨⟨by decide, Nat.zero_le _⟩, h⟩

theorem mergesF_fine : ∀ (f : Nat) (s : List UInt8) (bad : Bool) (n : Nat), (mergesF f s bad n).2.2 = false → (∀ x ∈ mergesV f s bad, WhOk x) ∧ bad = false := by
  intro f
  induction f with
  | zero => intro s bad n h; exact ⟨fun x hx => by simp [mergesV] at hx, h⟩
  | succ f ih =>
    intro s bad n h
    unfold mergesF at h
    unfold mergesV
    split
    · rename_i hp
      rw [if_pos hp] at h
      obtain ⟨h1, h2⟩ := ih _ _ _ h
      obtain ⟨h3, h4⟩ := which_fine h2
      refine ⟨fun x hx => ?_, h4⟩
      rcases List.mem_cons.1 hx with rfl | hx
      · exact h3
      · exact h1 x hx
    · rename_i hp
      rw [if_neg hp] at h
      exact ⟨fun x hx => by simp at hx, h⟩

theorem merges_fine {s : List UInt8} {bad : Bool} (h : (merges s bad).2 = false) : bad = false ∧ (mergesV s.length s bad).length ≤ 3 ∧ ∀ x ∈ mergesV s.length s bad, WhOk x := by
  unfold merges at h
  obtain ⟨h1, h2, _⟩ := need_fine h
  obtain ⟨h3, h4⟩ := mergesF_fine _ _ _ _ h2
  have := mergesF_len s.length s bad 0
  have := of_decide_eq_true h1
  exact ⟨h4, by omega, h3⟩

theorem contentV_le (f s : List UInt8) (bad : Bool) : (0 ≤ (contentV f s bad).1 ∧ (contentV f s bad).1 ≤ 999) ∧ (contentV f s bad).2.length ≤ 200 := by
  unfold contentV
  split
  · exact ⟨z999, data_len _ _⟩
  · exact ⟨mark_le _, Nat.zero_le _⟩

theorem plain_chOk (f0 : List UInt8) : ChOk ⟨f0, [], 0, [], [], []⟩ := ⟨z999, Nat.zero_le _, Nat.zero_le _, Nat.zero_le _, Nat.zero_le _⟩

theorem changeM_fine {f1 f2 f3 s : List UInt8} {bad : Bool} (h : (changeM f1 f2 f3 s bad).2 = false) : ChOk (changeMV f1 f2 f3 s bad) := by
  unfold changeM at h
  have h1 : (need (isPath f3) (need (f1 == s644 || f1 == s755) s bad).1 (need (f1 == s644 || f1 == s755) s bad).2).2 = false := by
    cases hb : (need (isPath f3) (need (f1 == s644 || f1 == s755) s bad).1 (need (f1 == s644 || f1 == s755) s bad).2).2 with
    | false => rfl
    | true => rw [hb, content_bad] at h; cases h
  obtain ⟨h2, h3, _⟩ := need_fine h1
  obtain ⟨h4, _, _⟩ := need_fine h3
  have h5 := isPath_len h2
  have h6 : f1.length ≤ 20 := by
    simp only [Bool.or_eq_true, beq_iff_eq] at h4
    rcases h4 with rfl | rfl <;> decide
  unfold changeMV
  obtain ⟨c1, c2⟩ := contentV_le f2 (need (isPath f3) (need (f1 == s644 || f1 == s755) s bad).1 (need (f1 == s644 || f1 == s755) s bad).2).1 (need (isPath f3) (need (f1 == s644 || f1 == s755) s bad).1 (need (f1 == s644 || f1 == s755) s bad).2).2
  exact ⟨c1, h6, Nat.le_trans c2 (by decide), h5, Nat.zero_le _⟩

theorem change_fine {l s : List UInt8} {bad : Bool} (h : (change l s bad).2 = false) : ChOk (changeV l s bad) ∧ bad = false := by
  have hb : bad = false := by
    cases bad with
    | false => rfl
    | true => rw [change_bad] at h; cases h
  refine ⟨?_, hb⟩
  unfold change at h
  unfold changeV
  split
  · rename_i f0 f1 f2 f3 he
    simp only [he] at h
    split
    · rename_i hc
      rw [if_pos hc] at h
      exact changeM_fine h
    · exact plain_chOk _
  · rename_i f0 f1 he
    simp only [he] at h
    split
    · rename_i hc
      rw [if_pos hc] at h
      exact ⟨z999, Nat.zero_le _, Nat.zero_le _, isPath_len (need_fine h).1, Nat.zero_le _⟩
    · exact plain_chOk _
  · rename_i f0 f1 f2 he
    simp only [he] at h
    split
    · rename_i hc
      rw [if_pos hc] at h
      obtain ⟨h1, h2, _⟩ := need_fine h
      exact ⟨z999, Nat.zero_le _, Nat.zero_le _, isPath_len (need_fine h2).1, isPath_len h1⟩
    · exact plain_chOk _
  · exact plain_chOk _
  · exact plain_chOk _

theorem changesF_fine : ∀ (f : Nat) (l s : List UInt8) (bad : Bool) (n : Nat), (changesF f l s bad n).2.2 = false → (∀ x ∈ changesV f l s bad, ChOk x) ∧ bad = false := by
  intro f
  induction f with
  | zero => intro l s bad n h; exact ⟨fun x hx => by simp [changesV] at hx, h⟩
  | succ f ih =>
    intro l s bad n h
    unfold changesF at h
    unfold changesV
    split
    · rename_i hp
      rw [if_pos hp] at h
      exact ⟨fun x hx => by simp at hx, h⟩
    · rename_i hp
      rw [if_neg hp] at h
      obtain ⟨h1, h2⟩ := ih _ _ _ _ h
      have h2' : (change l s bad).2 = false := by
        cases hb : (change l s bad).2 with
        | false => rfl
        | true => rw [hb, line_bad] at h2; cases h2
      obtain ⟨h3, h4⟩ := change_fine h2'
      refine ⟨fun x hx => ?_, h4⟩
      rcases List.mem_cons.1 hx with rfl | hx
      · exact h3
      · exact h1 x hx

theorem changes_fine {s : List UInt8} {bad : Bool} (h : (changes s bad).2 = false) : bad = false ∧ (changesAll s bad).length ≤ 30 ∧ ∀ x ∈ changesAll s bad, ChOk x := by
  unfold changes at h
  obtain ⟨h1, h2, _⟩ := need_fine h
  obtain ⟨h3, h4⟩ := changesF_fine _ _ _ _ _ h2
  have e := changesF_len (s.length + 2) (line s bad).1 (line s bad).2.1 (line s bad).2.2 0
  have h5 := of_decide_eq_true h1
  refine ⟨?_, ?_, h3⟩
  · cases bad with
    | false => rfl
    | true => rw [line_bad] at h4; cases h4
  · unfold changesAll
    omega

theorem data_fine {s : List UInt8} {bad : Bool} (h : (data s bad).2.2 = false) : bad = false := by
  cases bad with
  | false => rfl
  | true => rw [data_bad] at h; cases h
theorem rmark_fine {s : List UInt8} {bad : Bool} (h : (rmark s bad).2.2 = false) : bad = false := by
  cases bad with
  | false => rfl
  | true => rw [rmark_bad] at h; cases h
theorem ref_fine {hd s : List UInt8} {bad : Bool} (h : (ref hd s bad).2.2 = false) : (ref hd s bad).1.length ≤ 20 := by
  unfold ref at h
  exact isRef_len (need_fine h).1
theorem author_fine {s : List UInt8} {bad : Bool} (h : (author s bad).2 = false) : bad = false ∧ (authorV s bad).name.length ≤ 20 ∧ (authorV s bad).mail.length ≤ 20 := by
  have hb : bad = false := by
    cases bad with
    | false => rfl
    | true => rw [author_bad] at h; cases h
  unfold author at h
  have h1 := (need_fine h).1
  unfold isAuthor at h1
  simp only [Bool.and_eq_true] at h1
  exact ⟨hb, isName_len h1.1.2, isMail_len h1.2⟩
theorem author_time (s : List UInt8) (bad : Bool) : 0 ≤ (authorV s bad).time ∧ (authorV s bad).time ≤ 9999999999 := number_le _ 0 9999999999 (by decide) (by decide)

theorem none_whOk : WhOk ⟨0, []⟩ := ⟨by decide, Nat.zero_le _⟩

theorem rmark_999 (s : List UInt8) (bad : Bool) : 0 ≤ (rmark s bad).1 ∧ (rmark s bad).1 ≤ 999 := mark_le _

theorem rcV_eq (s : List UInt8) (bad : Bool) : readCommitV s bad (Co.of sCommit) = ⟨sCommit, (ref sCommit1 s bad).1, (rmark (rc1 s bad).1 (rc1 s bad).2).1, authorV (rc2 s bad).1 (rc2 s bad).2, (data (rc3 s bad).1 (rc3 s bad).2).1,
    fromOrV (rc4 s bad).1 (rc4 s bad).2, mergesV (rc5 s bad).1.length (rc5 s bad).1 (rc5 s bad).2, changesAll (rc6 s bad).1 (rc6 s bad).2⟩ := by
  unfold readCommitV Co.of
  with_reducible rfl

theorem co_ok8 {w r d : List UInt8} {m : Int} {a : Au} {f : Wh} {ms : List Wh} {cs : List Ch} (h1 : 0 ≤ m ∧ m ≤ 999) (h2 : r.length ≤ 20) (h3 : a.name.length ≤ 20) (h4 : a.mail.length ≤ 20) (h5 : 0 ≤ a.time ∧ a.time ≤ 9999999999)
    (h6 : d.length ≤ 200) (h7 : WhOk f) (h8 : ms.length ≤ 3) (h9 : ∀ x ∈ ms, WhOk x) (h10 : cs.length ≤ 30) (h11 : ∀ x ∈ cs, ChOk x) : CoOk ⟨w, r, m, a, d, f, ms, cs⟩ :=
  ⟨h1, Nat.le_trans h2 (by decide), Nat.le_trans h3 (by decide), Nat.le_trans h4 (by decide), h5, Nat.le_trans h6 (by decide), h7, ⟨h8, h9⟩, ⟨h10, h11⟩⟩

theorem co_commit {s : List UInt8} {bad : Bool} (r1 : (ref sCommit1 s bad).1.length ≤ 20) (n1 : (authorV (rc2 s bad).1 (rc2 s bad).2).name.length ≤ 20) (n2 : (authorV (rc2 s bad).1 (rc2 s bad).2).mail.length ≤ 20)
    (d1 : (data (rc3 s bad).1 (rc3 s bad).2).1.length ≤ 200) (f1 : WhOk (fromOrV (rc4 s bad).1 (rc4 s bad).2)) (m1 : (mergesV (rc5 s bad).1.length (rc5 s bad).1 (rc5 s bad).2).length ≤ 3) (m2 : ∀ x ∈ mergesV (rc5 s bad).1.length (rc5 s bad).1 (rc5 s bad).2, WhOk x)
    (c1 : (changesAll (rc6 s bad).1 (rc6 s bad).2).length ≤ 30) (c2 : ∀ x ∈ changesAll (rc6 s bad).1 (rc6 s bad).2, ChOk x) : CoOk (readCommitV s bad (Co.of sCommit)) := by
  rw [rcV_eq]
  exact co_ok8 (rmark_999 _ _) r1 n1 n2 (author_time _ _) d1 f1 m1 m2 c1 c2

set_option maxHeartbeats 1000000 in
theorem readOne_fine {s : List UInt8} {bad : Bool} (h : (readOne s bad).2 = false) : CoOk (readOneV s bad) := by
  unfold readOne at h
  unfold readOneV
  split
  · have := data_len (rmark (exactly sBlob s bad).1 (exactly sBlob s bad).2).2.1 (rmark (exactly sBlob s bad).1 (exactly sBlob s bad).2).2.2
    exact ⟨rmark_999 (exactly sBlob s bad).1 (exactly sBlob s bad).2, Nat.zero_le _, Nat.zero_le _, Nat.zero_le _, zTime, Nat.le_trans this (by decide), none_whOk, ⟨Nat.zero_le _, fun x hx => by cases hx⟩, ⟨Nat.zero_le _, fun x hx => by cases hx⟩⟩
  · rename_i h1
    rw [if_neg h1] at h
    split
    · rename_i h2
      rw [if_pos h2, readCommit_rc] at h
      obtain ⟨b6, c1, c2⟩ := changes_fine h
      have e6 : (merges (rc5 s bad).1 (rc5 s bad).2).2 = false := by unfold rc6 at b6; exact b6
      obtain ⟨b5, m1, m2⟩ := merges_fine e6
      have e5 : (fromOr (rc4 s bad).1 (rc4 s bad).2).2 = false := by unfold rc5 at b5; exact b5
      obtain ⟨f1, b4⟩ := fromOr_fine e5
      have e4 : (data (rc3 s bad).1 (rc3 s bad).2).2.2 = false := by unfold rc4 at b4; exact b4
      have b3 := data_fine e4
      have e3 : (author (rc2 s bad).1 (rc2 s bad).2).2 = false := by unfold rc3 at b3; exact b3
      obtain ⟨b2, n1, n2⟩ := author_fine e3
      have e2 : (rmark (rc1 s bad).1 (rc1 s bad).2).2.2 = false := by unfold rc2 at b2; exact b2
      have b1 := rmark_fine e2
      have e1 : (ref sCommit1 s bad).2.2 = false := by unfold rc1 at b1; exact b1
      have r1 := ref_fine e1
      have d1 := data_len (rc3 s bad).1 (rc3 s bad).2
      exact co_commit r1 n1 n2 d1 f1 m1 m2 c1 c2
    · rename_i h2
      rw [if_neg h2] at h
      split
      · rename_i h3
        rw [if_pos h3] at h
        unfold readTag at h
        have b2 := data_fine h
        obtain ⟨f1, b1⟩ := which_fine b2
        have r1 := ref_fine b1
        have d1 := data_len (which sFrom (ref sTag1 s bad).2.1 (ref sTag1 s bad).2.2).1 (which sFrom (ref sTag1 s bad).2.1 (ref sTag1 s bad).2.2).2
        exact ⟨z999, Nat.le_trans r1 (by decide), Nat.zero_le _, Nat.zero_le _, zTime, Nat.le_trans d1 (by decide), f1, ⟨Nat.zero_le _, fun x hx => by cases hx⟩, ⟨Nat.zero_le _, fun x hx => by cases hx⟩⟩
      · rename_i h3
        rw [if_neg h3] at h
        split
        · rename_i h4
          rw [if_pos h4] at h
          unfold readReset at h
          have b2 : (fromOr (ref sReset1 s bad).2.1 (ref sReset1 s bad).2.2).2 = false := by
            cases hb : (fromOr (ref sReset1 s bad).2.1 (ref sReset1 s bad).2.2).2 with
            | false => rfl
            | true => rw [hb, exactly_bad] at h; cases h
          obtain ⟨f1, b1⟩ := fromOr_fine b2
          have r1 := ref_fine b1
          exact ⟨z999, Nat.le_trans r1 (by decide), Nat.zero_le _, Nat.zero_le _, zTime, Nat.zero_le _, f1, ⟨Nat.zero_le _, fun x hx => by cases hx⟩, ⟨Nat.zero_le _, fun x hx => by cases hx⟩⟩
        · rename_i h4
          rw [if_neg h4] at h
          cases h

theorem readAllV_fine : ∀ (f : Nat) (s : List UInt8) (bad : Bool), ∀ c ∈ readAllV f s bad, CoOk c := by
  intro f
  induction f with
  | zero => intro s bad c hc; simp [readAllV] at hc
  | succ f ih =>
    intro s bad c hc
    unfold readAllV at hc
    split at hc
    · simp at hc
    · split at hc
      · simp at hc
      · rename_i h1 h2
        rcases List.mem_cons.1 hc with rfl | hc
        · exact readOne_fine (by simpa using h2)
        · exact ih _ _ _ hc

end Pu

theorem strOk_any (x : List UInt8) : StrOk x := by
  refine ⟨fun h => check_len x h, fun h => ?_, fun _ => Pu.readAllV_fine _ _ _⟩
  have e := Pu.readAllF_len (x.length + 1) x false 0
  have e2 : (Pu.readAll x).1 = (Pu.commands x).length := by
    unfold Pu.readAll Pu.commands
    omega
  unfold Pu.check at h
  rw [← e2]
  split at h
  · cases h
  · split at h
    · cases h
    · split at h
      · cases h
      · split at h
        · cases h
        · omega

end Go.Proofs.YtepgoppgblfjbaaGreatDoor

/- How long the names in a store are. -/
namespace Go.Proofs.YtepgoppgblfjbaaGreatDoor

def ObB (o : List UInt8 → Option (Nat × List UInt8)) : Prop := ∀ k, o k ≠ none → k.length ≤ 64
structure StB (S : St) : Prop where
  obj : ObB S.obj
  ref : ∀ k, S.ref k ≠ none → k.length ≤ 1000
  tag : ∀ k, S.tag k ≠ none → k.length ≤ 1000

theorem StB.empty : StB St.empty := ⟨fun _ h => absurd rfl h, fun _ h => absurd rfl h, fun _ h => absurd rfl h⟩

namespace Pd
theorem add_b {KK : List Int} {kind : Nat} {c : List UInt8} {o : List UInt8 → Option (Nat × List UInt8)} (h : ObB o) : ObB (add KK kind c o) := by
  intro k hk
  unfold add at hk
  by_cases e : k = Sh.idK KK kind c
  · rw [e, idK_len]; exact Nat.le_refl _
  · rw [upd_other _ _ _ _ e] at hk
    exact h k hk

mutual
theorem addTr_b {KK : List Int} : ∀ (t : Tr) {o : List UInt8 → Option (Nat × List UInt8)}, ObB o → ObB (addTr KK t o)
  | .mk c ws, o, h => by
    unfold addTr
    exact addTrs_b ws (add_b h)
theorem addTrs_b {KK : List Int} : ∀ (ts : Trs) {o : List UInt8 → Option (Nat × List UInt8)}, ObB o → ObB (addTrs KK ts o)
  | .nil, o, h => by
    unfold addTrs
    exact h
  | .cons t r, o, h => by
    unfold addTrs
    exact addTrs_b r (addTr_b t h)
end

theorem addObj_b {KK : List Int} {kind : Nat} {c : List UInt8} {w : Wk} (h : StB w.st) : StB (addObj KK kind c w).st := ⟨add_b h.obj, h.ref, h.tag⟩

theorem change1_b {KK : List Int} {w : Wk} (l : List Fi) (c : Pu.Ch) (h : StB w.st) : StB (change1 KK w l c).2.1.st := by
  unfold change1
  split
  · split
    · exact addObj_b h
    · split <;> exact h
  · split
    · exact h
    · split
      · exact h
      · split <;> exact h

theorem changes_b {KK : List Int} : ∀ (cs : List Pu.Ch) {w : Wk} (l : List Fi), StB w.st → StB (changes KK w l cs).2.1.st
  | [], w, l, h => h
  | c :: r, w, l, h => by
    unfold changes
    split
    · exact changes_b r _ (change1_b l c h)
    · exact change1_b l c h

theorem upd_b {β : Type} {f : List UInt8 → Option β} {n : Nat} (h : ∀ k, f k ≠ none → k.length ≤ n) {key : List UInt8} (hk : key.length ≤ n) (v : Option β) : ∀ k, upd f key v k ≠ none → k.length ≤ n := by
  intro k hn
  by_cases e : k = key
  · rw [e]; exact hk
  · rw [upd_other _ _ _ _ e] at hn
    exact h k hn

theorem commitOf_b {KK : List Int} {w : Wk} (ps : List Com) (l : List Fi) (c : Pu.Co) (h : StB w.st) (hc : c.ref.length ≤ 1000) : StB (commitOf KK w ps l c).st := by
  unfold commitOf
  exact ⟨add_b (addTr_b _ h.obj), upd_b h.ref hc _, h.tag⟩

theorem one_b {KK : List Int} {w : Wk} {c : Pu.Co} (h : StB w.st) (hc : CoOk c) : StB (one KK w c).2.st := by
  unfold one
  split
  · unfold blob
    split
    · exact h
    · exact addObj_b h
  · split
    · unfold commit
      split
      · exact h
      · split
        · exact h
        · split
          · exact commitOf_b _ _ _ (changes_b _ _ h) hc.ref
          · exact h
    · split
      · unfold tag
        split
        · exact h
        · exact ⟨add_b h.obj, h.ref, upd_b h.tag hc.ref _⟩
      · split
        · unfold reset
          split
          · exact ⟨h.obj, upd_b h.ref hc.ref _, h.tag⟩
          · split
            · exact h
            · exact ⟨h.obj, upd_b h.ref hc.ref _, h.tag⟩
        · exact h

theorem all_b {KK : List Int} : ∀ (cs : List Pu.Co) {w : Wk} (n : Nat), StB w.st → (∀ c ∈ cs, CoOk c) → StB (all KK w cs n).2.st
  | [], w, n, h, _ => h
  | c :: r, w, n, h, hc => by
    unfold all
    split
    · exact all_b r _ (one_b h (hc c (List.mem_cons_self ..))) (fun x hx => hc x (List.mem_cons_of_mem _ hx))
    · exact h

theorem imp_b {KK : List Int} {S : St} (x : List UInt8) (h : StB S) : StB (imp KK S x).2 := by
  unfold imp
  split
  · split
    · exact all_b _ _ h (Pu.readAllV_fine _ _ _)
    · exact h
  · exact h
end Pd
end Go.Proofs.YtepgoppgblfjbaaGreatDoor

/- What shown says of a store, plainly; rows of two cells. -/
namespace Go.Proofs.YtepgoppgblfjbaaGreatDoor
open Go.RowKit

def refLn (g : List UInt8 → Option Com) (k : List UInt8) : List UInt8 := [114, 32] ++ k ++ [32] ++ idAt g k ++ [10]
def tagLn (g : List UInt8 → Option (List UInt8)) (k : List UInt8) : List UInt8 := [116, 32] ++ k ++ [32] ++ idT g k ++ [10]
def idLn (k : List UInt8) : List UInt8 := k ++ [10]

/-- What is shown of a store. -/
def ShownR (S : St) (out : List UInt8) : Prop :=
  ∃ ks ts is, KeyL S.ref ks ∧ KeyL S.tag ts ∧ KeyL S.obj is ∧ out = ks.flatMap (refLn S.ref) ++ ts.flatMap (tagLn S.tag) ++ is.flatMap idLn

theorem ShownR.one {S : St} {a b : List UInt8} (ha : ShownR S a) (hb : ShownR S b) : a = b := by
  obtain ⟨k1, t1, i1, h1, h2, h3, rfl⟩ := ha
  obtain ⟨k2, t2, i2, g1, g2, g3, rfl⟩ := hb
  rw [h1.one g1 (fun _ => rfl), h2.one g2 (fun _ => rfl), h3.one g3 (fun _ => rfl)]

theorem keyL_nil {β : Type} {l : List (List UInt8)} (h : KeyL (fun _ => (none : Option β)) l) : l = [] := by
  cases l with
  | nil => rfl
  | cons x l =>
    have := (h.mem x).1 (List.mem_cons_self ..)
    cases this

theorem ShownR.empty {a : List UInt8} (h : ShownR St.empty a) : a = [] := by
  obtain ⟨k1, t1, i1, h1, h2, h3, rfl⟩ := h
  rw [keyL_nil h1, keyL_nil h2, keyL_nil h3]
  rfl

theorem flatL_len {α : Type} (f : α → List UInt8) (B : Nat) : ∀ (l : List α), (∀ x ∈ l, (f x).length ≤ B) → (l.flatMap f).length ≤ B * l.length
  | [], _ => Nat.le_refl _
  | x :: l, h => by
    have h1 := h x (List.mem_cons_self ..)
    have h2 := flatL_len f B l (fun y hy => h y (List.mem_cons_of_mem _ hy))
    rw [List.flatMap_cons, List.length_append, List.length_cons, Nat.mul_add]
    omega

theorem flat2_at {α : Type} (f : α → List Value) (hf : ∀ x, (f x).length = 2) : ∀ (l : List α) (i j : Nat) (hi : i < l.length), j < 2 → (l.flatMap f)[i * 2 + j]? = (f l[i])[j]?
  | [], i, j, hi, _ => absurd hi (Nat.not_lt_zero _)
  | x :: l, 0, j, _, hj => by
    rw [List.flatMap_cons, List.getElem?_append_left (by rw [hf]; omega)]
    simp
  | x :: l, i + 1, j, hi, hj => by
    rw [List.flatMap_cons, List.getElem?_append_right (by rw [hf]; omega), hf]
    have e : (i + 1) * 2 + j - 2 = i * 2 + j := by omega
    rw [e, flat2_at f hf l i j (by simpa using hi) hj]
    rfl

theorem row2_cell {w : World} {base : Nat} {e : TypeId} {v : Value} {l : List (List UInt8)} {f : List UInt8 → List Value} (h : w.ownsRow base e 2 v l.length (l.flatMap f)) (hf : ∀ x, (f x).length = 2) (k : Nat) (hk : k < l.length) :
    ∃ g cap, v = .slice (some ⟨g, 0, none⟩) l.length cap ∧ ∀ j, j < 2 → w.cell? ⟨g, k * 2 + j, none⟩ = (f l[k])[j]? := by
  rcases h.2 with ⟨_, h0⟩ | ⟨g, cap, cur, rfl, hb, hg, hc, hm, hs, ht⟩
  · omega
  · refine ⟨g, cap, rfl, fun j hj => ?_⟩
    unfold World.cell?
    rw [hg]
    have hx := flat2_at f hf l k j hk hj
    rw [← ht, List.getElem?_take_of_lt (by omega)] at hx
    rw [← hx]
    simp

theorem row_shape {w : World} {base n : Nat} {e : TypeId} {size : Nat} {v : Value} {xs : List Value} (h : w.ownsRow base e size v n xs) : ∃ a c, v = .slice a n c := by
  rcases h.2 with ⟨h1, h2⟩ | ⟨g, cap, cur, h1, _⟩
  · exact ⟨none, 0, by rw [h1, h2]⟩
  · exact ⟨_, _, h1⟩

theorem flatB_succ {α : Type} (f : α → List UInt8) (l : List α) (k : Nat) (h : k < l.length) : (l.take (k + 1)).flatMap f = (l.take k).flatMap f ++ f l[k] := by
  rw [List.take_succ_eq_append_getElem h, List.flatMap_append]
  simp

end Go.Proofs.YtepgoppgblfjbaaGreatDoor

/- braidkeep.shown. -/
namespace Go.Proofs.YtepgoppgblfjbaaGreatDoor
open Go.RowKit

theorem idAt_len {M : Nat → Prop} {w : World} {f : List UInt8 → Option Value} {g : List UInt8 → Option Com} (h : ComF M w f g) (k : List UInt8) : (idAt g k).length ≤ 64 := by
  unfold idAt
  cases hg : g k with
  | none => simp
  | some c =>
    obtain ⟨b, _, hC⟩ := (h k).2 c hg
    show (Sh.hex c.sum).length ≤ 64
    rw [hex_len, hC.sum]
    exact Nat.le_refl _
theorem idT_len {M : Nat → Prop} {w : World} {f : List UInt8 → Option Value} {g : List UInt8 → Option (List UInt8)} (h : TagF M w f g) (k : List UInt8) : (idT g k).length ≤ 64 := by
  unfold idT
  cases hg : g k with
  | none => simp
  | some c =>
    obtain ⟨b, _, hC⟩ := (h k).2 c hg
    obtain ⟨_, _, _, _, h5⟩ := hC
    show (Sh.hex c).length ≤ 64
    rw [hex_len, h5]
    exact Nat.le_refl _

theorem KeyL.some' {β : Type} {f : List UInt8 → Option β} {ks : List (List UInt8)} (h : KeyL f ks) {x : List UInt8} (hx : x ∈ ks) : f x ≠ none := by
  have := (h.mem x).1 hx
  intro e
  rw [e] at this
  cases this

theorem refLn_len {M : Nat → Prop} {w : World} {f : List UInt8 → Option Value} {S : St} (h : ComF M w f S.ref) (hb : StB S) {ks : List (List UInt8)} (hK : KeyL S.ref ks) : ∀ x ∈ ks, (refLn S.ref x).length ≤ 1100 := by
  intro x hx
  have h1 := idAt_len h x
  have h2 := hb.ref x (hK.some' hx)
  unfold refLn
  simp only [List.length_append, List.length_cons, List.length_nil]
  omega
theorem tagLn_len {M : Nat → Prop} {w : World} {f : List UInt8 → Option Value} {S : St} (h : TagF M w f S.tag) (hb : StB S) {ks : List (List UInt8)} (hK : KeyL S.tag ks) : ∀ x ∈ ks, (tagLn S.tag x).length ≤ 1100 := by
  intro x hx
  have h1 := idT_len h x
  have h2 := hb.tag x (hK.some' hx)
  unfold tagLn
  simp only [List.length_append, List.length_cons, List.length_nil]
  omega
theorem idLn_len {S : St} (hb : StB S) {ks : List (List UInt8)} (hK : KeyL S.obj ks) : ∀ x ∈ ks, (idLn x).length ≤ 1100 := by
  intro x hx
  have h2 := hb.obj x (hK.some' hx)
  unfold idLn
  simp only [List.length_append, List.length_cons, List.length_nil]
  omega

theorem flat_take {α : Type} (f : α → List UInt8) (B : Nat) (l : List α) (h : ∀ x ∈ l, (f x).length ≤ B) (k : Nat) : ((l.take k).flatMap f).length ≤ B * l.length := by
  refine Nat.le_trans (flatL_len f B (l.take k) (fun x hx => h x (List.mem_of_mem_take hx))) ?_
  refine Nat.mul_le_mul_left _ ?_
  rw [List.length_take]
  omega

set_option maxHeartbeats 1600000 in
set_option maxRecDepth 100000 in
theorem shown_any {M : Nat → Prop} {w : World} {s h o c r t n : Nat} {S : St} {j : List UInt8} {vj : Value} (hs : Str M w s h o c r t n S j vj) (hn : n ≤ 1000000000) (hb : StB S) :
    Calls Tryz.prog 37 #[.pointer (some ⟨s, 0, none⟩)] w fun e w' => ∃ out, e = .returned (.string ⟨out.toArray⟩) ∧ ShownR S out ∧ out.length ≤ 10000000000000 ∧ Kx (fun _ => False) w w' := by
  have hmx : maxLen = 9223372036854775807 := rfl
  have happ := app_str
  obtain ⟨fr, _, hFr⟩ := hs.sto.ref
  obtain ⟨ft, _, hFt⟩ := hs.sto.tag
  have hrefs := refs_any' hs hn
  have Hs : Hid (Str M w s h o c r t n S j vj) := hs
  have Hb : Hid (StB S) := hb
  have HFr : Hid (ComF M w fr S.ref) := hFr
  have HFt : Hid (TagF M w ft S.tag) := hFt
  clear hs hb hFr hFt
  go_enter Tryz.func37, Tryz.ntmps37
  go_wp2_with fail
  refine hrefs.mono ?_
  rintro _ w1 ⟨v1, ks, rfl, hK, hkl, hrow, hk1⟩
  clear hrefs
  obtain ⟨a1, c1, rfl⟩ := row_shape hrow
  have HR : Hid (∀ x ∈ ks, (refLn S.ref x).length ≤ 1100) := refLn_len HFr.out Hb.out hK
  have HK : Hid (KeyL S.ref ks) := hK
  clear hK
  go_wp2_with fail
  go_loopw [5, 3] (fun iv ov wr => ∃ i : Nat, iv = .int .i64 i ∧ i ≤ ks.length ∧ ov = .string ⟨((ks.take i).flatMap (refLn S.ref)).toArray⟩ ∧ Kx (fun _ => False) w1 wr) (fun iv _ _ => ks.length - (intOf iv).toNat)
  case atStart => exact ⟨0, rfl, by omega, rfl, Kx.refl _ _⟩
  case round =>
    obtain ⟨i, rfl, hi, rfl, hkr⟩ := hrel
    by_cases hlt : i < ks.length
    · have hlt2 : (i : Int) < (ks.length : Int) := by omega
      obtain ⟨g, cap, he, hcell⟩ := row2_cell (own_kept' hrow hkr (fun _ _ _ => id)) (fun _ => rfl) i hlt
      cases he
      have hc0 : wr.cell? ⟨g, i * 2, none⟩ = some (.string ⟨ks[i].toArray⟩) := hcell 0 (by omega)
      have hc1 : wr.cell? ⟨g, i * 2 + 1, none⟩ = some (.string ⟨(idAt S.ref ks[i]).toArray⟩) := hcell 1 (by omega)
      have HA : Hid ((ks.take (i + 1)).flatMap (refLn S.ref) = (ks.take i).flatMap (refLn S.ref) ++ ([114, 32] ++ ks[i] ++ [32] ++ idAt S.ref ks[i] ++ [10])) := flatB_succ _ _ _ hlt
      have hl2 : ks[i].length + (idAt S.ref ks[i]).length ≤ 1100 := by
        have := HR.out ks[i] (List.getElem_mem hlt)
        unfold refLn at this
        simp only [List.length_append, List.length_cons, List.length_nil] at this
        omega
      have hl1 := flat_take (refLn S.ref) 1100 ks HR.out i
      generalize (ks.take i).flatMap (refLn S.ref) = A at *
      generalize idAt S.ref ks[i] = idd at *
      generalize ks[i] = nm at *
      clear hcell
      go_wp2_with fail
      go_quiet (fail)
      go_wp2
      go_roundw
      case rel => exact ⟨i + 1, by go_num, hlt, by rw [HA.out]; simp, hkr.drewN _⟩
      case measure => simp [intOf]; omega
    · obtain rfl : i = ks.length := by omega
      have hlt2 : ¬ (ks.length : Int) < (ks.length : Int) := by omega
      rw [List.take_of_length_le (Nat.le_refl _)]
      have hlo1 := flatL_len (refLn S.ref) 1100 ks HR.out
      generalize hO1 : ks.flatMap (refLn S.ref) = O1 at *
      have HO1 : Hid (ks.flatMap (refLn S.ref) = O1) := hO1
      clear hO1
      have hk2 := hk1.trans hkr
      have htags := tags_any (Hs.out.kept hk2 (fun _ _ h => h.elim) (fun _ _ => id)) hn
      clear hrow hk1 hkr HR
      go_wp2_with fail
      refine htags.mono ?_
      rintro _ w3 ⟨v3, ts, rfl, hKt, htl, hrowt, hk3⟩
      clear htags
      have hk4 := hk2.trans hk3
      obtain ⟨a3, c3, rfl⟩ := row_shape hrowt
      have HRt : Hid (∀ x ∈ ts, (tagLn S.tag x).length ≤ 1100) := tagLn_len HFt.out Hb.out hKt
      have HKt : Hid (KeyL S.tag ts) := hKt
      clear hKt hk2 hk3
      go_wp2_with fail
      go_loopw [7, 3] (fun iv ov wr => ∃ i : Nat, iv = .int .i64 i ∧ i ≤ ts.length ∧ ov = .string ⟨(O1 ++ (ts.take i).flatMap (tagLn S.tag)).toArray⟩ ∧ Kx (fun _ => False) w3 wr) (fun iv _ _ => ts.length - (intOf iv).toNat)
      case atStart => exact ⟨0, rfl, by omega, by simp, Kx.refl _ _⟩
      case round =>
        obtain ⟨i, rfl, hi, rfl, hkr⟩ := hrel
        by_cases hlt : i < ts.length
        · have hlt2 : (i : Int) < (ts.length : Int) := by omega
          obtain ⟨g, cap, he, hcell⟩ := row2_cell (own_kept' hrowt hkr (fun _ _ _ => id)) (fun _ => rfl) i hlt
          cases he
          have hc0 : wr.cell? ⟨g, i * 2, none⟩ = some (.string ⟨ts[i].toArray⟩) := hcell 0 (by omega)
          have hc1 : wr.cell? ⟨g, i * 2 + 1, none⟩ = some (.string ⟨(idT S.tag ts[i]).toArray⟩) := hcell 1 (by omega)
          have HA : Hid ((ts.take (i + 1)).flatMap (tagLn S.tag) = (ts.take i).flatMap (tagLn S.tag) ++ ([116, 32] ++ ts[i] ++ [32] ++ idT S.tag ts[i] ++ [10])) := flatB_succ _ _ _ hlt
          have hl2 : ts[i].length + (idT S.tag ts[i]).length ≤ 1100 := by
            have := HRt.out ts[i] (List.getElem_mem hlt)
            unfold tagLn at this
            simp only [List.length_append, List.length_cons, List.length_nil] at this
            omega
          have hl1 := flat_take (tagLn S.tag) 1100 ts HRt.out i
          generalize (ts.take i).flatMap (tagLn S.tag) = A at *
          generalize idT S.tag ts[i] = idd at *
          generalize ts[i] = nm at *
          clear hcell
          go_wp2_with fail
          go_quiet (fail)
          go_wp2
          go_roundw
          case rel => exact ⟨i + 1, by go_num, hlt, by rw [HA.out]; simp, hkr.drewN _⟩
          case measure => simp [intOf]; omega
        · obtain rfl : i = ts.length := by omega
          have hlt2 : ¬ (ts.length : Int) < (ts.length : Int) := by omega
          rw [List.take_of_length_le (Nat.le_refl _)]
          have hlo2 := flatL_len (tagLn S.tag) 1100 ts HRt.out
          generalize hO2 : ts.flatMap (tagLn S.tag) = O2 at *
          have HO2 : Hid (ts.flatMap (tagLn S.tag) = O2) := hO2
          clear hO2
          have hk5 := hk4.trans hkr
          have hids := ids_any (Hs.out.kept hk5 (fun _ _ h => h.elim) (fun _ _ => id)) hn
          clear hrowt hk4 hkr HRt
          obtain ⟨O3, hO3⟩ : ∃ O3, O3 = O1 ++ O2 := ⟨_, rfl⟩
          have hlo3 : O3.length = O1.length + O2.length := by rw [hO3, List.length_append]
          have HO3 : Hid (O3 = O1 ++ O2) := hO3
          rw [← hO3]
          clear hO3
          go_wp2_with fail
          refine hids.mono ?_
          rintro _ w6 ⟨v6, is, rfl, hKi, hil, hrowi, hk6⟩
          clear hids
          have hk7 := hk5.trans hk6
          obtain ⟨a6, c6, rfl⟩ := row_shape hrowi
          have HRi : Hid (∀ x ∈ is, (idLn x).length ≤ 1100) := idLn_len Hb.out hKi
          have HKi : Hid (KeyL S.obj is) := hKi
          clear hKi hk5 hk6
          go_wp2_with fail
          go_loopw [9, 3] (fun iv ov wr => ∃ i : Nat, iv = .int .i64 i ∧ i ≤ is.length ∧ ov = .string ⟨(O3 ++ (is.take i).flatMap idLn).toArray⟩ ∧ Kx (fun _ => False) w6 wr) (fun iv _ _ => is.length - (intOf iv).toNat)
          case atStart => exact ⟨0, rfl, by omega, by simp, Kx.refl _ _⟩
          case round =>
            obtain ⟨i, rfl, hi, rfl, hkr⟩ := hrel
            by_cases hlt : i < is.length
            · have hlt2 : (i : Int) < (is.length : Int) := by omega
              obtain ⟨g, cap, he, hc0⟩ := row_cell (own_kept' hrowi hkr (fun _ _ _ => id)) i hlt
              cases he
              have HA : Hid ((is.take (i + 1)).flatMap idLn = (is.take i).flatMap idLn ++ (is[i] ++ [10])) := flatB_succ _ _ _ hlt
              have hl2 : is[i].length ≤ 1100 := by
                have := HRi.out is[i] (List.getElem_mem hlt)
                unfold idLn at this
                simp only [List.length_append, List.length_cons, List.length_nil] at this
                omega
              have hl1 := flat_take idLn 1100 is HRi.out i
              generalize (is.take i).flatMap idLn = A at *
              generalize is[i] = nm at *
              go_wp2
              go_roundw
              case rel => exact ⟨i + 1, by go_num, hlt, by rw [HA.out], hkr⟩
              case measure => simp [intOf]; omega
            · obtain rfl : i = is.length := by omega
              have hlt2 : ¬ (is.length : Int) < (is.length : Int) := by omega
              rw [List.take_of_length_le (Nat.le_refl _)]
              have hlo4 := flatL_len idLn 1100 is HRi.out
              have HF : Hid (ShownR S (O3 ++ is.flatMap idLn)) := ⟨ks, ts, is, HK.out, HKt.out, HKi.out, by rw [HO3.out, HO1.out, HO2.out]⟩
              have hk8 := hk7.trans hkr
              clear hrowi
              go_wp2
              go_ret
              exact ⟨_, rfl, HF.out, by rw [List.length_append]; omega, hk8⟩

end Go.Proofs.YtepgoppgblfjbaaGreatDoor

/- Store.Bytes. -/
namespace Go.Proofs.YtepgoppgblfjbaaGreatDoor
open Go.RowKit

set_option maxHeartbeats 800000 in
set_option maxRecDepth 100000 in
theorem clone_nil (w : World) : Calls Tryz.prog 92 #[.slice none 0 0] w fun e w' => e = .returned (.slice none 0 0) ∧ w' = w := by
  have he : ∀ w : World, (binOp .eql 58 (.slice none 0 0) (.slice none 0 0)).run Tryz.prog w = .ok (.bool true) w := fun _ => rfl
  go_enter Tryz.func92, Tryz.ntmps92
  go_wp2
  go_ret
  exact ⟨rfl, rfl⟩

set_option maxHeartbeats 800000 in
set_option maxRecDepth 100000 in
theorem clone_some (A : Addr) (n c : Nat) (l : List UInt8) (w : World) (hn : l.length = n) (hlen : n ≤ 140737488355328) (hc : ∀ j x, (A8 l)[j]? = some x → w.cell? (A.add j) = some x) :
    Calls Tryz.prog 92 #[.slice (some A) n c] w fun e w' => ∃ v, e = .returned v ∧ w'.ownsRow w.heap.size 5 1 v n (A8 l) ∧ Kx (fun _ => False) w w' := by
  obtain ⟨i0, hi, hz0, hz1, hz2⟩ := info_parts info5
  have hown0 : (w.alloc (.cells #[] 5)).ownsRow w.heap.size 5 1 (.slice (some ⟨w.heap.size, 0, none⟩) 0 0) 0 [] :=
    ⟨rfl, .inr ⟨w.heap.size, 0, #[], rfl, Nat.le_refl _, by show (w.heap.push _)[w.heap.size]? = _; simp, Nat.le_refl _, by unfold maxLen; omega, rfl, rfl⟩⟩
  have he : ∀ w : World, (binOp .eql 58 (.slice (some A) n c) (.slice none 0 0)).run Tryz.prog w = .ok (.bool false) w := fun _ => rfl
  have hA := (Kx.refl (fun _ => False) w).alloc (.cells #[] 5)
  go_enter Tryz.func92, Tryz.ntmps92
  go_wp2_with (at_builtin; refine wpList_append_own _ rfl (.tmp 5) (.tmp 6) 58 rfl w.heap.size 5 i0 (.int .u8 0) 1 1 Tryz.underlying58 hi hz0 hz1 hz2 rfl (by decide) _ _ _ rfl hown0 A n c (A8 l) rfl ?c0 ?c1 ?c2 ?c3 ?c4 ?c5 ?_)
  case c0 => rw [A8_len, hn]; omega
  case c1 =>
    intro j u hu
    have h1 := hc j u hu
    exact (hA.cell (lt_of_cell h1) id).trans h1
  case c2 => intro y hy; exact A8_one l y hy
  all_goals try (first | omega | (unfold maxLen; omega) | simp)
  intro v' w1 hown' hgrow hnil
  have hk : Kx (fun _ => False) w w1 := hA.grown hgrow (fun k hk => by simp [Value.ownBlock] at hk; omega)
  go_wp2
  go_ret
  exact ⟨_, rfl, by simpa using hown', hk⟩

theorem own_nil_row {w : World} {base n : Nat} {l : List UInt8} (hn : l = []) : n = l.length → w.ownsRow base 5 1 (.slice none 0 0) n (A8 l) := by
  rintro rfl
  subst hn
  exact World.ownsRow_nil _ _ _ _

set_option maxHeartbeats 800000 in
set_option maxRecDepth 100000 in
theorem bytes_any {M : Nat → Prop} {w : World} {s h o c r t n : Nat} {S : St} {j : List UInt8} {vj : Value} (hs : Str M w s h o c r t n S j vj) (hj : j.length ≤ 100000000) :
    Calls Tryz.prog 36 #[.pointer (some ⟨s, 0, none⟩)] w fun e w' => ∃ v, e = .returned v ∧ w'.ownsRow w.heap.size 5 1 v j.length (A8 j) ∧ Kx (fun _ => False) w w' := by
  have hclone : Calls Tryz.prog 92 #[vj] w fun e w' => ∃ v, e = .returned v ∧ w'.ownsRow w.heap.size 5 1 v j.length (A8 j) ∧ Kx (fun _ => False) w w' := by
    rcases hs.jr.own with ⟨rfl, h0⟩ | ⟨g, cap, cur, fz, rfl, hb, hg, hz, hc, hm, hsz, ht⟩
    · have hj0 : j = [] := by cases j with | nil => rfl | cons a l => simp [A8] at h0
      refine (clone_nil w).mono ?_
      rintro e w' ⟨rfl, rfl⟩
      exact ⟨_, rfl, own_nil_row hj0 rfl, Kx.refl _ _⟩
    · have hl := A8_len j
      rw [hl] at ht ⊢
      refine clone_some _ _ _ j w rfl (by omega) ?_
      intro k x hx
      have hk : k < (A8 j).length := (List.getElem?_eq_some_iff.1 hx).1
      rw [← ht, List.getElem?_take_of_lt (by omega)] at hx
      have hadd : (⟨g, 0, none⟩ : Addr).add k = ⟨g, k, none⟩ := by unfold Addr.add; split <;> simp_all
      rw [hadd]
      unfold World.cell?
      rw [hg]
      simpa using hx
  have c1 : w.cell? ⟨s, 1, none⟩ = some vj := Cb.cell hs.jr.blk 1
  have h60 : Calls Tryz.prog 60 #[.pointer (some ⟨s, 1, none⟩)] w fun e w' => ∃ v, e = .returned v ∧ w'.ownsRow w.heap.size 5 1 v j.length (A8 j) ∧ Kx (fun _ => False) w w' := by
    obtain ⟨av, cv, hvj⟩ := hs.jr.own.slice
    subst hvj
    go_enter Tryz.func60, Tryz.ntmps60
    go_wp2_with fail
    refine hclone.mono ?_
    rintro _ w2 ⟨v, rfl, h1, h2⟩
    go_wp2
    go_ret
    exact ⟨v, rfl, h1, h2⟩
  clear hclone c1
  go_enter Tryz.func36, Tryz.ntmps36
  go_wp2_with fail
  refine h60.mono ?_
  rintro _ w2 ⟨v, rfl, h1, h2⟩
  go_wp2
  go_ret
  exact ⟨v, rfl, h1, h2⟩

end Go.Proofs.YtepgoppgblfjbaaGreatDoor
