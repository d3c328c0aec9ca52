/- The document's reader: a command; facts. -/
import Derived.Test.YtepgoppgblfjbaaGreatDoorRefCommit
namespace Go.Proofs.YtepgoppgblfjbaaGreatDoor
open Go.RowKit
namespace Rf

/-- A command that is not the end. -/
def Cmd (rest : List UInt8) : List UInt8 × Bool := if Pu.word rest == Pu.sDone then ([], true) else Pu.readOne rest false

theorem line_cut {rest v r1 : List UInt8} (h : Pu.line rest false = (v, r1, false)) : Lib.cut rest [10] = (v, r1, true) := by
  unfold Pu.line at h
  split at h
  · rename_i hc
    generalize Lib.cut rest [10] = x at *
    obtain ⟨x0, x1, x2⟩ := x
    simp only at hc h
    rw [hc]
    injection h with e1 e2; injection e2 with e2 e3
    rw [e1, e2]
  · injection h with e1 e2; injection e2 with e2 e3; cases e3

theorem word_cut {rest v r1 : List UInt8} (h : Pu.line rest false = (v, r1, false)) : Pu.word rest = (Lib.cut v [32]).1 := by
  unfold Pu.word; rw [line_cut h]

theorem prefix_app {v p : List UInt8} (h : Lib.hasPrefix v p = true) : ∃ x, v = p ++ x := by
  unfold Lib.hasPrefix at h
  obtain ⟨x, e⟩ := List.isPrefixOf_iff_prefix.1 h
  exact ⟨x, e.symm⟩

theorem trim_app {v p : List UInt8} (h : Lib.hasPrefix v p = true) : Lib.trimPrefix v p = v.drop p.length := by
  unfold Lib.trimPrefix; rw [if_pos h]

theorem cut_app (p x : List UInt8) (h : ¬ 32 ∈ p) : (Lib.cut (p ++ 32 :: x) [32]).1 = p := by
  rw [cut_here (p ++ 32 :: x) 32 p.length (by simp) (by simp) (by simpa using h)]
  simp

theorem refHd_at {rest v r1 hd : List UInt8} (h : Pu.line rest false = (v, r1, false)) (hp : Lib.hasPrefix v hd = true) : (Pu.ref hd rest false).2 = Pu.need (Pu.isRef (v.drop hd.length)) r1 false := by
  unfold Pu.ref Pu.after
  rw [h]
  simp only
  rw [hp, trim_app hp]
  rfl

theorem ref_not {rest v r1 hd : List UInt8} (h : Pu.line rest false = (v, r1, false)) (hp : Lib.hasPrefix v hd = false) : (Pu.ref hd rest false).2.2 = true := by
  unfold Pu.ref Pu.after
  rw [h]
  simp only
  rw [hp]
  exact Pu.need_bad _ _

theorem commit_bad (x : List UInt8 × Bool) (h : x.2 = true) : (rcommit x.1 x.2).2 = true := by
  obtain ⟨x0, x1⟩ := x
  have h : x1 = true := h
  subst h
  unfold rcommit Pu.thn
  simp only
  rw [Pu.rmark_bad, Pu.author_bad, Pu.data_bad, Pu.fromOr_bad, Pu.merges_bad, Pu.changes_bad]

theorem readCommit_eq (rest : List UInt8) (bad : Bool) : Pu.readCommit rest bad = rcommit (Pu.ref Pu.sCommit1 rest bad).2.1 (Pu.ref Pu.sCommit1 rest bad).2.2 := rfl

theorem cmd_blob {rest r1 : List UInt8} (h : Pu.line rest false = (Pu.sBlob, r1, false)) : Cmd rest = (Pu.data (Pu.rmark r1 false).2.1 (Pu.rmark r1 false).2.2).2 := by
  have hw : Pu.word rest = Pu.sBlob := by rw [word_cut h]; rfl
  unfold Cmd Pu.readOne
  rw [hw]
  have e1 : (Pu.sBlob == Pu.sDone) = false := rfl
  have e2 : (Pu.sBlob == Pu.sBlob) = true := rfl
  rw [e1, e2]
  simp only [Bool.false_eq_true, if_false, if_true]
  unfold Pu.readBlob
  have e3 : Pu.exactly Pu.sBlob rest false = (r1, false) := by unfold Pu.exactly; rw [h]; rfl
  rw [e3]

theorem cmd_commit {rest v r1 : List UInt8} (h : Pu.line rest false = (v, r1, false)) (hp : Lib.hasPrefix v [99, 111, 109, 109, 105, 116, 32] = true) : Cmd rest = rcommit (Pu.need (Pu.isRef (v.drop 7)) r1 false).1 (Pu.need (Pu.isRef (v.drop 7)) r1 false).2 := by
  have hw : Pu.word rest = Pu.sCommit := by
    rw [word_cut h]
    obtain ⟨x, rfl⟩ := prefix_app hp
    exact cut_app Pu.sCommit x (by decide)
  unfold Cmd Pu.readOne
  rw [hw]
  have e1 : (Pu.sCommit == Pu.sDone) = false := rfl
  have e2 : (Pu.sCommit == Pu.sBlob) = false := rfl
  have e3 : (Pu.sCommit == Pu.sCommit) = true := rfl
  rw [e1, e2, e3]
  simp only [Bool.false_eq_true, if_false, if_true]
  rw [readCommit_eq, refHd_at (hd := Pu.sCommit1) h hp]
  rfl

theorem cmd_tag {rest v r1 : List UInt8} (h : Pu.line rest false = (v, r1, false)) (hp : Lib.hasPrefix v [116, 97, 103, 32] = true) : Cmd rest = (Pu.data (Pu.which [102, 114, 111, 109, 32] (Pu.need (Pu.isRef (v.drop 4)) r1 false).1 (Pu.need (Pu.isRef (v.drop 4)) r1 false).2).1 (Pu.which [102, 114, 111, 109, 32] (Pu.need (Pu.isRef (v.drop 4)) r1 false).1 (Pu.need (Pu.isRef (v.drop 4)) r1 false).2).2).2 := by
  have hw : Pu.word rest = Pu.sTag := by
    rw [word_cut h]
    obtain ⟨x, rfl⟩ := prefix_app hp
    exact cut_app Pu.sTag x (by decide)
  unfold Cmd Pu.readOne
  rw [hw]
  have e1 : (Pu.sTag == Pu.sDone) = false := rfl
  have e2 : (Pu.sTag == Pu.sBlob) = false := rfl
  have e3 : (Pu.sTag == Pu.sCommit) = false := rfl
  have e4 : (Pu.sTag == Pu.sTag) = true := rfl
  rw [e1, e2, e3, e4]
  simp only [Bool.false_eq_true, if_false, if_true]
  unfold Pu.readTag
  rw [refHd_at (hd := Pu.sTag1) h hp]
  rfl

theorem cmd_reset {rest v r1 : List UInt8} (h : Pu.line rest false = (v, r1, false)) (hp : Lib.hasPrefix v [114, 101, 115, 101, 116, 32] = true) : Cmd rest = Pu.exactly [] (Pu.fromOr (Pu.need (Pu.isRef (v.drop 6)) r1 false).1 (Pu.need (Pu.isRef (v.drop 6)) r1 false).2).1 (Pu.fromOr (Pu.need (Pu.isRef (v.drop 6)) r1 false).1 (Pu.need (Pu.isRef (v.drop 6)) r1 false).2).2 := by
  have hw : Pu.word rest = Pu.sReset := by
    rw [word_cut h]
    obtain ⟨x, rfl⟩ := prefix_app hp
    exact cut_app Pu.sReset x (by decide)
  unfold Cmd Pu.readOne
  rw [hw]
  have e1 : (Pu.sReset == Pu.sDone) = false := rfl
  have e2 : (Pu.sReset == Pu.sBlob) = false := rfl
  have e3 : (Pu.sReset == Pu.sCommit) = false := rfl
  have e4 : (Pu.sReset == Pu.sTag) = false := rfl
  have e5 : (Pu.sReset == Pu.sReset) = true := rfl
  rw [e1, e2, e3, e4, e5]
  simp only [Bool.false_eq_true, if_false, if_true]
  unfold Pu.readReset
  rw [refHd_at (hd := Pu.sReset1) h hp]
  rfl

theorem Rs.exactly {b : Nat} {s r v : List UInt8} {bad : Bool} {w : World} (hv : (Pu.line r bad).2.2 = false → v = (Pu.line r bad).1)
    (h : Rs b s (Pu.need v.isEmpty (Pu.line r bad).2.1 (Pu.line r bad).2.2).1 (Pu.need v.isEmpty (Pu.line r bad).2.1 (Pu.line r bad).2.2).2 w) : Rs b s (Pu.exactly [] r bad).1 (Pu.exactly [] r bad).2 w := by
  unfold Pu.exactly
  generalize Pu.line r bad = x at *
  obtain ⟨x0, x1, x2⟩ := x
  cases x2
  · have e : v = x0 := hv rfl
    subst e
    have e2 : (v == []) = v.isEmpty := by cases v <;> rfl
    simp only at h ⊢
    rw [e2]; exact h
  · simp only at h ⊢
    rw [Pu.need_bad] at h ⊢
    exact h.bad _

theorem blob_bad (rest : List UInt8) (h : (Pu.exactly Pu.sBlob rest false).2 = true) : (Pu.readBlob rest false).2 = true := by
  unfold Pu.readBlob; rw [h, Pu.rmark_bad]; exact Pu.data_bad _
theorem tag_bad (rest : List UInt8) (h : (Pu.ref Pu.sTag1 rest false).2.2 = true) : (Pu.readTag rest false).2 = true := by
  unfold Pu.readTag; rw [h, Pu.which_bad]; exact Pu.data_bad _
theorem reset_bad (rest : List UInt8) (h : (Pu.ref Pu.sReset1 rest false).2.2 = true) : (Pu.readReset rest false).2 = true := by
  unfold Pu.readReset; rw [h, Pu.fromOr_bad]; exact Pu.exactly_bad _ _

theorem cmd_of (rest : List UInt8) (h1 : (Pu.exactly Pu.sBlob rest false).2 = true) (h2 : (Pu.ref Pu.sCommit1 rest false).2.2 = true) (h3 : (Pu.ref Pu.sTag1 rest false).2.2 = true) (h4 : (Pu.ref Pu.sReset1 rest false).2.2 = true) : (Cmd rest).2 = true := by
  unfold Cmd Pu.readOne
  split
  · rfl
  · split
    · exact blob_bad rest h1
    · split
      · rw [readCommit_eq]; exact commit_bad (Pu.ref Pu.sCommit1 rest false).2 h2
      · split
        · exact tag_bad rest h3
        · split
          · exact reset_bad rest h4
          · rfl

theorem cmd_line {rest : List UInt8} (h : (Pu.line rest false).2.2 = true) : (Cmd rest).2 = true := by
  have ha : ∀ hd, (Pu.ref hd rest false).2.2 = true := by
    intro hd
    unfold Pu.ref Pu.after
    simp only
    rw [h, Pu.need_bad, Pu.need_bad]
  exact cmd_of rest (by unfold Pu.exactly; rw [h]; exact Pu.need_bad _ _) (ha _) (ha _) (ha _)

theorem cmd_none {rest v r1 : List UInt8} (h : Pu.line rest false = (v, r1, false)) (h1 : (v == [98, 108, 111, 98]) = false) (h2 : Lib.hasPrefix v [99, 111, 109, 109, 105, 116, 32] = false) (h3 : Lib.hasPrefix v [116, 97, 103, 32] = false) (h4 : Lib.hasPrefix v [114, 101, 115, 101, 116, 32] = false) : (Cmd rest).2 = true := by
  refine cmd_of rest ?_ (ref_not (hd := Pu.sCommit1) h h2) (ref_not (hd := Pu.sTag1) h h3) (ref_not (hd := Pu.sReset1) h h4)
  unfold Pu.exactly
  rw [h]
  have : ((v, r1, false) : List UInt8 × List UInt8 × Bool).1 = v := rfl
  have e : (v == Pu.sBlob) = false := h1
  simp only
  rw [e]; rfl

end Rf
end Go.Proofs.YtepgoppgblfjbaaGreatDoor
