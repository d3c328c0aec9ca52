/- What the reader gives, besides what is left and whether it is wrong: plain functions. -/
import Derived.Test.YtepgoppgblfjbaaGreatDoorLens
namespace Go.Proofs.YtepgoppgblfjbaaGreatDoor

/-- An author. -/
structure Au where
  (name mail : List UInt8)
  time : Int

namespace Pu

/-- What names a commit. -/
structure Wh where
  mark : Int
  ref : List UInt8

/-- A change. -/
structure Ch where
  (word mode : List UInt8)
  mark : Int
  (data path to : List UInt8)

/-- A command. -/
structure Co where
  (word ref : List UInt8)
  mark : Int
  au : Au
  data : List UInt8
  frm : Wh
  merges : List Wh
  changes : List Ch

def Wh.none : Wh := ⟨0, []⟩
def Co.of (word : List UInt8) : Co := ⟨word, [], 0, ⟨[], [], 0⟩, [], ⟨0, []⟩, [], []⟩

def whichV (head s : List UInt8) (bad : Bool) : Wh :=
  if (mark (after head s bad).1).2 then ⟨(mark (after head s bad).1).1, []⟩ else ⟨0, (after head s bad).1⟩
def fromOrV (s : List UInt8) (bad : Bool) : Wh := if Lib.hasPrefix s sFrom then whichV sFrom s bad else ⟨0, []⟩
def authorV (s : List UInt8) (bad : Bool) : Au :=
  ⟨(Lib.cut (after sAuthor s bad).1 [32, 60]).1, (Lib.cut (Lib.cut (after sAuthor s bad).1 [32, 60]).2.1 [62, 32]).1,
   (number (Lib.cut (Lib.cut (after sAuthor s bad).1 [32, 60]).2.1 [62, 32]).2.1 0 9999999999).1⟩
def mergesV : Nat → List UInt8 → Bool → List Wh
  | 0, _, _ => []
  | f + 1, s, bad => if Lib.hasPrefix s sMerge then whichV sMerge s bad :: mergesV f (which sMerge s bad).1 (which sMerge s bad).2 else []
def contentV (f s : List UInt8) (bad : Bool) : Int × List UInt8 := if f == sInline then (0, (data s bad).1) else ((mark f).1, [])
def changeMV (f1 f2 f3 s : List UInt8) (bad : Bool) : Ch :=
  let x := need (isPath f3) (need (f1 == s644 || f1 == s755) s bad).1 (need (f1 == s644 || f1 == s755) s bad).2
  ⟨[77], f1, (contentV f2 x.1 x.2).1, (contentV f2 x.1 x.2).2, f3, []⟩
def changeV (l s : List UInt8) (bad : Bool) : Ch :=
  match Lib.split l [32] with
  | [f0, f1, f2, f3] => if f0 == [77] then changeMV f1 f2 f3 s bad else ⟨f0, [], 0, [], [], []⟩
  | [f0, f1] => if f0 == [68] then ⟨f0, [], 0, [], f1, []⟩ else ⟨f0, [], 0, [], [], []⟩
  | [f0, f1, f2] => if f0 == [67] || f0 == [82] then ⟨f0, [], 0, [], f1, f2⟩ else ⟨f0, [], 0, [], [], []⟩
  | f0 :: _ => ⟨f0, [], 0, [], [], []⟩
  | [] => ⟨[], [], 0, [], [], []⟩
def changesV : Nat → List UInt8 → List UInt8 → Bool → List Ch
  | 0, _, _, _ => []
  | f + 1, l, s, bad =>
    if l == [] then []
    else changeV l s bad :: changesV f (line (change l s bad).1 (change l s bad).2).1 (line (change l s bad).1 (change l s bad).2).2.1 (line (change l s bad).1 (change l s bad).2).2.2

def readBlobV (s : List UInt8) (bad : Bool) (c : Co) : Co :=
  { c with mark := (rmark (exactly sBlob s bad).1 (exactly sBlob s bad).2).1, data := (data (rmark (exactly sBlob s bad).1 (exactly sBlob s bad).2).2.1 (rmark (exactly sBlob s bad).1 (exactly sBlob s bad).2).2.2).1 }
def readTagV (s : List UInt8) (bad : Bool) (c : Co) : Co :=
  { c with ref := (ref sTag1 s bad).1, frm := whichV sFrom (ref sTag1 s bad).2.1 (ref sTag1 s bad).2.2,
           data := (data (which sFrom (ref sTag1 s bad).2.1 (ref sTag1 s bad).2.2).1 (which sFrom (ref sTag1 s bad).2.1 (ref sTag1 s bad).2.2).2).1 }
def readResetV (s : List UInt8) (bad : Bool) (c : Co) : Co :=
  { c with ref := (ref sReset1 s bad).1, frm := fromOrV (ref sReset1 s bad).2.1 (ref sReset1 s bad).2.2 }
/-- The states of the reader within a commit. -/
def rc1 (s : List UInt8) (bad : Bool) : List UInt8 × Bool := (ref sCommit1 s bad).2
def rc2 (s : List UInt8) (bad : Bool) : List UInt8 × Bool := (rmark (rc1 s bad).1 (rc1 s bad).2).2
def rc3 (s : List UInt8) (bad : Bool) : List UInt8 × Bool := author (rc2 s bad).1 (rc2 s bad).2
def rc4 (s : List UInt8) (bad : Bool) : List UInt8 × Bool := (data (rc3 s bad).1 (rc3 s bad).2).2
def rc5 (s : List UInt8) (bad : Bool) : List UInt8 × Bool := fromOr (rc4 s bad).1 (rc4 s bad).2
def rc6 (s : List UInt8) (bad : Bool) : List UInt8 × Bool := merges (rc5 s bad).1 (rc5 s bad).2
def changesAll (s : List UInt8) (bad : Bool) : List Ch := changesV (s.length + 2) (line s bad).1 (line s bad).2.1 (line s bad).2.2
def readCommitV (s : List UInt8) (bad : Bool) (c : Co) : Co :=
  { c with ref := (ref sCommit1 s bad).1, mark := (rmark (rc1 s bad).1 (rc1 s bad).2).1, au := authorV (rc2 s bad).1 (rc2 s bad).2, data := (data (rc3 s bad).1 (rc3 s bad).2).1,
           frm := fromOrV (rc4 s bad).1 (rc4 s bad).2, merges := mergesV (rc5 s bad).1.length (rc5 s bad).1 (rc5 s bad).2, changes := changesAll (rc6 s bad).1 (rc6 s bad).2 }
def readOneV (s : List UInt8) (bad : Bool) : Co :=
  if word s == sBlob then readBlobV s bad (Co.of sBlob) else if word s == sCommit then readCommitV s bad (Co.of sCommit)
  else if word s == sTag then readTagV s bad (Co.of sTag) else if word s == sReset then readResetV s bad (Co.of sReset) else Co.of []
def readAllV : Nat → List UInt8 → Bool → List Co
  | 0, _, _ => []
  | f + 1, s, bad => if word s == sDone then [] else if (readOne s bad).2 then [] else readOneV s bad :: readAllV f (readOne s bad).1 (readOne s bad).2
/-- The commands of a stream. -/
def commands (s : List UInt8) : List Co := readAllV (s.length + 1) s false

theorem readCommit_rc (s : List UInt8) (bad : Bool) : readCommit s bad = changes (rc6 s bad).1 (rc6 s bad).2 := by
  simp only [readCommit, thn, rc6, rc5, rc4, rc3, rc2, rc1]

theorem mergesV_nil (f : Nat) (bad : Bool) : mergesV f [] bad = [] := by cases f <;> rfl

theorem mergesV_fuel : ∀ (f g : Nat) (s : List UInt8) (bad : Bool), s.length ≤ f → s.length ≤ g → mergesV f s bad = mergesV g s bad := by
  intro f
  induction f with
  | zero =>
    intro g s bad h _
    have : s = [] := List.length_eq_zero_iff.1 (by omega)
    subst this
    rw [mergesV_nil, mergesV_nil]
  | succ f ih =>
    intro g s bad h hg
    cases g with
    | zero =>
      have : s = [] := List.length_eq_zero_iff.1 (by omega)
      subst this
      rw [mergesV_nil, mergesV_nil]
    | succ g =>
      unfold mergesV
      split
      · rename_i hp
        have hlt := which_lt sMerge s bad (hasPrefix_ne hp (by decide))
        rw [ih g _ _ (by omega) (by omega)]
      · rfl

theorem mergesV_step (s : List UInt8) (bad : Bool) (hp : Lib.hasPrefix s sMerge = true) :
    mergesV s.length s bad = whichV sMerge s bad :: mergesV (which sMerge s bad).1.length (which sMerge s bad).1 (which sMerge s bad).2 := by
  have hne := hasPrefix_ne hp (by decide)
  have hlt := which_lt sMerge s bad hne
  obtain ⟨k, hk⟩ : ∃ k, s.length = k + 1 := ⟨s.length - 1, by have := List.length_pos_iff.2 hne; omega⟩
  rw [hk]
  conv => lhs; unfold mergesV
  rw [if_pos hp, mergesV_fuel _ (which sMerge s bad).1.length _ _ (by omega) (Nat.le_refl _)]

theorem mergesV_stop (f : Nat) (s : List UInt8) (bad : Bool) (hp : Lib.hasPrefix s sMerge = false) : mergesV f s bad = [] := by
  cases f with
  | zero => rfl
  | succ f => unfold mergesV; rw [hp]; rfl

theorem mergesF_len : ∀ (f : Nat) (s : List UInt8) (bad : Bool) (n : Nat), (mergesF f s bad n).1 = n + (mergesV f s bad).length := by
  intro f
  induction f with
  | zero => intro s bad n; rfl
  | succ f ih =>
    intro s bad n
    unfold mergesF mergesV
    split
    · rw [ih]; simp; omega
    · rfl

theorem changesV_nil (f : Nat) (s : List UInt8) (bad : Bool) : changesV f [] s bad = [] := by cases f <;> rfl

theorem changesV_fuel : ∀ (f g : Nat) (l s : List UInt8) (bad : Bool), s.length < f → s.length < g → changesV f l s bad = changesV g l s bad := by
  intro f
  induction f with
  | zero => intro g l s bad h; omega
  | succ f ih =>
    intro g l s bad h hg
    cases g with
    | zero => omega
    | succ g =>
      unfold changesV
      split
      · rfl
      · rcases round_lt l s bad with e | e
        · rw [e, changesV_nil, changesV_nil]
        · rw [ih g _ _ _ (by omega) (by omega)]

theorem changesV_step (l s : List UInt8) (bad : Bool) (hp : (l == []) = false) :
    changesV (s.length + 1) l s bad = changeV l s bad :: changesV ((line (change l s bad).1 (change l s bad).2).2.1.length + 1) (line (change l s bad).1 (change l s bad).2).1 (line (change l s bad).1 (change l s bad).2).2.1 (line (change l s bad).1 (change l s bad).2).2.2 := by
  conv => lhs; unfold changesV
  rw [hp]
  simp only [Bool.false_eq_true, if_false]
  rcases round_lt l s bad with e | e
  · rw [e, changesV_nil, changesV_nil]
  · rw [changesV_fuel _ ((line (change l s bad).1 (change l s bad).2).2.1.length + 1) _ _ _ (by omega) (by omega)]

theorem changesF_len : ∀ (f : Nat) (l s : List UInt8) (bad : Bool) (n : Nat), (changesF f l s bad n).1 = n + (changesV f l s bad).length := by
  intro f
  induction f with
  | zero => intro l s bad n; rfl
  | succ f ih =>
    intro l s bad n
    unfold changesF changesV
    split
    · rfl
    · rw [ih]; simp; omega

end Pu
end Go.Proofs.YtepgoppgblfjbaaGreatDoor
