import Derived.Test.YtepgoppgblfjbaaGreatDoorTw02
import Derived.Test.YtepgoppgblfjbaaGreatDoorTw01
/- What the reader gives, besides what is left and whether it is wrong: plain functions. -/
namespace Go.Proofs.YtepgoppgblfjbaaGreatDoor

/-- An author. -/
structure Au where
  (name mail : List UInt8)
  time : Int

namespace Pu

/-- What names a commit. -/
structure Wh where
  mark : Int
  ref : List UInt8

/-- A change. -/
structure Ch where
  (word mode : List UInt8)
  mark : Int
  (data path «to» : List UInt8)

/-- A command. -/
structure Co where
  (word ref : List UInt8)
  mark : Int
  au : Au
  data : List UInt8
  frm : Wh
  merges : List Wh
  changes : List Ch

def Wh.none : Wh := ⟨0, []⟩
def Co.of (word : List UInt8) : Co := ⟨word, [], 0, ⟨[], [], 0⟩, [], ⟨0, []⟩, [], []⟩

def whichV (head s : List UInt8) (bad : Bool) : Wh :=
  if (mark (after head s bad).1).2 then ⟨(mark (after head s bad).1).1, []⟩ else ⟨0, (after head s bad).1⟩
def fromOrV (s : List UInt8) (bad : Bool) : Wh := if Lib.hasPrefix s sFrom then whichV sFrom s bad else ⟨0, []⟩
def authorV (s : List UInt8) (bad : Bool) : Au :=
  ⟨(Lib.cut (after sAuthor s bad).1 [32, 60]).1, (Lib.cut (Lib.cut (after sAuthor s bad).1 [32, 60]).2.1 [62, 32]).1,
   (number (Lib.cut (Lib.cut (after sAuthor s bad).1 [32, 60]).2.1 [62, 32]).2.1 0 9999999999).1⟩
def mergesV : Nat → List UInt8 → Bool → List Wh
  | 0, _, _ => []
  | f + 1, s, bad => if Lib.hasPrefix s sMerge then whichV sMerge s bad :: mergesV f (which sMerge s bad).1 (which sMerge s bad).2 else []
def contentV (f s : List UInt8) (bad : Bool) : Int × List UInt8 := if f == sInline then (0, (data s bad).1) else ((mark f).1, [])
def changeMV (f1 f2 f3 s : List UInt8) (bad : Bool) : Ch :=
  let x := need (isPath f3) (need (f1 == s644 || f1 == s755) s bad).1 (need (f1 == s644 || f1 == s755) s bad).2
  ⟨[77], f1, (contentV f2 x.1 x.2).1, (contentV f2 x.1 x.2).2, f3, []⟩
def changeV (l s : List UInt8) (bad : Bool) : Ch :=
  match Lib.split l [32] with
  | [f0, f1, f2, f3] => if f0 == [77] then changeMV f1 f2 f3 s bad else ⟨f0, [], 0, [], [], []⟩
  | [f0, f1] => if f0 == [68] then ⟨f0, [], 0, [], f1, []⟩ else ⟨f0, [], 0, [], [], []⟩
  | [f0, f1, f2] => if f0 == [67] || f0 == [82] then ⟨f0, [], 0, [], f1, f2⟩ else ⟨f0, [], 0, [], [], []⟩
  | f0 :: _ => ⟨f0, [], 0, [], [], []⟩
  | [] => ⟨[], [], 0, [], [], []⟩
def changesV : Nat → List UInt8 → List UInt8 → Bool → List Ch
  | 0, _, _, _ => []
  | f + 1, l, s, bad =>
    if l == [] then []
    else changeV l s bad :: changesV f (line (change l s bad).1 (change l s bad).2).1 (line (change l s bad).1 (change l s bad).2).2.1 (line (change l s bad).1 (change l s bad).2).2.2

def readBlobV (s : List UInt8) (bad : Bool) (c : Co) : Co :=
  { c with mark := (rmark (exactly sBlob s bad).1 (exactly sBlob s bad).2).1, data := (data (rmark (exactly sBlob s bad).1 (exactly sBlob s bad).2).2.1 (rmark (exactly sBlob s bad).1 (exactly sBlob s bad).2).2.2).1 }
def readTagV (s : List UInt8) (bad : Bool) (c : Co) : Co :=
  { c with ref := (ref sTag1 s bad).1, frm := whichV sFrom (ref sTag1 s bad).2.1 (ref sTag1 s bad).2.2,
           data := (data (which sFrom (ref sTag1 s bad).2.1 (ref sTag1 s bad).2.2).1 (which sFrom (ref sTag1 s bad).2.1 (ref sTag1 s bad).2.2).2).1 }
def readResetV (s : List UInt8) (bad : Bool) (c : Co) : Co :=
  { c with ref := (ref sReset1 s bad).1, frm := fromOrV (ref sReset1 s bad).2.1 (ref sReset1 s bad).2.2 }
/-- The states of the reader within a commit. -/
def rc1 (s : List UInt8) (bad : Bool) : List UInt8 × Bool := (ref sCommit1 s bad).2
def rc2 (s : List UInt8) (bad : Bool) : List UInt8 × Bool := (rmark (rc1 s bad).1 (rc1 s bad).2).2
def rc3 (s : List UInt8) (bad : Bool) : List UInt8 × Bool := author (rc2 s bad).1 (rc2 s bad).2
def rc4 (s : List UInt8) (bad : Bool) : List UInt8 × Bool := (data (rc3 s bad).1 (rc3 s bad).2).2
def rc5 (s : List UInt8) (bad : Bool) : List UInt8 × Bool := fromOr (rc4 s bad).1 (rc4 s bad).2
def rc6 (s : List UInt8) (bad : Bool) : List UInt8 × Bool := merges (rc5 s bad).1 (rc5 s bad).2
def changesAll (s : List UInt8) (bad : Bool) : List Ch := changesV (s.length + 2) (line s bad).1 (line s bad).2.1 (line s bad).2.2
def readCommitV (s : List UInt8) (bad : Bool) (c : Co) : Co :=
  { c with ref := (ref sCommit1 s bad).1, mark := (rmark (rc1 s bad).1 (rc1 s bad).2).1, au := authorV (rc2 s bad).1 (rc2 s bad).2, data := (data (rc3 s bad).1 (rc3 s bad).2).1,
           frm := fromOrV (rc4 s bad).1 (rc4 s bad).2, merges := mergesV (rc5 s bad).1.length (rc5 s bad).1 (rc5 s bad).2, changes := changesAll (rc6 s bad).1 (rc6 s bad).2 }
def readOneV (s : List UInt8) (bad : Bool) : Co :=
  if word s == sBlob then readBlobV s bad (Co.of sBlob) else if word s == sCommit then readCommitV s bad (Co.of sCommit)
  else if word s == sTag then readTagV s bad (Co.of sTag) else if word s == sReset then readResetV s bad (Co.of sReset) else Co.of []
def readAllV : Nat → List UInt8 → Bool → List Co
  | 0, _, _ => []
  | f + 1, s, bad => if word s == sDone then [] else if (readOne s bad).2 then [] else readOneV s bad :: readAllV f (readOne s bad).1 (readOne s bad).2
/-- The commands of a stream. -/
def commands (s : List UInt8) : List Co := readAllV (s.length + 1) s false

theorem readCommit_rc (s : List UInt8) (bad : Bool) : readCommit s bad = changes (rc6 s bad).1 (rc6 s bad).2 := by
  simp only [readCommit, thn, rc6, rc5, rc4, rc3, rc2, rc1]

theorem mergesV_nil (f : Nat) (bad : Bool) : mergesV f [] bad = [] := by cases f <;> rfl

theorem mergesV_fuel : ∀ (f g : Nat) (s : List UInt8) (bad : Bool), s.length ≤ f → s.length ≤ g → mergesV f s bad = mergesV g s bad := by
  intro f
  induction f with
  | zero =>
    intro g s bad h _
    have : s = [] := List.length_eq_zero_iff.1 (by omega)
    subst this
    rw [mergesV_nil, mergesV_nil]
  | succ f ih =>
    intro g s bad h hg
    cases g with
    | zero =>
      have : s = [] := List.length_eq_zero_iff.1 (by omega)
      subst this
      rw [mergesV_nil, mergesV_nil]
    | succ g =>
      unfold mergesV
      split
      · rename_i hp
        have hlt := which_lt sMerge s bad (hasPrefix_ne hp (by decide))
        rw [ih g _ _ (by omega) (by omega)]
      · rfl

theorem mergesV_step (s : List UInt8) (bad : Bool) (hp : Lib.hasPrefix s sMerge = true) :
    mergesV s.length s bad = whichV sMerge s bad :: mergesV (which sMerge s bad).1.length (which sMerge s bad).1 (which sMerge s bad).2 := by
  have hne := hasPrefix_ne hp (by decide)
  have hlt := which_lt sMerge s bad hne
  obtain ⟨k, hk⟩ : ∃ k, s.length = k + 1 := ⟨s.length - 1, by have := List.length_pos_iff.2 hne; omega⟩
  rw [hk]
  conv => lhs; unfold mergesV
  rw [if_pos hp, mergesV_fuel _ (which sMerge s bad).1.length _ _ (by omega) (Nat.le_refl _)]

theorem mergesV_stop (f : Nat) (s : List UInt8) (bad : Bool) (hp : Lib.hasPrefix s sMerge = false) : mergesV f s bad = [] := by
  cases f with
  | zero => rfl
  | succ f => unfold mergesV; rw [hp]; rfl

theorem mergesF_len : ∀ (f : Nat) (s : List UInt8) (bad : Bool) (n : Nat), (mergesF f s bad n).1 = n + (mergesV f s bad).length := by
  intro f
  induction f with
  | zero => intro s bad n; rfl
  | succ f ih =>
    intro s bad n
    unfold mergesF mergesV
    split
    · rw [ih]; simp; omega
    · rfl

theorem changesV_nil (f : Nat) (s : List UInt8) (bad : Bool) : changesV f [] s bad = [] := by cases f <;> rfl

theorem changesV_fuel : ∀ (f g : Nat) (l s : List UInt8) (bad : Bool), s.length < f → s.length < g → changesV f l s bad = changesV g l s bad := by
  intro f
  induction f with
  | zero => intro g l s bad h; omega
  | succ f ih =>
    intro g l s bad h hg
    cases g with
    | zero => omega
    | succ g =>
      unfold changesV
      split
      · rfl
      · rcases round_lt l s bad with e | e
        · rw [e, changesV_nil, changesV_nil]
        · rw [ih g _ _ _ (by omega) (by omega)]

theorem changesV_step (l s : List UInt8) (bad : Bool) (hp : (l == []) = false) :
    changesV (s.length + 1) l s bad = changeV l s bad :: changesV ((line (change l s bad).1 (change l s bad).2).2.1.length + 1) (line (change l s bad).1 (change l s bad).2).1 (line (change l s bad).1 (change l s bad).2).2.1 (line (change l s bad).1 (change l s bad).2).2.2 := by
  conv => lhs; unfold changesV
  rw [hp]
  simp only [Bool.false_eq_true, if_false]
  rcases round_lt l s bad with e | e
  · rw [e, changesV_nil, changesV_nil]
  · rw [changesV_fuel _ ((line (change l s bad).1 (change l s bad).2).2.1.length + 1) _ _ _ (by omega) (by omega)]

theorem changesF_len : ∀ (f : Nat) (l s : List UInt8) (bad : Bool) (n : Nat), (changesF f l s bad n).1 = n + (changesV f l s bad).length := by
  intro f
  induction f with
  | zero => intro l s bad n; rfl
  | succ f ih =>
    intro l s bad n
    unfold changesF changesV
    split
    · rfl
    · rw [ih]; simp; omega

end Pu
end Go.Proofs.YtepgoppgblfjbaaGreatDoor

/- Two contracts of the library, over lists of bytes. -/
namespace Go.Proofs.YtepgoppgblfjbaaGreatDoor
open Go.RowKit

theorem indexByte_any (set : List UInt8) (c : UInt8) (w : World) :
    Calls Tryz.prog 260 #[.string ⟨set.toArray⟩, .int .u8 (c.toNat : Int)] w fun e w' => e = .returned (.int .i64 (Lib.indexByte set c)) ∧ w' = w := by
  have h := Tryz.strings_IndexByte ⟨set.toArray⟩ (c.toNat : Int) w
  simpa using h

theorem cutPrefix_any (s p : List UInt8) (w : World) :
    Calls Tryz.prog 336 #[.string ⟨s.toArray⟩, .string ⟨p.toArray⟩] w fun e w' => e = .returned (.tuple #[.string ⟨(Lib.trimPrefix s p).toArray⟩, .bool (Lib.hasPrefix s p)]) ∧ w' = w :=
  Tryz.strings_CutPrefix ⟨s.toArray⟩ ⟨p.toArray⟩ w

end Go.Proofs.YtepgoppgblfjbaaGreatDoor

/- Package words: which texts are refs, paths, names, mails, marks and numbers. -/
namespace Go.Proofs.YtepgoppgblfjbaaGreatDoor
open Go.RowKit

theorem ret_bool {a b : Bool} (h : a = b) : Ending.returned (.bool a) = .returned (.bool b) := by rw [h]

theorem take_all_succ (t : List UInt8) (p : UInt8 → Bool) (k : Nat) (h : k < t.length) : (t.take (k + 1)).all p = ((t.take k).all p && p t[k]) := by
  rw [List.take_succ_eq_append_getElem h]; simp only [List.all_append, List.all_cons, List.all_nil, Bool.and_true]

set_option maxHeartbeats 400000 in
theorem madeOf_any (t set : List UInt8) (most : Int) (w : World) (ht : t.length ≤ 8000) :
    Calls Tryz.prog 186 #[.string ⟨t.toArray⟩, .string ⟨set.toArray⟩, .int .i64 most] w fun e w' => e = .returned (.bool (Pu.madeOf t set most)) ∧ w' = w := by
  by_cases h0 : t = []
  · subst h0
    go_enter Tryz.func186, Tryz.ntmps186
    go_wp2
    go_ret
    exact ⟨rfl, rfl⟩
  have hne : (t == ([] : List UInt8)) = false := by simpa using h0
  have hem : t.isEmpty = false := by simpa using h0
  by_cases h1 : most < (t.length : Int)
  · have HM : Hid (Pu.madeOf t set most = false) := Pu.madeOf_long t set most h1
    go_enter Tryz.func186, Tryz.ntmps186
    go_wp2
    go_ret
    exact ⟨by rw [HM.out]; rfl, rfl⟩
  · have HM : Hid (Pu.madeOf t set most = t.all (fun c => decide (0 ≤ Lib.indexByte set c))) := by
      show _ = _
      unfold Pu.madeOf; rw [hem, decide_eq_true (by omega)]; simp
    go_enter Tryz.func186, Tryz.ntmps186
    go_wp2
    go_loop [18] (fun i => ∃ k : Nat, k ≤ t.length ∧ i = .int .i64 k ∧ (t.take k).all (fun c => decide (0 ≤ Lib.indexByte set c)) = true) (fun i => t.length - (intOf i).toNat)
    case atStart => exact ⟨0, Nat.zero_le _, rfl, rfl⟩
    case round =>
      obtain ⟨k, hk, rfl, ha⟩ := hrel
      have HA : Hid ((t.take k).all (fun c => decide (0 ≤ Lib.indexByte set c)) = true) := ha
      clear ha
      by_cases hlt : k < t.length
      · have hsn := take_all_succ t (fun c => decide (0 ≤ Lib.indexByte set c)) k hlt
        by_cases hx : Lib.indexByte set t[k] < 0
        · have HF : Hid (t.all (fun c => decide (0 ≤ Lib.indexByte set c)) = false) := by
            show _ = _
            rw [List.all_eq_false]; exact ⟨t[k], List.getElem_mem hlt, by simp; omega⟩
          clear hsn
          go_wp2_with fail
          refine (indexByte_any set t[k] _).mono ?_
          rintro e w1 ⟨rfl, rfl⟩
          go_wp2
          go_ret
          exact ⟨by rw [HM.out, HF.out]; rfl, rfl⟩
        · have HS : Hid ((t.take (k + 1)).all (fun c => decide (0 ≤ Lib.indexByte set c)) = true) := by
            show _ = _
            rw [hsn, HA.out]; simp; omega
          clear hsn
          go_wp2_with fail
          refine (indexByte_any set t[k] _).mono ?_
          rintro e w1 ⟨rfl, rfl⟩
          go_wp2
          go_round
          case rel => exact ⟨k + 1, by omega, by go_num, HS.out⟩
          case measure => simp [intOf]; omega
      · go_wp2
        go_ret
        refine ⟨ret_bool ?_, rfl⟩
        rw [HM.out, ← HA.out, List.take_of_length_le (by omega)]

theorem u8_int_eq (a b : UInt8) : ((a.toNat : Int) == (b.toNat : Int)) = (a == b) := by
  rw [Bool.eq_iff_iff]; simp [← UInt8.toNat_inj]; omega

set_option maxHeartbeats 400000 in
theorem hasAtEnds_any (t : List UInt8) (c : Int) (u : UInt8) (hc : (u.toNat : Int) = c) (w : World) (h0 : 0 < t.length) (ht : t.length ≤ 8000) :
    Calls Tryz.prog 263 #[.string ⟨t.toArray⟩, .int .u8 c] w fun e w' => e = .returned (.bool (Pu.hasAtEnds t u)) ∧ w' = w := by
  subst hc
  have HE : Hid (Pu.hasAtEnds t u = (t[0] == u || t[t.length - 1] == u)) := by
    show _ = _
    unfold Pu.hasAtEnds
    rw [List.head?_eq_getElem?, List.getLast?_eq_getElem?, List.getElem?_eq_getElem h0, List.getElem?_eq_getElem (by omega)]
    rfl
  have hz : (0 : Int) < (t.length : Int) := by omega
  go_enter Tryz.func263, Tryz.ntmps263
  go_wp2
  · rename_i h1
    go_ret
    refine ⟨ret_bool ?_, rfl⟩
    have h2 : t[0] = u := UInt8.toNat_inj.1 (Int.ofNat_inj.1 h1)
    rw [HE.out, h2]; simp
  · go_ret
    refine ⟨ret_bool ?_, rfl⟩
    rw [HE.out, ← u8_int_eq, ← u8_int_eq]; rfl

theorem madeOf_pos {t set : List UInt8} {most : Int} (h : Pu.madeOf t set most = true) : 0 < t.length ∧ (t.length : Int) ≤ most := by
  unfold Pu.madeOf at h
  simp only [Bool.and_eq_true, Bool.not_eq_true', decide_eq_true_eq] at h
  refine ⟨?_, h.1.2⟩
  cases t with
  | nil => simp at h
  | cons a r => simp

theorem contains_any (t : List UInt8) (sub : List UInt8) (m : Int) (w : World) (hs : t.length ≤ 8000) (hm : w.cell? ⟨1, 0, none⟩ = some (.int .i64 m)) :
    Calls Tryz.prog 337 #[.string ⟨t.toArray⟩, .string ⟨sub.toArray⟩] w fun e w' => e = .returned (.bool (Lib.contains t sub)) ∧ w' = w :=
  Tryz.strings_Contains _ _ m w (by simp [ByteArray.size]; omega) hm

set_option maxHeartbeats 400000 in
theorem isRef_any (t : List UInt8) (m : Int) (w : World) (ht : t.length ≤ 8000) (hm : w.cell? ⟨1, 0, none⟩ = some (.int .i64 m)) :
    Calls Tryz.prog 292 #[.string ⟨t.toArray⟩] w fun e w' => e = .returned (.bool (Pu.isRef t)) ∧ w' = w := by
  go_enter Tryz.func292, Tryz.ntmps292
  go_wp2_with fail
  refine (madeOf_any t Pu.refSet 20 _ ht).mono ?_
  rintro e w1 ⟨rfl, rfl⟩
  cases hc : Pu.madeOf t Pu.refSet 20
  · have HE : Hid (Pu.isRef t = false) := by show _ = _; simp [Pu.isRef, hc]
    clear hc
    go_wp2
    go_ret
    exact ⟨by rw [HE.out]; rfl, rfl⟩
  · have hl := (madeOf_pos hc).1
    have HE : Hid (Pu.isRef t = (!Pu.hasAtEnds t 47 && !Lib.contains t [47, 47])) := by show _ = _; simp [Pu.isRef, hc]
    clear hc
    go_wp2_with fail
    refine (hasAtEnds_any t 47 47 rfl _ hl ht).mono ?_
    rintro e w1 ⟨rfl, rfl⟩
    generalize Pu.hasAtEnds t 47 = x at *
    cases x
    · go_wp2_with fail
      refine (contains_any t [47, 47] m _ ht hm).mono ?_
      rintro e w1 ⟨rfl, rfl⟩
      go_wp2
      go_ret
      exact ⟨ret_bool (by rw [HE.out]; simp), rfl⟩
    · go_wp2
      go_ret
      exact ⟨by rw [HE.out]; rfl, rfl⟩

set_option maxHeartbeats 400000 in
theorem isName_any (t : List UInt8) (w : World) (ht : t.length ≤ 8000) :
    Calls Tryz.prog 189 #[.string ⟨t.toArray⟩] w fun e w' => e = .returned (.bool (Pu.isName t)) ∧ w' = w := by
  go_enter Tryz.func189, Tryz.ntmps189
  go_wp2_with fail
  refine (madeOf_any t Pu.nameSet 20 _ ht).mono ?_
  rintro e w1 ⟨rfl, rfl⟩
  cases hc : Pu.madeOf t Pu.nameSet 20
  · have HE : Hid (Pu.isName t = false) := by show _ = _; simp [Pu.isName, hc]
    clear hc
    go_wp2
    go_ret
    exact ⟨by rw [HE.out]; rfl, rfl⟩
  · have hl := (madeOf_pos hc).1
    have HE : Hid (Pu.isName t = !Pu.hasAtEnds t 32) := by show _ = _; simp [Pu.isName, hc]
    clear hc
    go_wp2_with fail
    refine (hasAtEnds_any t 32 32 rfl _ hl ht).mono ?_
    rintro e w1 ⟨rfl, rfl⟩
    go_wp2
    go_ret
    exact ⟨ret_bool (by rw [HE.out]), rfl⟩

set_option maxHeartbeats 400000 in
theorem isMail_any (t : List UInt8) (w : World) (ht : t.length ≤ 8000) :
    Calls Tryz.prog 188 #[.string ⟨t.toArray⟩] w fun e w' => e = .returned (.bool (Pu.isMail t)) ∧ w' = w := by
  go_enter Tryz.func188, Tryz.ntmps188
  go_wp2_with fail
  refine (madeOf_any t Pu.mailSet 20 _ ht).mono ?_
  rintro e w1 ⟨rfl, rfl⟩
  go_wp2
  go_ret
  exact ⟨rfl, rfl⟩

set_option maxHeartbeats 400000 in
theorem isPart_any (t : List UInt8) (w : World) (ht : t.length ≤ 8000) :
    Calls Tryz.prog 262 #[.string ⟨t.toArray⟩] w fun e w' => e = .returned (.bool (Pu.isPart t)) ∧ w' = w := by
  go_enter Tryz.func262, Tryz.ntmps262
  go_wp2_with fail
  refine (madeOf_any t Pu.partSet 12 _ ht).mono ?_
  rintro e w1 ⟨rfl, rfl⟩
  have HE : Hid (Pu.isPart t = (Pu.madeOf t Pu.partSet 12 && t != [46] && t != [46, 46])) := rfl
  generalize Pu.madeOf t Pu.partSet 12 = x at *
  cases x
  · go_wp2
    go_ret
    exact ⟨by rw [HE.out]; rfl, rfl⟩
  · go_wp2
    · rename_i h1
      go_ret
      exact ⟨ret_bool (by rw [HE.out, h1]; rfl), rfl⟩
    · go_ret
      exact ⟨ret_bool (by rw [HE.out]; rfl), rfl⟩

set_option maxHeartbeats 1000000 in
theorem number_any (t : List UInt8) (lo hi : Int) (w : World) (ht : t.length ≤ 8000) :
    Calls Tryz.prog 137 #[.string ⟨t.toArray⟩, .int .i64 lo, .int .i64 hi] w fun e w' => e = .returned (.tuple #[.int .i64 (Pu.number t lo hi).1, .bool (Pu.number t lo hi).2]) ∧ w' = w := by
  go_enter Tryz.func137, Tryz.ntmps137
  go_wp2_with fail
  refine (madeOf_any t Pu.digitSet 18 _ ht).mono ?_
  rintro e w1 ⟨rfl, rfl⟩
  cases hc : Pu.madeOf t Pu.digitSet 18
  · have HE : Hid (Pu.number t lo hi = (0, false)) := by show _ = _; simp [Pu.number, hc]
    clear hc
    go_wp2
    go_ret2
    exact ⟨by rw [HE.out]; rfl, rfl⟩
  · have hl := madeOf_pos hc
    have hd : ∀ k (hk : k < t.length), 48 ≤ t[k].toNat ∧ t[k].toNat ≤ 57 := fun k hk => Pu.digit_of (Pu.madeOf_at hc k hk)
    have HV := Pu.val_take t hd
    have HE : Hid (Pu.number t lo hi = if t.head? == some 48 && decide (1 < t.length) then (0, false) else if Pu.val t < lo ∨ hi < Pu.val t then (0, false) else (Pu.val t, true)) := by show _ = _; simp [Pu.number, hc]
    clear hc
    obtain ⟨hl1, hl2⟩ := hl
    have hz : (0 : Int) < (t.length : Int) := by omega
    have hhd : t.head? = some t[0] := by rw [List.head?_eq_getElem?, List.getElem?_eq_getElem hl1]
    rw [hhd] at HE
    clear hhd
    by_cases h48 : t[0] = 48 ∧ 1 < t.length
    · obtain ⟨h1, h2⟩ := h48
      have HE2 : Hid (Pu.number t lo hi = (0, false)) := by show _ = _; rw [HE.out, h1]; simp [h2]
      have hb : (((⟨t.toArray⟩ : ByteArray)[0].toNat : Int) == 48) = true := by
        show ((t[0].toNat : Int) == 48) = true; rw [h1]; rfl
      have h3 : (1 : Int) < (t.length : Int) := by omega
      clear HE HV h1
      go_wp2
      go_ret2
      exact ⟨by rw [HE2.out]; rfl, rfl⟩
    · have HE2 : Hid (Pu.number t lo hi = if Pu.val t < lo ∨ hi < Pu.val t then (0, false) else (Pu.val t, true)) := by
        show _ = _
        rw [HE.out, if_neg]
        simp only [Bool.and_eq_true, beq_iff_eq, Option.some.injEq, decide_eq_true_eq]; exact h48
      clear HE
      have hcase : ((((⟨t.toArray⟩ : ByteArray)[0].toNat : Int) == 48) = true ∧ ¬ (1 : Int) < (t.length : Int)) ∨ (((⟨t.toArray⟩ : ByteArray)[0].toNat : Int) == 48) = false := by
        by_cases h1 : t[0] = 48
        · left
          refine ⟨?_, fun h => h48 ⟨h1, by omega⟩⟩
          show ((t[0].toNat : Int) == 48) = true; rw [h1]; rfl
        · right
          show ((t[0].toNat : Int) == 48) = false
          have h2 : ((t[0].toNat : Int) == ((48 : UInt8).toNat : Int)) = false := by rw [u8_int_eq]; simpa using h1
          exact h2
      clear h48
      rcases hcase with ⟨hb, h3⟩ | hb
      all_goals
        go_wp2
        go_loop [8, 25] (fun n i => ∃ k : Nat, k ≤ t.length ∧ i = .int .i64 k ∧ n = .int .i64 (Pu.val (t.take k))) (fun _ i => t.length - (intOf i).toNat)
        case atStart => exact ⟨0, Nat.zero_le _, rfl, rfl⟩
        case round =>
          obtain ⟨k, hk, rfl, rfl⟩ := hrel
          by_cases hlt : k < t.length
          · have hv := HV k hk
            have hp := Pu.pow_le k (by omega)
            have hdk := hd k hlt
            have hsn := Pu.val_snoc (t.take k) t[k]
            rw [← List.take_succ_eq_append_getElem hlt] at hsn
            have hv1 : 0 ≤ Pu.val (t.take k) := hv.1
            have hv2 : Pu.val (t.take k) ≤ 100000000000000000 := by omega
            have hd1 : (48 : Int) ≤ ((⟨t.toArray⟩ : ByteArray)[k].toNat : Int) := by show (48 : Int) ≤ (t[k].toNat : Int); omega
            have hd2 : ((⟨t.toArray⟩ : ByteArray)[k].toNat : Int) ≤ 57 := by show (t[k].toNat : Int) ≤ 57; omega
            have HS : Hid (Pu.val (t.take (k + 1)) = Pu.val (t.take k) * 10 + (((⟨t.toArray⟩ : ByteArray)[k].toNat : Int) - 48)) := hsn
            clear hsn hv hp hdk HV hd hb
            generalize Pu.val (t.take k) = v at *
            go_wp2
            go_round
            case rel => exact ⟨k + 1, by omega, by go_num, by rw [HS.out]⟩
            case measure => simp [intOf]; omega
          · have hkl : k = t.length := by omega
            subst hkl
            rw [List.take_length]
            clear HV hd
            generalize Pu.val t = v at *
            by_cases hlo : v < lo
            · have HE3 : Hid (Pu.number t lo hi = (0, false)) := by show _ = _; rw [HE2.out, if_pos (Or.inl hlo)]
              clear HE2
              go_wp2
              go_ret2
              exact ⟨by rw [HE3.out]; rfl, rfl⟩
            · by_cases hhi : hi < v
              · have HE3 : Hid (Pu.number t lo hi = (0, false)) := by show _ = _; rw [HE2.out, if_pos (Or.inr hhi)]
                clear HE2
                go_wp2
                go_ret2
                exact ⟨by rw [HE3.out]; rfl, rfl⟩
              · have HE3 : Hid (Pu.number t lo hi = (v, true)) := by show _ = _; rw [HE2.out, if_neg (by omega)]
                clear HE2
                go_wp2
                go_ret2
                exact ⟨by rw [HE3.out]; rfl, rfl⟩

theorem trim_len (t p : List UInt8) : (Lib.trimPrefix t p).length ≤ t.length := by
  unfold Lib.trimPrefix; split <;> simp

theorem hasPrefix_any (s p : List UInt8) (w : World) :
    Calls Tryz.prog 293 #[.string ⟨s.toArray⟩, .string ⟨p.toArray⟩] w fun e w' => e = .returned (.bool (Lib.hasPrefix s p)) ∧ w' = w :=
  Tryz.strings_HasPrefix _ _ w

theorem split_any (s : List UInt8) (c : UInt8) (m : Int) (w : World) (hs : s.length ≤ 8000) (hm : w.cell? ⟨1, 0, none⟩ = some (.int .i64 m)) :
    Calls Tryz.prog 261 #[.string ⟨s.toArray⟩, .string ⟨#[c]⟩] w fun e w' =>
      e = .returned (.slice (some ⟨w.heap.size, 0, none⟩) (Lib.split s [c]).length (Lib.split s [c]).length) ∧ w' = w.alloc (.cells ((Lib.split s [c]).map (fun x => Value.string ⟨x.toArray⟩)).toArray 9) := by
  have h := Tryz.strings_Split ⟨s.toArray⟩ ⟨#[c]⟩ m w (by simp [ByteArray.size]; omega) hm (by simp [ByteArray.size])
  have h1 := Lib.splitB_data ⟨#[c]⟩ 0 (Lib.countB ⟨s.toArray⟩ ⟨#[c]⟩) ⟨s.toArray⟩
  have h2 := Lib.splitB_all ⟨#[c]⟩ (by simp [ByteArray.size]) 0 (Lib.countB ⟨s.toArray⟩ ⟨#[c]⟩) ⟨s.toArray⟩ rfl
  have e1 : Lib.split s [c] = (Lib.splitB ⟨#[c]⟩ 0 (Lib.countB ⟨s.toArray⟩ ⟨#[c]⟩) ⟨s.toArray⟩).map (·.data.toList) := by rw [h1]; rfl
  rw [e1, List.length_map, h2, List.map_map]
  exact h

set_option maxHeartbeats 400000 in
theorem mark_any (t : List UInt8) (w : World) (ht : t.length ≤ 8000) :
    Calls Tryz.prog 287 #[.string ⟨t.toArray⟩] w fun e w' => e = .returned (.tuple #[.int .i64 (Pu.mark t).1, .bool (Pu.mark t).2]) ∧ w' = w := by
  have hl := trim_len t [58]
  go_enter Tryz.func287, Tryz.ntmps287
  go_wp2_with fail
  refine (cutPrefix_any t [58] _).mono ?_
  rintro e w1 ⟨rfl, rfl⟩
  have HE : Hid (Pu.mark t = if Lib.hasPrefix t [58] then Pu.number (Lib.trimPrefix t [58]) 1 999 else (0, false)) := rfl
  generalize Lib.hasPrefix t [58] = f at *
  generalize Lib.trimPrefix t [58] = x at *
  cases f
  · go_wp2
    go_ret2
    exact ⟨by rw [HE.out]; rfl, rfl⟩
  · go_wp2_with fail
    refine (number_any x 1 999 _ (by omega)).mono ?_
    rintro e w2 ⟨rfl, rfl⟩
    go_wp2
    go_ret2
    exact ⟨by rw [HE.out]; rfl, rfl⟩

end Go.Proofs.YtepgoppgblfjbaaGreatDoor

/- words.IsPath. -/
namespace Go.Proofs.YtepgoppgblfjbaaGreatDoor
open Go.RowKit

theorem take_all_succ' {α : Type} (t : List α) (p : α → Bool) (k : Nat) (h : k < t.length) : (t.take (k + 1)).all p = ((t.take k).all p && p t[k]) := by
  rw [List.take_succ_eq_append_getElem h]; simp only [List.all_append, List.all_cons, List.all_nil, Bool.and_true]

/-- A list of strings in a block of their own. -/
theorem cell_strs (w : World) (L : List (List UInt8)) (t : TypeId) (k : Nat) (hk : k < L.length) :
    (w.alloc (.cells (L.map (fun x => Value.string ⟨x.toArray⟩)).toArray t)).cell? ⟨w.heap.size, k, none⟩ = some (.string ⟨L[k].toArray⟩) := by
  have h : (w.alloc (.cells (L.map (fun x => Value.string ⟨x.toArray⟩)).toArray t)).heap[w.heap.size]? = some (.cells (L.map (fun x => Value.string ⟨x.toArray⟩)).toArray t) := by
    show (w.heap.push _)[w.heap.size]? = _
    simp
  unfold World.cell?
  rw [h]
  simp [hk]

theorem split_len (s : List UInt8) (c : UInt8) : (Lib.split s [c]).length ≤ s.length + 1 := by
  have h1 := Lib.splitB_data ⟨#[c]⟩ 0 (Lib.countB ⟨s.toArray⟩ ⟨#[c]⟩) ⟨s.toArray⟩
  have e1 : Lib.split s [c] = (Lib.splitB ⟨#[c]⟩ 0 (Lib.countB ⟨s.toArray⟩ ⟨#[c]⟩) ⟨s.toArray⟩).map (·.data.toList) := by rw [h1]; rfl
  have h2 := Lib.splitB_length_le ⟨#[c]⟩ 0 (Lib.countB ⟨s.toArray⟩ ⟨#[c]⟩) ⟨s.toArray⟩
  have h3 := Lib.countB_le ⟨#[c]⟩ (by simp [ByteArray.size]) s.length ⟨s.toArray⟩ (by simp [ByteArray.size])
  have e2 : (⟨s.toArray⟩ : ByteArray).size = s.length := by simp [ByteArray.size]
  rw [e1, List.length_map]
  omega

theorem splitK_lens (sep : List UInt8) : ∀ (k : Nat) (s : List UInt8), ∀ x ∈ Lib.splitK sep 0 k s, x.length ≤ s.length := by
  intro k
  induction k with
  | zero => intro s x hx; unfold Lib.splitK at hx; simp at hx; subst hx; exact Nat.le_refl _
  | succ k ih =>
    intro s x hx
    unfold Lib.splitK at hx
    split at hx
    · simp at hx; subst hx; exact Nat.le_refl _
    · simp only [List.mem_cons] at hx
      rcases hx with rfl | hx
      · simp; omega
      · have := ih _ x hx
        simp at this; omega

theorem split_lens (s sep : List UInt8) : ∀ x ∈ Lib.split s sep, x.length ≤ s.length := splitK_lens sep _ s

set_option maxHeartbeats 400000 in
theorem isPath_any (t : List UInt8) (m : Int) (w : World) (ht : t.length ≤ 8000) (hm : w.cell? ⟨1, 0, none⟩ = some (.int .i64 m)) :
    Calls Tryz.prog 187 #[.string ⟨t.toArray⟩] w fun e w' => e = .returned (.bool (Pu.isPath t)) ∧ Kx (fun _ => False) w w' := by
  by_cases h60 : 60 < (t.length : Int)
  · have HE : Hid (Pu.isPath t = false) := by show _ = _; unfold Pu.isPath; rw [decide_eq_false (by omega)]; simp
    go_enter Tryz.func187, Tryz.ntmps187
    go_wp2
    go_ret
    exact ⟨by rw [HE.out]; rfl, Kx.refl _ _⟩
  · have HE : Hid (Pu.isPath t = ((Lib.split t [47]).all Pu.isPart && decide ((Lib.split t [47]).length ≤ 6))) := by show _ = _; unfold Pu.isPath; rw [decide_eq_true (by omega)]; simp
    have hlens := split_lens t [47]
    have hll := split_len t 47
    have hc := cell_strs w (Lib.split t [47]) 9
    have HK := (Kx.refl (fun _ => False) w).alloc (.cells ((Lib.split t [47]).map (fun x => Value.string ⟨x.toArray⟩)).toArray 9)
    have hz : w.heap.size < (w.alloc (.cells ((Lib.split t [47]).map (fun x => Value.string ⟨x.toArray⟩)).toArray 9)).heap.size := by simp
    go_enter Tryz.func187, Tryz.ntmps187
    go_wp2_with fail
    refine (split_any t 47 m _ ht hm).mono ?_
    rintro e w1 ⟨rfl, rfl⟩
    generalize w.alloc (.cells ((Lib.split t [47]).map (fun x => Value.string ⟨x.toArray⟩)).toArray 9) = W at *
    generalize Lib.split t [47] = L at *
    go_wp2
    go_loop [13] (fun i => ∃ k : Nat, k ≤ L.length ∧ i = .int .i64 k ∧ (L.take k).all Pu.isPart = true) (fun i => L.length - (intOf i).toNat)
    case atStart => exact ⟨0, Nat.zero_le _, rfl, rfl⟩
    case round =>
      obtain ⟨k, hk, rfl, ha⟩ := hrel
      have HA : Hid ((L.take k).all Pu.isPart = true) := ha
      clear ha
      by_cases hlt : k < L.length
      · have hsn := take_all_succ' L Pu.isPart k hlt
        have hck := hc k hlt
        have hxl := hlens L[k] (List.getElem_mem hlt)
        cases hx : Pu.isPart L[k]
        · have HF : Hid (L.all Pu.isPart = false) := by
            show _ = _
            rw [List.all_eq_false]; exact ⟨L[k], List.getElem_mem hlt, by simp [hx]⟩
          have HX : Hid (Pu.isPart L[k] = false) := hx
          clear hsn hx hc hlens
          go_wp2_with fail
          refine (isPart_any L[k] _ (by omega)).mono ?_
          rintro e w1 ⟨rfl, rfl⟩
          rw [HX.out]
          go_wp2
          go_ret
          exact ⟨by rw [HE.out, HF.out]; rfl, HK⟩
        · have HS : Hid ((L.take (k + 1)).all Pu.isPart = true) := by
            show _ = _
            rw [hsn, HA.out, hx]; rfl
          have HX : Hid (Pu.isPart L[k] = true) := hx
          clear hsn hx hc hlens
          go_wp2_with fail
          refine (isPart_any L[k] _ (by omega)).mono ?_
          rintro e w1 ⟨rfl, rfl⟩
          rw [HX.out]
          go_wp2
          go_round
          case rel => exact ⟨k + 1, by omega, by go_num, HS.out⟩
          case measure => simp [intOf]; omega
      · have HA2 : Hid (L.all Pu.isPart = true) := by
          show _ = _
          rw [← HA.out, List.take_of_length_le (by omega)]
        clear hc hlens
        go_wp2
        go_ret
        refine ⟨ret_bool ?_, HK⟩
        rw [HE.out, HA2.out, Bool.true_and]
        simp; omega

end Go.Proofs.YtepgoppgblfjbaaGreatDoor

/- The reader's methods: ref, mark, which, author, data, fromOrNothing, mode, path, content. -/
namespace Go.Proofs.YtepgoppgblfjbaaGreatDoor
open Go.RowKit

set_option maxHeartbeats 400000 in
theorem ref_any (b : Nat) (s : List UInt8) (bad : Bool) (head : List UInt8) (w : World) (h : Rd b s bad w) :
    Calls Tryz.prog 222 #[.pointer (some ⟨b, 0, none⟩), .string ⟨head.toArray⟩] w fun e w' => e = .returned (.string ⟨(Pu.ref head s bad).1.toArray⟩) ∧ Rd b (Pu.ref head s bad).2.1 (Pu.ref head s bad).2.2 w' ∧ Kx (Only b) w w' := by
  have hl := Pu.after_len head s bad
  have hs := h.short
  go_enter Tryz.func222, Tryz.ntmps222
  go_wp2_with fail
  refine (after_any b s bad head _ h).mono ?_
  rintro e w1 ⟨rfl, hr, hk⟩
  have HE : Hid (Pu.ref head s bad = ((Pu.after head s bad).1, Pu.need (Pu.isRef (Pu.after head s bad).1) (Pu.after head s bad).2.1 (Pu.after head s bad).2.2)) := rfl
  generalize Pu.after head s bad = x at *
  obtain ⟨x0, x1, x2⟩ := x
  obtain ⟨m, hm⟩ := hr.max
  go_wp2_with fail
  refine (isRef_any x0 m _ (by omega) hm).mono ?_
  rintro e w2 ⟨rfl, rfl⟩
  go_wp2_with fail
  refine (need_any b _ _ _ _ hr).mono ?_
  rintro e w3 ⟨rfl, hr2, hk2⟩
  go_wp2
  go_ret
  exact ⟨by rw [HE.out]; rfl, by rw [HE.out]; exact hr2, hk.trans hk2⟩

set_option maxHeartbeats 400000 in
theorem rmark_any (b : Nat) (s : List UInt8) (bad : Bool) (w : World) (h : Rd b s bad w) :
    Calls Tryz.prog 216 #[.pointer (some ⟨b, 0, none⟩)] w fun e w' => e = .returned (.int .i64 (Pu.rmark s bad).1) ∧ Rd b (Pu.rmark s bad).2.1 (Pu.rmark s bad).2.2 w' ∧ Kx (Only b) w w' := by
  have hl := Pu.after_len Pu.sMark s bad
  have hs := h.short
  go_enter Tryz.func216, Tryz.ntmps216
  go_wp2_with fail
  refine (after_any b s bad Pu.sMark _ h).mono ?_
  rintro e w1 ⟨rfl, hr, hk⟩
  have HE : Hid (Pu.rmark s bad = ((Pu.mark (Pu.after Pu.sMark s bad).1).1, Pu.need (Pu.mark (Pu.after Pu.sMark s bad).1).2 (Pu.after Pu.sMark s bad).2.1 (Pu.after Pu.sMark s bad).2.2)) := rfl
  generalize Pu.after Pu.sMark s bad = x at *
  obtain ⟨x0, x1, x2⟩ := x
  go_wp2_with fail
  refine (mark_any x0 _ (by omega)).mono ?_
  rintro e w2 ⟨rfl, rfl⟩
  go_wp2_with fail
  refine (need_any b _ _ _ _ hr).mono ?_
  rintro e w3 ⟨rfl, hr2, hk2⟩
  go_wp2
  go_ret
  exact ⟨by rw [HE.out]; rfl, by rw [HE.out]; exact hr2, hk.trans hk2⟩

set_option maxHeartbeats 400000 in
theorem which_any (b : Nat) (s : List UInt8) (bad : Bool) (head : List UInt8) (w : World) (h : Rd b s bad w) :
    Calls Tryz.prog 238 #[.pointer (some ⟨b, 0, none⟩), .string ⟨head.toArray⟩] w fun e w' => e = .returned (.agg #[.int .i64 (Pu.whichV head s bad).mark, .string ⟨(Pu.whichV head s bad).ref.toArray⟩]) ∧ Rd b (Pu.which head s bad).1 (Pu.which head s bad).2 w' ∧ Kx (Only b) w w' := by
  have hl := Pu.after_len head s bad
  have hs := h.short
  have hb := h.lt
  go_enter Tryz.func238, Tryz.ntmps238
  go_wp2_with fail
  refine (after_any b s bad head _ (h.alloc _)).mono ?_
  rintro e w1 ⟨rfl, hr, hk⟩
  have HV : Hid (Pu.whichV head s bad = if (Pu.mark (Pu.after head s bad).1).2 then ⟨(Pu.mark (Pu.after head s bad).1).1, []⟩ else ⟨0, (Pu.after head s bad).1⟩) := rfl
  have HE : Hid (Pu.which head s bad = if (Pu.mark (Pu.after head s bad).1).2 then (Pu.after head s bad).2 else Pu.need (Pu.isRef (Pu.after head s bad).1) (Pu.after head s bad).2.1 (Pu.after head s bad).2.2) := rfl
  generalize Pu.after head s bad = x at *
  obtain ⟨x0, x1, x2⟩ := x
  obtain ⟨m, hm⟩ := hr.max
  obtain ⟨n0, g0⟩ := new_cell hk hb 0
  obtain ⟨n1, g1⟩ := new_cell hk hb 1
  go_wp2_with fail
  refine (mark_any x0 _ (by omega)).mono ?_
  rintro e w2 ⟨rfl, rfl⟩
  generalize Pu.mark x0 = y at *
  obtain ⟨y0, y1⟩ := y
  cases y1
  · go_wp2_with fail
    refine (isRef_any x0 m _ (by omega) hm).mono ?_
    rintro e w2 ⟨rfl, rfl⟩
    go_wp2_with fail
    refine (need_any b _ _ _ _ hr).mono ?_
    rintro e w3 ⟨rfl, hr2, hk2⟩
    clear n0 n1 g0 g1
    obtain ⟨n0, g0⟩ := new_cell (hk.trans hk2) hb 0
    obtain ⟨n1, g1⟩ := new_cell (hk.trans hk2) hb 1
    go_wp2
    refine bodyPost_ret (v := .agg #[.int .i64 0, .string ⟨x0.toArray⟩]) (by simp [results, Tryz.results238, go_sem, n0, n1]) rfl ⟨by rw [HV.out]; rfl, ?_, ?_⟩
    · rw [HE.out]
      exact (hr2.setNew hb _).setNew hb _
    · exact ((((Kx.refl _ w).alloc _).trans (hk.trans hk2)).setNew (by simp) _).setNew (by simp) _
  · go_wp2
    refine bodyPost_ret (v := .agg #[.int .i64 y0, .string ⟨#[]⟩]) (by simp [results, Tryz.results238, go_sem, n0, n1]) rfl ⟨by rw [HV.out]; rfl, ?_, ?_⟩
    · rw [HE.out]
      exact (hr.setNew hb _).setNew hb _
    · exact ((((Kx.refl _ w).alloc _).trans hk).setNew (by simp) _).setNew (by simp) _

set_option maxHeartbeats 400000 in
theorem fromOr_any (b : Nat) (s : List UInt8) (bad : Bool) (w : World) (h : Rd b s bad w) :
    Calls Tryz.prog 224 #[.pointer (some ⟨b, 0, none⟩)] w fun e w' => e = .returned (.agg #[.int .i64 (Pu.fromOrV s bad).mark, .string ⟨(Pu.fromOrV s bad).ref.toArray⟩]) ∧ Rd b (Pu.fromOr s bad).1 (Pu.fromOr s bad).2 w' ∧ Kx (Only b) w w' := by
  have hb := h.lt
  have h' := h
  obtain ⟨c0, c1, f0, f1, pos, ⟨m, hm⟩, short⟩ := h
  have HV : Hid (Pu.fromOrV s bad = if Lib.hasPrefix s Pu.sFrom then Pu.whichV Pu.sFrom s bad else ⟨0, []⟩) := rfl
  have HE : Hid (Pu.fromOr s bad = if Lib.hasPrefix s Pu.sFrom then Pu.which Pu.sFrom s bad else (s, bad)) := rfl
  go_enter Tryz.func224, Tryz.ntmps224
  go_wp2_with fail
  refine (hasPrefix_any s Pu.sFrom _).mono ?_
  rintro e w1 ⟨rfl, rfl⟩
  generalize Lib.hasPrefix s Pu.sFrom = f at *
  cases f
  · go_wp2
    refine bodyPost_ret (v := .agg #[.int .i64 0, .string ⟨#[]⟩]) (by simp [results, Tryz.results224, go_sem]) rfl ⟨by rw [HV.out]; rfl, ?_, ?_⟩
    · rw [HE.out]
      exact h'.alloc _
    · exact (Kx.refl _ w).alloc _
  · go_wp2_with fail
    refine (which_any b s bad Pu.sFrom _ (h'.alloc _)).mono ?_
    rintro e w1 ⟨rfl, hr, hk⟩
    generalize Pu.whichV Pu.sFrom s bad = wv at *
    obtain ⟨n, x⟩ := wv
    obtain ⟨n0, g0⟩ := new_cell hk hb 0
    obtain ⟨n1, g1⟩ := new_cell hk hb 1
    go_wp2
    refine bodyPost_ret (v := .agg #[.int .i64 n, .string ⟨x.toArray⟩]) (by simp [results, Tryz.results224, go_sem, n0, n1]) rfl ⟨by rw [HV.out]; rfl, ?_, ?_⟩
    · rw [HE.out]
      exact (hr.setNew hb _).setNew hb _
    · exact ((((Kx.refl _ w).alloc _).trans hk).setNew (by simp) _).setNew (by simp) _

set_option maxHeartbeats 400000 in
theorem author_any (b : Nat) (s : List UInt8) (bad : Bool) (w : World) (h : Rd b s bad w) :
    Calls Tryz.prog 223 #[.pointer (some ⟨b, 0, none⟩)] w fun e w' => e = .returned (.agg #[.string ⟨(Pu.authorV s bad).name.toArray⟩, .string ⟨(Pu.authorV s bad).mail.toArray⟩, .int .i64 (Pu.authorV s bad).time]) ∧ Rd b (Pu.author s bad).1 (Pu.author s bad).2 w' ∧ Kx (Only b) w w' := by
  have hl := (Pu.after_len Pu.sAuthor s bad).1
  have hs := h.short
  have hb := h.lt
  go_enter Tryz.func223, Tryz.ntmps223
  go_wp2_with fail
  refine (after_any b s bad Pu.sAuthor _ (h.alloc _)).mono ?_
  rintro e w1 ⟨rfl, hr, hk⟩
  have HV : Hid (Pu.authorV s bad = ⟨(Lib.cut (Pu.after Pu.sAuthor s bad).1 [32, 60]).1, (Lib.cut (Lib.cut (Pu.after Pu.sAuthor s bad).1 [32, 60]).2.1 [62, 32]).1, (Pu.number (Lib.cut (Lib.cut (Pu.after Pu.sAuthor s bad).1 [32, 60]).2.1 [62, 32]).2.1 0 9999999999).1⟩) := rfl
  have HE : Hid (Pu.author s bad = Pu.need (Pu.isAuthor (Pu.after Pu.sAuthor s bad).1) (Pu.after Pu.sAuthor s bad).2.1 (Pu.after Pu.sAuthor s bad).2.2) := rfl
  generalize Pu.after Pu.sAuthor s bad = x at *
  obtain ⟨x0, x1, x2⟩ := x
  obtain ⟨m, hm⟩ := hr.max
  have hl2 := Pu.cut_lens x0 [32, 60]
  have HA : Hid (Pu.isAuthor x0 = ((Lib.cut x0 [32, 60]).2.2 && (Lib.cut (Lib.cut x0 [32, 60]).2.1 [62, 32]).2.2 && (Pu.number (Lib.cut (Lib.cut x0 [32, 60]).2.1 [62, 32]).2.1 0 9999999999).2
    && Pu.isName (Lib.cut x0 [32, 60]).1 && Pu.isMail (Lib.cut (Lib.cut x0 [32, 60]).2.1 [62, 32]).1)) := rfl
  go_wp2_with fail
  refine (cut_any x0 [32, 60] m _ (by omega) hm).mono ?_
  rintro e w2 ⟨rfl, q1, rfl⟩
  generalize Lib.cut x0 [32, 60] = y at *
  obtain ⟨y0, y1, y2⟩ := y
  have hl3 := Pu.cut_lens y1 [62, 32]
  go_wp2_with fail
  refine (cut_any y1 [62, 32] m _ (by omega) (by exact hm)).mono ?_
  rintro e w2 ⟨rfl, q2, rfl⟩
  generalize Lib.cut y1 [62, 32] = z at *
  obtain ⟨z0, z1, z2⟩ := z
  go_wp2_with fail
  refine (number_any z1 0 9999999999 _ (by omega)).mono ?_
  rintro e w2 ⟨rfl, rfl⟩
  generalize Pu.number z1 0 9999999999 = v at *
  obtain ⟨v0, v1⟩ := v
  cases y2
  · go_wp2_with fail
    refine (need_any b x1 x2 _ _ (hr.drewN _)).mono ?_
    rintro e w3 ⟨rfl, hr2, hk2⟩
    have hk3 := (hk.drewN _).trans hk2
    obtain ⟨n0, g0⟩ := new_cell hk3 hb 0
    obtain ⟨n1, g1⟩ := new_cell hk3 hb 1
    obtain ⟨n2, g2⟩ := new_cell hk3 hb 2
    go_wp2
    refine bodyPost_ret (v := .agg #[.string ⟨y0.toArray⟩, .string ⟨z0.toArray⟩, .int .i64 v0]) (by simp [results, Tryz.results223, go_sem, n0, n1, n2]) rfl ⟨by rw [HV.out], ?_, ?_⟩
    · rw [HE.out, HA.out]
      simp only [Bool.false_and]
      exact ((hr2.setNew hb _).setNew hb _).setNew hb _
    · exact (((((Kx.refl _ w).alloc _).trans hk3).setNew (by simp) _).setNew (by simp) _).setNew (by simp) _
  cases z2
  · go_wp2_with fail
    refine (need_any b x1 x2 _ _ (hr.drewN _)).mono ?_
    rintro e w3 ⟨rfl, hr2, hk2⟩
    have hk3 := (hk.drewN _).trans hk2
    obtain ⟨n0, g0⟩ := new_cell hk3 hb 0
    obtain ⟨n1, g1⟩ := new_cell hk3 hb 1
    obtain ⟨n2, g2⟩ := new_cell hk3 hb 2
    go_wp2
    refine bodyPost_ret (v := .agg #[.string ⟨y0.toArray⟩, .string ⟨z0.toArray⟩, .int .i64 v0]) (by simp [results, Tryz.results223, go_sem, n0, n1, n2]) rfl ⟨by rw [HV.out], ?_, ?_⟩
    · rw [HE.out, HA.out]
      simp only [Bool.false_and, Bool.and_false]
      exact ((hr2.setNew hb _).setNew hb _).setNew hb _
    · exact (((((Kx.refl _ w).alloc _).trans hk3).setNew (by simp) _).setNew (by simp) _).setNew (by simp) _
  cases v1
  · go_wp2_with fail
    refine (need_any b x1 x2 _ _ (hr.drewN _)).mono ?_
    rintro e w3 ⟨rfl, hr2, hk2⟩
    have hk3 := (hk.drewN _).trans hk2
    obtain ⟨n0, g0⟩ := new_cell hk3 hb 0
    obtain ⟨n1, g1⟩ := new_cell hk3 hb 1
    obtain ⟨n2, g2⟩ := new_cell hk3 hb 2
    go_wp2
    refine bodyPost_ret (v := .agg #[.string ⟨y0.toArray⟩, .string ⟨z0.toArray⟩, .int .i64 v0]) (by simp [results, Tryz.results223, go_sem, n0, n1, n2]) rfl ⟨by rw [HV.out], ?_, ?_⟩
    · rw [HE.out, HA.out]
      simp only [Bool.false_and, Bool.and_false]
      exact ((hr2.setNew hb _).setNew hb _).setNew hb _
    · exact (((((Kx.refl _ w).alloc _).trans hk3).setNew (by simp) _).setNew (by simp) _).setNew (by simp) _
  go_wp2_with fail
  refine (isName_any y0 _ (by omega)).mono ?_
  rintro e w2 ⟨rfl, rfl⟩
  generalize Pu.isName y0 = nm at *
  cases nm
  · go_wp2_with fail
    refine (need_any b x1 x2 _ _ (hr.drewN _)).mono ?_
    rintro e w3 ⟨rfl, hr2, hk2⟩
    have hk3 := (hk.drewN _).trans hk2
    obtain ⟨n0, g0⟩ := new_cell hk3 hb 0
    obtain ⟨n1, g1⟩ := new_cell hk3 hb 1
    obtain ⟨n2, g2⟩ := new_cell hk3 hb 2
    go_wp2
    refine bodyPost_ret (v := .agg #[.string ⟨y0.toArray⟩, .string ⟨z0.toArray⟩, .int .i64 v0]) (by simp [results, Tryz.results223, go_sem, n0, n1, n2]) rfl ⟨by rw [HV.out], ?_, ?_⟩
    · rw [HE.out, HA.out]
      simp only [Bool.false_and, Bool.and_false]
      exact ((hr2.setNew hb _).setNew hb _).setNew hb _
    · exact (((((Kx.refl _ w).alloc _).trans hk3).setNew (by simp) _).setNew (by simp) _).setNew (by simp) _
  go_wp2_with fail
  refine (isMail_any z0 _ (by omega)).mono ?_
  rintro e w2 ⟨rfl, rfl⟩
  generalize Pu.isMail z0 = ml at *
  go_wp2_with fail
  refine (need_any b x1 x2 _ _ (hr.drewN _)).mono ?_
  rintro e w3 ⟨rfl, hr2, hk2⟩
  have hk3 := (hk.drewN _).trans hk2
  obtain ⟨n0, g0⟩ := new_cell hk3 hb 0
  obtain ⟨n1, g1⟩ := new_cell hk3 hb 1
  obtain ⟨n2, g2⟩ := new_cell hk3 hb 2
  go_wp2
  refine bodyPost_ret (v := .agg #[.string ⟨y0.toArray⟩, .string ⟨z0.toArray⟩, .int .i64 v0]) (by simp [results, Tryz.results223, go_sem, n0, n1, n2]) rfl ⟨by rw [HV.out], ?_, ?_⟩
  · rw [HE.out, HA.out]
    simp only [Bool.true_and]
    exact ((hr2.setNew hb _).setNew hb _).setNew hb _
  · exact (((((Kx.refl _ w).alloc _).trans hk3).setNew (by simp) _).setNew (by simp) _).setNew (by simp) _

end Go.Proofs.YtepgoppgblfjbaaGreatDoor
