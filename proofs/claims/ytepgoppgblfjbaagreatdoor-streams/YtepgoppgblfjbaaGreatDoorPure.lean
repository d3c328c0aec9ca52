/- What the reader's methods compute, as plain functions on lists of bytes. -/
import Derived.Lib.IndexMore
import Derived.Lib.Strings
import Derived.Lib.Split
import Derived.Lib.IndexAny
namespace Go.Proofs.YtepgoppgblfjbaaGreatDoor
namespace Pu

/-- need. -/
def need (ok : Bool) (s : List UInt8) (bad : Bool) : List UInt8 × Bool := if ok then (s, bad) else ([], true)
/-- line: what it gives; what is left; is it wrong? -/
def line (s : List UInt8) (bad : Bool) : List UInt8 × List UInt8 × Bool :=
  if (Lib.cut s [10]).2.2 then ((Lib.cut s [10]).1, (Lib.cut s [10]).2.1, bad) else ([], [], true)
def exactly (l s : List UInt8) (bad : Bool) : List UInt8 × Bool := need ((line s bad).1 == l) (line s bad).2.1 (line s bad).2.2
def after (head s : List UInt8) (bad : Bool) : List UInt8 × List UInt8 × Bool :=
  (Lib.trimPrefix (line s bad).1 head, need (Lib.hasPrefix (line s bad).1 head) (line s bad).2.1 (line s bad).2.2)

theorem cut_lens (s sep : List UInt8) : (Lib.cut s sep).1.length ≤ s.length ∧ (Lib.cut s sep).2.1.length ≤ s.length := by
  unfold Lib.cut
  split <;> simp <;> omega

theorem need_len (ok : Bool) (s : List UInt8) (bad : Bool) : (need ok s bad).1.length ≤ s.length := by
  unfold need; split <;> simp

theorem line_lens (s : List UInt8) (bad : Bool) : (line s bad).1.length ≤ s.length ∧ (line s bad).2.1.length ≤ s.length := by
  have := cut_lens s [10]
  unfold line; split <;> simp <;> omega

/-- words.madeOf -/
def madeOf (t set : List UInt8) (most : Int) : Bool := (!t.isEmpty && decide ((t.length : Int) ≤ most)) && t.all (fun c => decide (0 ≤ Lib.indexByte set c))
def hasAtEnds (t : List UInt8) (c : UInt8) : Bool := t.head? == some c || t.getLast? == some c
def refSet : List UInt8 := [97, 98, 99, 100, 101, 102, 103, 104, 105, 106, 107, 108, 109, 110, 111, 112, 113, 114, 115, 116, 117, 118, 119, 120, 121, 122, 48, 49, 50, 51, 52, 53, 54, 55, 56, 57, 45, 47]
def partSet : List UInt8 := [97, 98, 99, 100, 101, 102, 103, 104, 105, 106, 107, 108, 109, 110, 111, 112, 113, 114, 115, 116, 117, 118, 119, 120, 121, 122, 65, 66, 67, 68, 69, 70, 71, 72, 73, 74, 75, 76, 77, 78, 79, 80, 81, 82, 83, 84, 85, 86, 87, 88, 89, 90, 48, 49, 50, 51, 52, 53, 54, 55, 56, 57, 46, 45, 95]
def nameSet : List UInt8 := [97, 98, 99, 100, 101, 102, 103, 104, 105, 106, 107, 108, 109, 110, 111, 112, 113, 114, 115, 116, 117, 118, 119, 120, 121, 122, 65, 66, 67, 68, 69, 70, 71, 72, 73, 74, 75, 76, 77, 78, 79, 80, 81, 82, 83, 84, 85, 86, 87, 88, 89, 90, 48, 49, 50, 51, 52, 53, 54, 55, 56, 57, 32]
def mailSet : List UInt8 := [97, 98, 99, 100, 101, 102, 103, 104, 105, 106, 107, 108, 109, 110, 111, 112, 113, 114, 115, 116, 117, 118, 119, 120, 121, 122, 65, 66, 67, 68, 69, 70, 71, 72, 73, 74, 75, 76, 77, 78, 79, 80, 81, 82, 83, 84, 85, 86, 87, 88, 89, 90, 48, 49, 50, 51, 52, 53, 54, 55, 56, 57, 46, 45, 64]
def digitSet : List UInt8 := [48, 49, 50, 51, 52, 53, 54, 55, 56, 57]
def isRef (t : List UInt8) : Bool := madeOf t refSet 20 && !hasAtEnds t 47 && !Lib.contains t [47, 47]
def isPart (t : List UInt8) : Bool := madeOf t partSet 12 && t != [46] && t != [46, 46]
def isName (t : List UInt8) : Bool := madeOf t nameSet 20 && !hasAtEnds t 32
def isMail (t : List UInt8) : Bool := madeOf t mailSet 20
/-- The number that decimal digits write. -/
def val (t : List UInt8) : Int := t.foldl (fun n c => n * 10 + ((c.toNat : Int) - 48)) 0
def number (t : List UInt8) (lo hi : Int) : Int × Bool :=
  if !madeOf t digitSet 18 || (t.head? == some 48 && decide (1 < t.length)) then (0, false)
  else if val t < lo ∨ hi < val t then (0, false) else (val t, true)
def mark (t : List UInt8) : Int × Bool := if Lib.hasPrefix t [58] then number (Lib.trimPrefix t [58]) 1 999 else (0, false)
def isPath (t : List UInt8) : Bool := decide (t.length ≤ 60) && (Lib.split t [47]).all isPart && decide ((Lib.split t [47]).length ≤ 6)

theorem madeOf_empty (set : List UInt8) (most : Int) : madeOf [] set most = false := rfl
theorem madeOf_long (t set : List UInt8) (most : Int) (h : most < (t.length : Int)) : madeOf t set most = false := by
  unfold madeOf; rw [decide_eq_false (by omega)]; simp

theorem val_snoc (l : List UInt8) (c : UInt8) : val (l ++ [c]) = val l * 10 + ((c.toNat : Int) - 48) := by
  simp [val, List.foldl_append]

theorem digit_of {c : UInt8} (h : 0 ≤ Lib.indexByte digitSet c) : 48 ≤ c.toNat ∧ c.toNat ≤ 57 := by
  have h1 : digitSet.contains c = true := by rw [Lib.contains_iff_indexByte]; simpa using h
  simp only [digitSet, List.contains_cons, List.contains_nil, Bool.or_false, Bool.or_eq_true, beq_iff_eq] at h1
  rcases h1 with h | h | h | h | h | h | h | h | h | h <;> subst h <;> decide

theorem madeOf_at {t set : List UInt8} {most : Int} (h : madeOf t set most = true) (k : Nat) (hk : k < t.length) : 0 ≤ Lib.indexByte set t[k] := by
  unfold madeOf at h
  simp only [Bool.and_eq_true, List.all_eq_true, decide_eq_true_eq] at h
  exact h.2 _ (List.getElem_mem hk)

theorem val_take (t : List UInt8) (h : ∀ k (hk : k < t.length), 48 ≤ t[k].toNat ∧ t[k].toNat ≤ 57) : ∀ k, k ≤ t.length → 0 ≤ val (t.take k) ∧ val (t.take k) < 10 ^ k
  | 0, _ => by simp [val]
  | k + 1, hk => by
    have ih := val_take t h k (by omega)
    have hd := h k (by omega)
    rw [List.take_succ_eq_append_getElem (by omega), val_snoc]
    have e : (10 : Int) ^ (k + 1) = 10 ^ k * 10 := Int.pow_succ _ _
    rw [e]
    omega

theorem pow_le : ∀ k : Nat, k ≤ 17 → (10 : Int) ^ k ≤ 100000000000000000 := by
  intro k hk
  have : k = 0 ∨ k = 1 ∨ k = 2 ∨ k = 3 ∨ k = 4 ∨ k = 5 ∨ k = 6 ∨ k = 7 ∨ k = 8 ∨ k = 9 ∨ k = 10 ∨ k = 11 ∨ k = 12 ∨ k = 13 ∨ k = 14 ∨ k = 15 ∨ k = 16 ∨ k = 17 := by omega
  rcases this with h | h | h | h | h | h | h | h | h | h | h | h | h | h | h | h | h | h <;> subst h <;> decide

/- The reader's methods, each: what is left, is it wrong? (and what it gives, where that counts). -/
def sMark : List UInt8 := [109, 97, 114, 107, 32]
def sData : List UInt8 := [100, 97, 116, 97, 32]
def sAuthor : List UInt8 := [97, 117, 116, 104, 111, 114, 32]
def sFrom : List UInt8 := [102, 114, 111, 109, 32]
def sMerge : List UInt8 := [109, 101, 114, 103, 101, 32]
def sDone : List UInt8 := [100, 111, 110, 101]
def sBlob : List UInt8 := [98, 108, 111, 98]
def sCommit : List UInt8 := [99, 111, 109, 109, 105, 116]
def sCommit1 : List UInt8 := [99, 111, 109, 109, 105, 116, 32]
def sTag : List UInt8 := [116, 97, 103]
def sTag1 : List UInt8 := [116, 97, 103, 32]
def sReset : List UInt8 := [114, 101, 115, 101, 116]
def sReset1 : List UInt8 := [114, 101, 115, 101, 116, 32]
def sInline : List UInt8 := [105, 110, 108, 105, 110, 101]
def s644 : List UInt8 := [49, 48, 48, 54, 52, 52]
def s755 : List UInt8 := [49, 48, 48, 55, 53, 53]
def sAll : List UInt8 := [100, 101, 108, 101, 116, 101, 97, 108, 108]

def ref (head s : List UInt8) (bad : Bool) : List UInt8 × List UInt8 × Bool :=
  ((after head s bad).1, need (isRef (after head s bad).1) (after head s bad).2.1 (after head s bad).2.2)
def rmark (s : List UInt8) (bad : Bool) : Int × List UInt8 × Bool :=
  ((mark (after sMark s bad).1).1, need (mark (after sMark s bad).1).2 (after sMark s bad).2.1 (after sMark s bad).2.2)
def which (head s : List UInt8) (bad : Bool) : List UInt8 × Bool :=
  if (mark (after head s bad).1).2 then (after head s bad).2 else need (isRef (after head s bad).1) (after head s bad).2.1 (after head s bad).2.2
/-- Is it an author's line, behind its word? -/
def isAuthor (t : List UInt8) : Bool :=
  (Lib.cut t [32, 60]).2.2 && (Lib.cut (Lib.cut t [32, 60]).2.1 [62, 32]).2.2 && (number (Lib.cut (Lib.cut t [32, 60]).2.1 [62, 32]).2.1 0 9999999999).2
    && isName (Lib.cut t [32, 60]).1 && isMail (Lib.cut (Lib.cut t [32, 60]).2.1 [62, 32]).1
def author (s : List UInt8) (bad : Bool) : List UInt8 × Bool :=
  need (isAuthor (after sAuthor s bad).1) (after sAuthor s bad).2.1 (after sAuthor s bad).2.2
/-- Behind the number of bytes: the bytes and the byte 10. -/
def bytes (n : Int) (s : List UInt8) (bad : Bool) : List UInt8 × List UInt8 × Bool :=
  if s[n.toNat]? = some 10 then (s.take n.toNat, s.drop (n.toNat + 1), bad) else ([], [], true)
def data (s : List UInt8) (bad : Bool) : List UInt8 × List UInt8 × Bool :=
  bytes (number (after sData s bad).1 0 200).1
    (need (number (after sData s bad).1 0 200).2 (after sData s bad).2.1 (after sData s bad).2.2).1
    (need (number (after sData s bad).1 0 200).2 (after sData s bad).2.1 (after sData s bad).2.2).2
def fromOr (s : List UInt8) (bad : Bool) : List UInt8 × Bool := if Lib.hasPrefix s sFrom then which sFrom s bad else (s, bad)
def mergesF : Nat → List UInt8 → Bool → Nat → Nat × List UInt8 × Bool
  | 0, s, bad, n => (n, s, bad)
  | f + 1, s, bad, n => if Lib.hasPrefix s sMerge then mergesF f (which sMerge s bad).1 (which sMerge s bad).2 (n + 1) else (n, s, bad)
def merges (s : List UInt8) (bad : Bool) : List UInt8 × Bool :=
  need (decide ((mergesF s.length s bad 0).1 < 4)) (mergesF s.length s bad 0).2.1 (mergesF s.length s bad 0).2.2
def content (f s : List UInt8) (bad : Bool) : List UInt8 × Bool := if f == sInline then (data s bad).2 else need (mark f).2 s bad
def changeM (f1 f2 f3 s : List UInt8) (bad : Bool) : List UInt8 × Bool :=
  content f2 (need (isPath f3) (need (f1 == s644 || f1 == s755) s bad).1 (need (f1 == s644 || f1 == s755) s bad).2).1
    (need (isPath f3) (need (f1 == s644 || f1 == s755) s bad).1 (need (f1 == s644 || f1 == s755) s bad).2).2
def change (l s : List UInt8) (bad : Bool) : List UInt8 × Bool :=
  match Lib.split l [32] with
  | [f0, f1, f2, f3] => if f0 == [77] then changeM f1 f2 f3 s bad else need (l == sAll) s bad
  | [f0, f1] => if f0 == [68] then need (isPath f1) s bad else need (l == sAll) s bad
  | [f0, f1, f2] => if f0 == [67] || f0 == [82] then need (isPath f2) (need (isPath f1) s bad).1 (need (isPath f1) s bad).2 else need (l == sAll) s bad
  | _ => need (l == sAll) s bad
def changesF : Nat → List UInt8 → List UInt8 → Bool → Nat → Nat × List UInt8 × Bool
  | 0, _, s, bad, n => (n, s, bad)
  | f + 1, l, s, bad, n =>
    if l == [] then (n, s, bad)
    else changesF f (line (change l s bad).1 (change l s bad).2).1 (line (change l s bad).1 (change l s bad).2).2.1 (line (change l s bad).1 (change l s bad).2).2.2 (n + 1)
def changes (s : List UInt8) (bad : Bool) : List UInt8 × Bool :=
  need (decide ((changesF (s.length + 2) (line s bad).1 (line s bad).2.1 (line s bad).2.2 0).1 ≤ 30))
    (changesF (s.length + 2) (line s bad).1 (line s bad).2.1 (line s bad).2.2 0).2.1 (changesF (s.length + 2) (line s bad).1 (line s bad).2.1 (line s bad).2.2 0).2.2
def word (s : List UInt8) : List UInt8 := (Lib.cut (Lib.cut s [10]).1 [32]).1
def readBlob (s : List UInt8) (bad : Bool) : List UInt8 × Bool :=
  (data (rmark (exactly sBlob s bad).1 (exactly sBlob s bad).2).2.1 (rmark (exactly sBlob s bad).1 (exactly sBlob s bad).2).2.2).2
def readTag (s : List UInt8) (bad : Bool) : List UInt8 × Bool :=
  (data (which sFrom (ref sTag1 s bad).2.1 (ref sTag1 s bad).2.2).1 (which sFrom (ref sTag1 s bad).2.1 (ref sTag1 s bad).2.2).2).2
def readReset (s : List UInt8) (bad : Bool) : List UInt8 × Bool :=
  exactly [] (fromOr (ref sReset1 s bad).2.1 (ref sReset1 s bad).2.2).1 (fromOr (ref sReset1 s bad).2.1 (ref sReset1 s bad).2.2).2
/-- A state of the reader, for functions one behind the other. -/
def thn (x : List UInt8 × Bool) (f : List UInt8 → Bool → List UInt8 × Bool) : List UInt8 × Bool := f x.1 x.2
def readCommit (s : List UInt8) (bad : Bool) : List UInt8 × Bool :=
  thn (thn (thn (thn (thn (thn (ref sCommit1 s bad).2 (fun s b => (rmark s b).2)) author) (fun s b => (data s b).2)) fromOr) merges) changes
def readOne (s : List UInt8) (bad : Bool) : List UInt8 × Bool :=
  if word s == sBlob then readBlob s bad else if word s == sCommit then readCommit s bad
  else if word s == sTag then readTag s bad else if word s == sReset then readReset s bad else ([], true)
def readAllF : Nat → List UInt8 → Bool → Nat → Nat × List UInt8 × Bool
  | 0, s, bad, n => (n, s, bad)
  | f + 1, s, bad, n =>
    if word s == sDone then (n, (exactly sDone s bad).1, (exactly sDone s bad).2)
    else if (readOne s bad).2 then (n, (readOne s bad).1, (readOne s bad).2)
    else readAllF f (readOne s bad).1 (readOne s bad).2 (n + 1)
def readAll (s : List UInt8) : Nat × List UInt8 × Bool := readAllF (s.length + 1) s false 0
/-- Check: the number and the error. -/
def check (s : List UInt8) : Int × Int :=
  if 8000 < s.length then (0, 2)
  else if (readAll s).2.2 then (((readAll s).1 : Int) + 1, 1)
  else if (readAll s).2.1 != [] then (((readAll s).1 : Int) + 2, 1)
  else if 60 < (readAll s).1 then (0, 2) else ((readAll s).1, 0)

theorem after_len (head s : List UInt8) (bad : Bool) : (after head s bad).1.length ≤ s.length ∧ (after head s bad).2.1.length ≤ s.length := by
  have h1 := line_lens s bad
  have h2 := need_len (Lib.hasPrefix (line s bad).1 head) (line s bad).2.1 (line s bad).2.2
  unfold after
  refine ⟨?_, Nat.le_trans h2 h1.2⟩
  unfold Lib.trimPrefix; split <;> simp <;> omega

theorem number_bounds (t : List UInt8) : 0 ≤ (number t 0 200).1 ∧ (number t 0 200).1 ≤ 200 := by
  unfold number
  split
  · simp
  · split
    · simp
    · simp; omega

end Pu
end Go.Proofs.YtepgoppgblfjbaaGreatDoor
