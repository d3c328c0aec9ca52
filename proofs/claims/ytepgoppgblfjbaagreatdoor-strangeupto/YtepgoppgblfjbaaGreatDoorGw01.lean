import Derived.Lib.IndexAny
namespace Go.Proofs.YtepgoppgblfjbaaGreatDoor

namespace Pu

def need (ok : Bool) (s : List UInt8) (bad : Bool) : List UInt8 × Bool := if ok then (s, bad) else ([], true)
def line (s : List UInt8) (bad : Bool) : List UInt8 × List UInt8 × Bool :=
  if (Lib.cut s [10]).2.2 then ((Lib.cut s [10]).1, (Lib.cut s [10]).2.1, bad) else ([], [], true)
def exactly (l s : List UInt8) (bad : Bool) : List UInt8 × Bool := need ((line s bad).1 == l) (line s bad).2.1 (line s bad).2.2
def after (head s : List UInt8) (bad : Bool) : List UInt8 × List UInt8 × Bool :=
  (Lib.trimPrefix (line s bad).1 head, need (Lib.hasPrefix (line s bad).1 head) (line s bad).2.1 (line s bad).2.2)

theorem cut_lens (s sep : List UInt8) : (Lib.cut s sep).1.length ≤ s.length ∧ (Lib.cut s sep).2.1.length ≤ s.length := by
  unfold Lib.cut
  split <;> simp <;> omega

theorem need_len (ok : Bool) (s : List UInt8) (bad : Bool) : (need ok s bad).1.length ≤ s.length := by
  unfold need; split <;> simp

theorem line_lens (s : List UInt8) (bad : Bool) : (line s bad).1.length ≤ s.length ∧ (line s bad).2.1.length ≤ s.length := by
  have := cut_lens s [10]
  unfold line; split <;> simp <;> omega

def madeOf (t set : List UInt8) (most : Int) : Bool := (!t.isEmpty && decide ((t.length : Int) ≤ most)) && t.all (fun c => decide (0 ≤ Lib.indexByte set c))
def hasAtEnds (t : List UInt8) (c : UInt8) : Bool := t.head? == some c || t.getLast? == some c
def refSet : List UInt8 := [97, 98, 99, 100, 101, 102, 103, 104, 105, 106, 107, 108, 109, 110, 111, 112, 113, 114, 115, 116, 117, 118, 119, 120, 121, 122, 48, 49, 50, 51, 52, 53, 54, 55, 56, 57, 45, 47]
def partSet : List UInt8 := [97, 98, 99, 100, 101, 102, 103, 104, 105, 106, 107, 108, 109, 110, 111, 112, 113, 114, 115, 116, 117, 118, 119, 120, 121, 122, 65, 66, 67, 68, 69, 70, 71, 72, 73, 74, 75, 76, 77, 78, 79, 80, 81, 82, 83, 84, 85, 86, 87, 88, 89, 90, 48, 49, 50, 51, 52, 53, 54, 55, 56, 57, 46, 45, 95]
def nameSet : List UInt8 := [97, 98, 99, 100, 101, 102, 103, 104, 105, 106, 107, 108, 109, 110, 111, 112, 113, 114, 115, 116, 117, 118, 119, 120, 121, 122, 65, 66, 67, 68, 69, 70, 71, 72, 73, 74, 75, 76, 77, 78, 79, 80, 81, 82, 83, 84, 85, 86, 87, 88, 89, 90, 48, 49, 50, 51, 52, 53, 54, 55, 56, 57, 32]
def mailSet : List UInt8 := [97, 98, 99, 100, 101, 102, 103, 104, 105, 106, 107, 108, 109, 110, 111, 112, 113, 114, 115, 116, 117, 118, 119, 120, 121, 122, 65, 66, 67, 68, 69, 70, 71, 72, 73, 74, 75, 76, 77, 78, 79, 80, 81, 82, 83, 84, 85, 86, 87, 88, 89, 90, 48, 49, 50, 51, 52, 53, 54, 55, 56, 57, 46, 45, 64]
def digitSet : List UInt8 := [48, 49, 50, 51, 52, 53, 54, 55, 56, 57]
def isRef (t : List UInt8) : Bool := madeOf t refSet 20 && !hasAtEnds t 47 && !Lib.contains t [47, 47]
def isPart (t : List UInt8) : Bool := madeOf t partSet 12 && t != [46] && t != [46, 46]
def isName (t : List UInt8) : Bool := madeOf t nameSet 20 && !hasAtEnds t 32
def isMail (t : List UInt8) : Bool := madeOf t mailSet 20
def val (t : List UInt8) : Int := t.foldl (fun n c => n * 10 + ((c.toNat : Int) - 48)) 0
def number (t : List UInt8) (lo hi : Int) : Int × Bool :=
  if !madeOf t digitSet 18 || (t.head? == some 48 && decide (1 < t.length)) then (0, false)
  else if val t < lo ∨ hi < val t then (0, false) else (val t, true)
def mark (t : List UInt8) : Int × Bool := if Lib.hasPrefix t [58] then number (Lib.trimPrefix t [58]) 1 999 else (0, false)
def isPath (t : List UInt8) : Bool := decide (t.length ≤ 60) && (Lib.split t [47]).all isPart && decide ((Lib.split t [47]).length ≤ 6)

theorem madeOf_long (t set : List UInt8) (most : Int) (h : most < (t.length : Int)) : madeOf t set most = false := by
  unfold madeOf; rw [decide_eq_false (by omega)]; simp

theorem val_snoc (l : List UInt8) (c : UInt8) : val (l ++ [c]) = val l * 10 + ((c.toNat : Int) - 48) := by
  simp [val, List.foldl_append]

theorem digit_of {c : UInt8} (h : 0 ≤ Lib.indexByte digitSet c) : 48 ≤ c.toNat ∧ c.toNat ≤ 57 := by
  have h1 : digitSet.contains c = true := by rw [Lib.contains_iff_indexByte]; simpa using h
  simp only [digitSet, List.contains_cons, List.contains_nil, Bool.or_false, Bool.or_eq_true, beq_iff_eq] at h1
  rcases h1 with h | h | h | h | h | h | h | h | h | h <;> subst h <;> decide

theorem madeOf_at {t set : List UInt8} {most : Int} (h : madeOf t set most = true) (k : Nat) (hk : k < t.length) : 0 ≤ Lib.indexByte set t[k] := by
  unfold madeOf at h
  simp only [Bool.and_eq_true, List.all_eq_true, decide_eq_true_eq] at h
  exact h.2 _ (List.getElem_mem hk)

theorem val_take (t : List UInt8) (h : ∀ k (hk : k < t.length), 48 ≤ t[k].toNat ∧ t[k].toNat ≤ 57) : ∀ k, k ≤ t.length → 0 ≤ val (t.take k) ∧ val (t.take k) < 10 ^ k
  | 0, _ => by simp [val]
  | k + 1, hk => by
    have ih := val_take t h k (by omega)
    have hd := h k (by omega)
    rw [List.take_succ_eq_append_getElem (by omega), val_snoc]
    have e : (10 : Int) ^ (k + 1) = 10 ^ k * 10 := Int.pow_succ _ _
    rw [e]
    omega

theorem pow_le : ∀ k : Nat, k ≤ 17 → (10 : Int) ^ k ≤ 100000000000000000 := by
  intro k hk
  have : k = 0 ∨ k = 1 ∨ k = 2 ∨ k = 3 ∨ k = 4 ∨ k = 5 ∨ k = 6 ∨ k = 7 ∨ k = 8 ∨ k = 9 ∨ k = 10 ∨ k = 11 ∨ k = 12 ∨ k = 13 ∨ k = 14 ∨ k = 15 ∨ k = 16 ∨ k = 17 := by omega
  rcases this with h | h | h | h | h | h | h | h | h | h | h | h | h | h | h | h | h | h <;> subst h <;> decide

/- The reader's methods, each: what is left, is it wrong? (and what it gives, where that counts). -/
def sMark : List UInt8 := [109, 97, 114, 107, 32]
def sData : List UInt8 := [100, 97, 116, 97, 32]
def sAuthor : List UInt8 := [97, 117, 116, 104, 111, 114, 32]
def sFrom : List UInt8 := [102, 114, 111, 109, 32]
def sMerge : List UInt8 := [109, 101, 114, 103, 101, 32]
def sDone : List UInt8 := [100, 111, 110, 101]
def sBlob : List UInt8 := [98, 108, 111, 98]
def sCommit : List UInt8 := [99, 111, 109, 109, 105, 116]
def sCommit1 : List UInt8 := [99, 111, 109, 109, 105, 116, 32]
def sTag : List UInt8 := [116, 97, 103]
def sTag1 : List UInt8 := [116, 97, 103, 32]
def sReset : List UInt8 := [114, 101, 115, 101, 116]
def sReset1 : List UInt8 := [114, 101, 115, 101, 116, 32]
def sInline : List UInt8 := [105, 110, 108, 105, 110, 101]
def s644 : List UInt8 := [49, 48, 48, 54, 52, 52]
def s755 : List UInt8 := [49, 48, 48, 55, 53, 53]
def sAll : List UInt8 := [100, 101, 108, 101, 116, 101, 97, 108, 108]

def ref (head s : List UInt8) (bad : Bool) : List UInt8 × List UInt8 × Bool :=
  ((after head s bad).1, need (isRef (after head s bad).1) (after head s bad).2.1 (after head s bad).2.2)
def rmark (s : List UInt8) (bad : Bool) : Int × List UInt8 × Bool :=
  ((mark (after sMark s bad).1).1, need (mark (after sMark s bad).1).2 (after sMark s bad).2.1 (after sMark s bad).2.2)
def which (head s : List UInt8) (bad : Bool) : List UInt8 × Bool :=
  if (mark (after head s bad).1).2 then (after head s bad).2 else need (isRef (after head s bad).1) (after head s bad).2.1 (after head s bad).2.2
def isAuthor (t : List UInt8) : Bool :=
  (Lib.cut t [32, 60]).2.2 && (Lib.cut (Lib.cut t [32, 60]).2.1 [62, 32]).2.2 && (number (Lib.cut (Lib.cut t [32, 60]).2.1 [62, 32]).2.1 0 9999999999).2
    && isName (Lib.cut t [32, 60]).1 && isMail (Lib.cut (Lib.cut t [32, 60]).2.1 [62, 32]).1
def author (s : List UInt8) (bad : Bool) : List UInt8 × Bool :=
  need (isAuthor (after sAuthor s bad).1) (after sAuthor s bad).2.1 (after sAuthor s bad).2.2
def bytes (n : Int) (s : List UInt8) (bad : Bool) : List UInt8 × List UInt8 × Bool :=
  if s[n.toNat]? = some 10 then (s.take n.toNat, s.drop (n.toNat + 1), bad) else ([], [], true)
def data (s : List UInt8) (bad : Bool) : List UInt8 × List UInt8 × Bool :=
  bytes (number (after sData s bad).1 0 200).1
    (need (number (after sData s bad).1 0 200).2 (after sData s bad).2.1 (after sData s bad).2.2).1
    (need (number (after sData s bad).1 0 200).2 (after sData s bad).2.1 (after sData s bad).2.2).2
def fromOr (s : List UInt8) (bad : Bool) : List UInt8 × Bool := if Lib.hasPrefix s sFrom then which sFrom s bad else (s, bad)
def mergesF : Nat → List UInt8 → Bool → Nat → Nat × List UInt8 × Bool
  | 0, s, bad, n => (n, s, bad)
  | f + 1, s, bad, n => if Lib.hasPrefix s sMerge then mergesF f (which sMerge s bad).1 (which sMerge s bad).2 (n + 1) else (n, s, bad)
def merges (s : List UInt8) (bad : Bool) : List UInt8 × Bool :=
  need (decide ((mergesF s.length s bad 0).1 < 4)) (mergesF s.length s bad 0).2.1 (mergesF s.length s bad 0).2.2
def content (f s : List UInt8) (bad : Bool) : List UInt8 × Bool := if f == sInline then (data s bad).2 else need (mark f).2 s bad
def changeM (f1 f2 f3 s : List UInt8) (bad : Bool) : List UInt8 × Bool :=
  content f2 (need (isPath f3) (need (f1 == s644 || f1 == s755) s bad).1 (need (f1 == s644 || f1 == s755) s bad).2).1
    (need (isPath f3) (need (f1 == s644 || f1 == s755) s bad).1 (need (f1 == s644 || f1 == s755) s bad).2).2
def change (l s : List UInt8) (bad : Bool) : List UInt8 × Bool :=
  match Lib.split l [32] with
  | [f0, f1, f2, f3] => if f0 == [77] then changeM f1 f2 f3 s bad else need (l == sAll) s bad
  | [f0, f1] => if f0 == [68] then need (isPath f1) s bad else need (l == sAll) s bad
  | [f0, f1, f2] => if f0 == [67] || f0 == [82] then need (isPath f2) (need (isPath f1) s bad).1 (need (isPath f1) s bad).2 else need (l == sAll) s bad
  | _ => need (l == sAll) s bad
def changesF : Nat → List UInt8 → List UInt8 → Bool → Nat → Nat × List UInt8 × Bool
  | 0, _, s, bad, n => (n, s, bad)
  | f + 1, l, s, bad, n =>
    if l == [] then (n, s, bad)
    else changesF f (line (change l s bad).1 (change l s bad).2).1 (line (change l s bad).1 (change l s bad).2).2.1 (line (change l s bad).1 (change l s bad).2).2.2 (n + 1)
def changes (s : List UInt8) (bad : Bool) : List UInt8 × Bool :=
  need (decide ((changesF (s.length + 2) (line s bad).1 (line s bad).2.1 (line s bad).2.2 0).1 ≤ 30))
    (changesF (s.length + 2) (line s bad).1 (line s bad).2.1 (line s bad).2.2 0).2.1 (changesF (s.length + 2) (line s bad).1 (line s bad).2.1 (line s bad).2.2 0).2.2
def word (s : List UInt8) : List UInt8 := (Lib.cut (Lib.cut s [10]).1 [32]).1
def readBlob (s : List UInt8) (bad : Bool) : List UInt8 × Bool :=
  (data (rmark (exactly sBlob s bad).1 (exactly sBlob s bad).2).2.1 (rmark (exactly sBlob s bad).1 (exactly sBlob s bad).2).2.2).2
def readTag (s : List UInt8) (bad : Bool) : List UInt8 × Bool :=
  (data (which sFrom (ref sTag1 s bad).2.1 (ref sTag1 s bad).2.2).1 (which sFrom (ref sTag1 s bad).2.1 (ref sTag1 s bad).2.2).2).2
def readReset (s : List UInt8) (bad : Bool) : List UInt8 × Bool :=
  exactly [] (fromOr (ref sReset1 s bad).2.1 (ref sReset1 s bad).2.2).1 (fromOr (ref sReset1 s bad).2.1 (ref sReset1 s bad).2.2).2
def thn (x : List UInt8 × Bool) (f : List UInt8 → Bool → List UInt8 × Bool) : List UInt8 × Bool := f x.1 x.2
def readCommit (s : List UInt8) (bad : Bool) : List UInt8 × Bool :=
  thn (thn (thn (thn (thn (thn (ref sCommit1 s bad).2 (fun s b => (rmark s b).2)) author) (fun s b => (data s b).2)) fromOr) merges) changes
def readOne (s : List UInt8) (bad : Bool) : List UInt8 × Bool :=
  if word s == sBlob then readBlob s bad else if word s == sCommit then readCommit s bad
  else if word s == sTag then readTag s bad else if word s == sReset then readReset s bad else ([], true)
def readAllF : Nat → List UInt8 → Bool → Nat → Nat × List UInt8 × Bool
  | 0, s, bad, n => (n, s, bad)
  | f + 1, s, bad, n =>
    if word s == sDone then (n, (exactly sDone s bad).1, (exactly sDone s bad).2)
    else if (readOne s bad).2 then (n, (readOne s bad).1, (readOne s bad).2)
    else readAllF f (readOne s bad).1 (readOne s bad).2 (n + 1)
def readAll (s : List UInt8) : Nat × List UInt8 × Bool := readAllF (s.length + 1) s false 0
def check (s : List UInt8) : Int × Int :=
  if 8000 < s.length then (0, 2)
  else if (readAll s).2.2 then (((readAll s).1 : Int) + 1, 1)
  else if (readAll s).2.1 != [] then (((readAll s).1 : Int) + 2, 1)
  else if 60 < (readAll s).1 then (0, 2) else ((readAll s).1, 0)

theorem after_len (head s : List UInt8) (bad : Bool) : (after head s bad).1.length ≤ s.length ∧ (after head s bad).2.1.length ≤ s.length := by
  have h1 := line_lens s bad
  have h2 := need_len (Lib.hasPrefix (line s bad).1 head) (line s bad).2.1 (line s bad).2.2
  unfold after
  refine ⟨?_, Nat.le_trans h2 h1.2⟩
  unfold Lib.trimPrefix; split <;> simp <;> omega

theorem number_bounds (t : List UInt8) : 0 ≤ (number t 0 200).1 ∧ (number t 0 200).1 ≤ 200 := by
  unfold number
  split
  · simp
  · split
    · simp
    · simp; omega

end Pu

namespace Pu

theorem line_lt (s : List UInt8) (bad : Bool) (h : s ≠ []) : (line s bad).2.1.length < s.length := by
  have h0 : 0 < s.length := List.length_pos_iff.2 h
  unfold line
  split
  · rename_i hc
    unfold Lib.cut at hc ⊢
    split at hc
    · rename_i hi
      rw [if_pos hi]
      simp; omega
    · simp at hc
  · simpa using h0

theorem line_le (s : List UInt8) (bad : Bool) : (line s bad).2.1.length ≤ s.length := (line_lens s bad).2

theorem after_lt (head s : List UInt8) (bad : Bool) (h : s ≠ []) : (after head s bad).2.1.length < s.length := by
  have h1 := line_lt s bad h
  have h2 := need_len (Lib.hasPrefix (line s bad).1 head) (line s bad).2.1 (line s bad).2.2
  unfold after; exact Nat.lt_of_le_of_lt h2 h1

theorem which_le (head s : List UInt8) (bad : Bool) : (which head s bad).1.length ≤ (after head s bad).2.1.length := by
  unfold which; split
  · exact Nat.le_refl _
  · exact need_len _ _ _

theorem which_lt (head s : List UInt8) (bad : Bool) (h : s ≠ []) : (which head s bad).1.length < s.length :=
  Nat.lt_of_le_of_lt (which_le head s bad) (after_lt head s bad h)

theorem hasPrefix_ne {s p : List UInt8} (h : Lib.hasPrefix s p = true) (hp : p ≠ []) : s ≠ [] := by
  intro e; subst e
  unfold Lib.hasPrefix at h
  cases p with
  | nil => exact hp rfl
  | cons a r => simp [List.isPrefixOf] at h

theorem mergesF_nil (f : Nat) (bad : Bool) (n : Nat) : mergesF f [] bad n = (n, [], bad) := by
  cases f with
  | zero => rfl
  | succ f => rfl

theorem mergesF_fuel : ∀ (f g : Nat) (s : List UInt8) (bad : Bool) (n : Nat), s.length ≤ f → s.length ≤ g → mergesF f s bad n = mergesF g s bad n := by
  intro f
  induction f with
  | zero =>
    intro g s bad n h _
    have : s = [] := List.length_eq_zero_iff.1 (by omega)
    subst this
    rw [mergesF_nil, mergesF_nil]
  | succ f ih =>
    intro g s bad n h hg
    cases g with
    | zero =>
      have : s = [] := List.length_eq_zero_iff.1 (by omega)
      subst this
      rw [mergesF_nil, mergesF_nil]
    | succ g =>
      unfold mergesF
      split
      · rename_i hp
        have hlt := which_lt sMerge s bad (hasPrefix_ne hp (by decide))
        exact ih g _ _ _ (by omega) (by omega)
      · rfl

theorem mergesF_step (s : List UInt8) (bad : Bool) (n : Nat) (hp : Lib.hasPrefix s sMerge = true) :
    mergesF s.length s bad n = mergesF (which sMerge s bad).1.length (which sMerge s bad).1 (which sMerge s bad).2 (n + 1) := by
  have hne := hasPrefix_ne hp (by decide)
  have hlt := which_lt sMerge s bad hne
  obtain ⟨k, hk⟩ : ∃ k, s.length = k + 1 := ⟨s.length - 1, by have := List.length_pos_iff.2 hne; omega⟩
  rw [hk]
  conv => lhs; unfold mergesF
  rw [if_pos hp]
  exact mergesF_fuel _ _ _ _ _ (by omega) (Nat.le_refl _)

theorem mergesF_stop (f : Nat) (s : List UInt8) (bad : Bool) (n : Nat) (hp : Lib.hasPrefix s sMerge = false) : mergesF f s bad n = (n, s, bad) := by
  cases f with
  | zero => rfl
  | succ f => unfold mergesF; rw [hp]; rfl

theorem data_le (s : List UInt8) (bad : Bool) : (data s bad).2.1.length ≤ (after sData s bad).2.1.length := by
  unfold data bytes
  split
  · have := need_len (number (after sData s bad).1 0 200).2 (after sData s bad).2.1 (after sData s bad).2.2
    simp; omega
  · simp

theorem after_le (head s : List UInt8) (bad : Bool) : (after head s bad).2.1.length ≤ s.length := (after_len head s bad).2

theorem content_le (f s : List UInt8) (bad : Bool) : (content f s bad).1.length ≤ s.length := by
  unfold content
  split
  · exact Nat.le_trans (data_le s bad) (after_le _ _ _)
  · exact need_len _ _ _

theorem change_le (l s : List UInt8) (bad : Bool) : (change l s bad).1.length ≤ s.length := by
  unfold change
  split
  · split
    · unfold changeM
      exact Nat.le_trans (content_le _ _ _) (Nat.le_trans (need_len _ _ _) (need_len _ _ _))
    · exact need_len _ _ _
  · split <;> exact need_len _ _ _
  · split
    · exact Nat.le_trans (need_len _ _ _) (need_len _ _ _)
    · exact need_len _ _ _
  · exact need_len _ _ _

theorem round_lt (l s : List UInt8) (bad : Bool) :
    (line (change l s bad).1 (change l s bad).2).1 = [] ∨ (line (change l s bad).1 (change l s bad).2).2.1.length < s.length := by
  have h := change_le l s bad
  generalize change l s bad = x at *
  obtain ⟨x0, x1⟩ := x
  by_cases e : x0 = []
  · left; subst e; rfl
  · right
    exact Nat.lt_of_lt_of_le (line_lt x0 x1 e) h

theorem changesF_nil (f : Nat) (s : List UInt8) (bad : Bool) (n : Nat) : changesF f [] s bad n = (n, s, bad) := by
  cases f with
  | zero => rfl
  | succ f => rfl

theorem changesF_fuel : ∀ (f g : Nat) (l s : List UInt8) (bad : Bool) (n : Nat), s.length < f → s.length < g → changesF f l s bad n = changesF g l s bad n := by
  intro f
  induction f with
  | zero => intro g l s bad n h; omega
  | succ f ih =>
    intro g l s bad n h hg
    cases g with
    | zero => omega
    | succ g =>
      unfold changesF
      split
      · rfl
      · rcases round_lt l s bad with e | e
        · rw [e, changesF_nil, changesF_nil]
        · exact ih g _ _ _ _ (by omega) (by omega)

theorem changesF_step (l s : List UInt8) (bad : Bool) (n : Nat) (hp : (l == []) = false) :
    changesF (s.length + 1) l s bad n = changesF ((line (change l s bad).1 (change l s bad).2).2.1.length + 1) (line (change l s bad).1 (change l s bad).2).1 (line (change l s bad).1 (change l s bad).2).2.1 (line (change l s bad).1 (change l s bad).2).2.2 (n + 1) := by
  conv => lhs; unfold changesF
  rw [hp]
  simp only [Bool.false_eq_true, if_false]
  rcases round_lt l s bad with e | e
  · rw [e, changesF_nil, changesF_nil]
  · exact changesF_fuel _ _ _ _ _ _ (by omega) (by omega)

end Pu

namespace Pu

theorem exactly_lt (l s : List UInt8) (bad : Bool) (h : s ≠ []) : (exactly l s bad).1.length < s.length := by
  unfold exactly; exact Nat.lt_of_le_of_lt (need_len _ _ _) (line_lt s bad h)
theorem exactly_le (l s : List UInt8) (bad : Bool) : (exactly l s bad).1.length ≤ s.length := by
  unfold exactly; exact Nat.le_trans (need_len _ _ _) (line_le s bad)
theorem ref_lt (head s : List UInt8) (bad : Bool) (h : s ≠ []) : (ref head s bad).2.1.length < s.length := by
  unfold ref; exact Nat.lt_of_le_of_lt (need_len _ _ _) (after_lt head s bad h)
theorem rmark_le (s : List UInt8) (bad : Bool) : (rmark s bad).2.1.length ≤ s.length := by
  unfold rmark; exact Nat.le_trans (need_len _ _ _) (after_le _ s bad)
theorem which_le2 (head s : List UInt8) (bad : Bool) : (which head s bad).1.length ≤ s.length := Nat.le_trans (which_le head s bad) (after_le head s bad)
theorem author_le (s : List UInt8) (bad : Bool) : (author s bad).1.length ≤ s.length := by
  unfold author; exact Nat.le_trans (need_len _ _ _) (after_le _ s bad)
theorem data_le2 (s : List UInt8) (bad : Bool) : (data s bad).2.1.length ≤ s.length := Nat.le_trans (data_le s bad) (after_le _ s bad)
theorem fromOr_le (s : List UInt8) (bad : Bool) : (fromOr s bad).1.length ≤ s.length := by
  unfold fromOr; split
  · exact which_le2 _ _ _
  · exact Nat.le_refl _
theorem mergesF_le : ∀ (f : Nat) (s : List UInt8) (bad : Bool) (n : Nat), (mergesF f s bad n).2.1.length ≤ s.length := by
  intro f
  induction f with
  | zero => intro s bad n; exact Nat.le_refl _
  | succ f ih =>
    intro s bad n
    unfold mergesF
    split
    · exact Nat.le_trans (ih _ _ _) (which_le2 _ _ _)
    · exact Nat.le_refl _
theorem merges_le (s : List UInt8) (bad : Bool) : (merges s bad).1.length ≤ s.length := by
  unfold merges; exact Nat.le_trans (need_len _ _ _) (mergesF_le _ _ _ _)
theorem changesF_le : ∀ (f : Nat) (l s : List UInt8) (bad : Bool) (n : Nat), (changesF f l s bad n).2.1.length ≤ s.length := by
  intro f
  induction f with
  | zero => intro l s bad n; exact Nat.le_refl _
  | succ f ih =>
    intro l s bad n
    unfold changesF
    split
    · exact Nat.le_refl _
    · exact Nat.le_trans (ih _ _ _ _) (Nat.le_trans (line_le _ _) (change_le _ _ _))
theorem changes_le (s : List UInt8) (bad : Bool) : (changes s bad).1.length ≤ s.length := by
  unfold changes; exact Nat.le_trans (need_len _ _ _) (Nat.le_trans (changesF_le _ _ _ _ _) (line_le _ _))

theorem readCommit_lt (s : List UInt8) (bad : Bool) (h : s ≠ []) : (readCommit s bad).1.length < s.length := by
  have h0 := ref_lt sCommit1 s bad h
  unfold readCommit
  generalize (ref sCommit1 s bad).2 = x0 at *
  simp only [thn]
  have h1 := rmark_le x0.1 x0.2
  generalize (rmark x0.1 x0.2).2 = x1 at *
  have h2 := author_le x1.1 x1.2
  generalize author x1.1 x1.2 = x2 at *
  have h3 := data_le2 x2.1 x2.2
  generalize (data x2.1 x2.2).2 = x3 at *
  have h4 := fromOr_le x3.1 x3.2
  generalize fromOr x3.1 x3.2 = x4 at *
  have h5 := merges_le x4.1 x4.2
  generalize merges x4.1 x4.2 = x5 at *
  have h6 := changes_le x5.1 x5.2
  omega

theorem readOne_nil (bad : Bool) : readOne [] bad = ([], true) := rfl

theorem readOne_lt (s : List UInt8) (bad : Bool) (h : s ≠ []) : (readOne s bad).1.length < s.length := by
  unfold readOne
  split
  · unfold readBlob
    exact Nat.lt_of_le_of_lt (Nat.le_trans (data_le2 _ _) (rmark_le _ _)) (exactly_lt _ _ _ h)
  · split
    · exact readCommit_lt s bad h
    · split
      · unfold readTag
        exact Nat.lt_of_le_of_lt (Nat.le_trans (data_le2 _ _) (which_le2 _ _ _)) (ref_lt _ _ _ h)
      · split
        · unfold readReset
          exact Nat.lt_of_le_of_lt (Nat.le_trans (exactly_le _ _ _) (fromOr_le _ _)) (ref_lt _ _ _ h)
        · exact List.length_pos_iff.2 h

theorem readOne_lt' (s : List UInt8) (bad : Bool) (h : (readOne s bad).2 = false) : (readOne s bad).1.length < s.length := by
  by_cases e : s = []
  · subst e; rw [readOne_nil] at h; cases h
  · exact readOne_lt s bad e

theorem readAllF_fuel : ∀ (f g : Nat) (s : List UInt8) (bad : Bool) (n : Nat), s.length < f → s.length < g → readAllF f s bad n = readAllF g s bad n := by
  intro f
  induction f with
  | zero => intro g s bad n h; omega
  | succ f ih =>
    intro g s bad n h hg
    cases g with
    | zero => omega
    | succ g =>
      unfold readAllF
      split
      · rfl
      · split
        · rfl
        · rename_i hb
          have := readOne_lt' s bad (by simpa using hb)
          exact ih g _ _ _ (by omega) (by omega)

theorem readAllF_step (s : List UInt8) (bad : Bool) (n : Nat) (h1 : (word s == sDone) = false) (h2 : (readOne s bad).2 = false) :
    readAllF (s.length + 1) s bad n = readAllF ((readOne s bad).1.length + 1) (readOne s bad).1 (readOne s bad).2 (n + 1) := by
  have hl := readOne_lt' s bad h2
  conv => lhs; unfold readAllF
  rw [h1, h2]
  simp only [Bool.false_eq_true, if_false]
  exact readAllF_fuel _ _ _ _ _ (by omega) (by omega)

theorem readAllF_done (f : Nat) (s : List UInt8) (bad : Bool) (n : Nat) (h1 : (word s == sDone) = true) :
    readAllF (f + 1) s bad n = (n, (exactly sDone s bad).1, (exactly sDone s bad).2) := by
  unfold readAllF; rw [h1]; rfl

theorem readAllF_bad (f : Nat) (s : List UInt8) (bad : Bool) (n : Nat) (h1 : (word s == sDone) = false) (h2 : (readOne s bad).2 = true) :
    readAllF (f + 1) s bad n = (n, (readOne s bad).1, (readOne s bad).2) := by
  unfold readAllF; rw [h1, h2]; rfl

end Pu

namespace Pu

theorem index_mem {s : List UInt8} {c : UInt8} : 0 ≤ Lib.index s [c] ↔ c ∈ s := by
  induction s with
  | nil => simp [Lib.index]
  | cons a l ih =>
    unfold Lib.index
    by_cases h : c = a
    · subst h; simp [List.isPrefixOf]
    · have h2 : [c].isPrefixOf (a :: l) = false := by simp [List.isPrefixOf, h]
      rw [h2]
      simp only [Bool.false_eq_true, if_false, List.mem_cons, h, false_or]
      rw [← ih]
      have := Lib.index_ge l [c]
      split
      · rename_i e; simp at e; omega
      · rename_i e; simp at e; omega

theorem index_app {s : List UInt8} {c : UInt8} (t : List UInt8) (h : c ∈ s) : Lib.index (s ++ t) [c] = Lib.index s [c] := by
  induction s with
  | nil => simp at h
  | cons a l ih =>
    rw [List.cons_append]
    unfold Lib.index
    by_cases e : c = a
    · subst e; simp [List.isPrefixOf]
    · have h2 : [c].isPrefixOf (a :: l) = false := by simp [List.isPrefixOf, e]
      have h3 : [c].isPrefixOf (a :: (l ++ t)) = false := by simp [List.isPrefixOf, e]
      have h4 : c ∈ l := by simpa [e] using h
      rw [h2, h3, ih h4]

theorem index_lt {s : List UInt8} {c : UInt8} (h : c ∈ s) : (Lib.index s [c]).toNat < s.length := by
  induction s with
  | nil => simp at h
  | cons a l ih =>
    unfold Lib.index
    by_cases e : c = a
    · subst e; simp [List.isPrefixOf]
    · have h2 : [c].isPrefixOf (a :: l) = false := by simp [List.isPrefixOf, e]
      have h4 : c ∈ l := by simpa [e] using h
      have := ih h4
      rw [h2]
      simp only [Bool.false_eq_true, if_false, List.length_cons]
      split
      · omega
      · have := Lib.index_ge l [c]; omega

theorem cut_found {s : List UInt8} {c : UInt8} : (Lib.cut s [c]).2.2 = true ↔ c ∈ s := by
  rw [← index_mem]; unfold Lib.cut; split <;> simp_all

theorem cut_app {s : List UInt8} {c : UInt8} (t : List UInt8) (h : c ∈ s) : Lib.cut (s ++ t) [c] = ((Lib.cut s [c]).1, (Lib.cut s [c]).2.1 ++ t, true) := by
  have h0 := index_mem.2 h
  have h1 := index_app t h
  have h2 := index_lt h
  unfold Lib.cut
  rw [h1, if_pos h0, if_pos h0]
  simp only [List.length_cons, List.length_nil, Nat.zero_add]
  rw [List.take_append_of_le_length (by omega), List.drop_append_of_le_length (by omega)]

/- Wrong stays wrong. -/
theorem need_bad (ok : Bool) (s : List UInt8) : (need ok s true).2 = true := by unfold need; split <;> rfl
theorem line_bad (s : List UInt8) : (line s true).2.2 = true := by unfold line; split <;> rfl
theorem after_bad (hd s : List UInt8) : (after hd s true).2.2 = true := by
  unfold after; simp only [line_bad]; exact need_bad _ _
theorem exactly_bad (l s : List UInt8) : (exactly l s true).2 = true := by unfold exactly; rw [line_bad]; exact need_bad _ _
theorem rmark_bad (s : List UInt8) : (rmark s true).2.2 = true := by unfold rmark; rw [after_bad]; exact need_bad _ _
theorem which_bad (hd s : List UInt8) : (which hd s true).2 = true := by
  unfold which; split
  · exact after_bad _ _
  · rw [after_bad]; exact need_bad _ _
theorem author_bad (s : List UInt8) : (author s true).2 = true := by unfold author; rw [after_bad]; exact need_bad _ _
theorem bytes_bad (n : Int) (s : List UInt8) : (bytes n s true).2.2 = true := by unfold bytes; split <;> rfl
theorem data_bad (s : List UInt8) : (data s true).2.2 = true := by unfold data; rw [after_bad, need_bad]; exact bytes_bad _ _
theorem content_bad (f s : List UInt8) : (content f s true).2 = true := by
  unfold content; split
  · exact data_bad _
  · exact need_bad _ _
theorem change_bad (l s : List UInt8) : (change l s true).2 = true := by
  unfold change; split
  · split
    · unfold changeM; rw [need_bad, need_bad]; exact content_bad _ _
    · exact need_bad _ _
  · split <;> exact need_bad _ _
  · split
    · rw [need_bad]; exact need_bad _ _
    · exact need_bad _ _
  · exact need_bad _ _
/- What was read well reads the same with more text behind it. -/
theorem need_good {ok : Bool} {s : List UInt8} {bad : Bool} (h : (need ok s bad).2 = false) : ok = true ∧ bad = false := by
  cases ok with
  | false => simp [need] at h
  | true => exact ⟨rfl, by simpa [need] using h⟩

theorem line_good {s : List UInt8} {bad : Bool} (h : (line s bad).2.2 = false) : 10 ∈ s ∧ bad = false := by
  unfold line at h
  split at h
  · rename_i hc; exact ⟨cut_found.1 hc, h⟩
  · cases h

theorem line_ext {s : List UInt8} (t : List UInt8) (h : 10 ∈ s) (bad : Bool) : line (s ++ t) bad = ((line s bad).1, (line s bad).2.1 ++ t, bad) := by
  have h1 := cut_app t h
  unfold line
  rw [h1, cut_found.2 h]
  simp

theorem after_good {hd s : List UInt8} {bad : Bool} (h : (after hd s bad).2.2 = false) : 10 ∈ s ∧ bad = false := by
  unfold after at h
  exact line_good (need_good h).2

theorem after_ext {hd s : List UInt8} {bad : Bool} (t : List UInt8) (h : (after hd s bad).2.2 = false) : after hd (s ++ t) bad = ((after hd s bad).1, (after hd s bad).2.1 ++ t, false) := by
  unfold after at h ⊢
  obtain ⟨h1, h2⟩ := need_good h
  obtain ⟨h3, h4⟩ := line_good h2
  rw [line_ext t h3]
  simp only
  rw [h1, h4]
  simp [need]

theorem ref_ext {hd s : List UInt8} {bad : Bool} (t : List UInt8) (h : (ref hd s bad).2.2 = false) : (ref hd (s ++ t) bad).2 = ((ref hd s bad).2.1 ++ t, false) := by
  unfold ref at h ⊢
  obtain ⟨h1, h2⟩ := need_good h
  rw [after_ext t h2]
  simp only
  rw [h1]
  simp [need]

theorem rmark_ext {s : List UInt8} {bad : Bool} (t : List UInt8) (h : (rmark s bad).2.2 = false) : (rmark (s ++ t) bad).2 = ((rmark s bad).2.1 ++ t, false) := by
  unfold rmark at h ⊢
  obtain ⟨h1, h2⟩ := need_good h
  rw [after_ext t h2]
  simp only
  rw [h1]
  simp [need]

theorem author_ext {s : List UInt8} {bad : Bool} (t : List UInt8) (h : (author s bad).2 = false) : author (s ++ t) bad = ((author s bad).1 ++ t, false) := by
  unfold author at h ⊢
  obtain ⟨h1, h2⟩ := need_good h
  rw [after_ext t h2]
  simp only
  rw [h1]
  simp [need]

theorem bytes_ext {n : Int} {s : List UInt8} {bad : Bool} (t : List UInt8) (h : (bytes n s bad).2.2 = false) : (bytes n (s ++ t) bad).2 = ((bytes n s bad).2.1 ++ t, false) := by
  unfold bytes at h ⊢
  split at h
  · rename_i hn
    have hlt : n.toNat < s.length := by
      have := (List.getElem?_eq_some_iff.1 hn).1; exact this
    have hn2 : (s ++ t)[n.toNat]? = some 10 := by rw [List.getElem?_append_left hlt]; exact hn
    rw [if_pos hn2, if_pos hn, List.drop_append_of_le_length (by omega)]
    simp only at h
    rw [h]
  · cases h

theorem data_ext {s : List UInt8} {bad : Bool} (t : List UInt8) (h : (data s bad).2.2 = false) : (data (s ++ t) bad).2 = ((data s bad).2.1 ++ t, false) := by
  have h0 : (need (number (after sData s bad).1 0 200).2 (after sData s bad).2.1 (after sData s bad).2.2).2 = false := by
    cases hb : (need (number (after sData s bad).1 0 200).2 (after sData s bad).2.1 (after sData s bad).2.2).2 with
    | false => rfl
    | true => unfold data at h; rw [hb, bytes_bad] at h; cases h
  obtain ⟨h1, h2⟩ := need_good h0
  have h3 := after_ext t h2
  unfold data at h ⊢
  rw [h3]
  simp only
  rw [h1, h2] at h ⊢
  simp only [need, if_true] at h ⊢
  exact bytes_ext t h

end Pu

namespace Pu

/- What is left was there. -/
theorem ref_good {hd s : List UInt8} {bad : Bool} (h : (ref hd s bad).2.2 = false) : 10 ∈ s ∧ bad = false := by
  unfold ref at h; exact after_good (need_good h).2

def commitA (s : List UInt8) (bad : Bool) : List UInt8 × Bool :=
  thn (thn (thn (ref sCommit1 s bad).2 (fun s b => (rmark s b).2)) author) (fun s b => (data s b).2)
def commitB (s : List UInt8) (bad : Bool) : List UInt8 × Bool := thn (thn (fromOr s bad) merges) changes

theorem readCommit_eq (s : List UInt8) (bad : Bool) : readCommit s bad = commitB (commitA s bad).1 (commitA s bad).2 := by
  unfold readCommit commitA commitB; simp only [thn]

theorem commitA_ext {s : List UInt8} {bad : Bool} (t : List UInt8) (h : (commitA s bad).2 = false) : commitA (s ++ t) bad = ((commitA s bad).1 ++ t, false) ∧ 10 ∈ s ∧ bad = false := by
  unfold commitA at h ⊢
  simp only [thn] at h ⊢
  have h2 : (ref sCommit1 s bad).2.2 = false := by
    cases hb : (ref sCommit1 s bad).2.2 with
    | false => rfl
    | true => rw [hb, rmark_bad, author_bad, data_bad] at h; cases h
  refine ⟨?_, ref_good h2⟩
  rw [ref_ext t h2]
  generalize (ref sCommit1 s bad).2 = x at *
  obtain ⟨x0, x1⟩ := x
  simp only at *
  subst h2
  have h3 : (rmark x0 false).2.2 = false := by
    cases hb : (rmark x0 false).2.2 with
    | false => rfl
    | true => rw [hb, author_bad, data_bad] at h; cases h
  rw [rmark_ext t h3]
  generalize (rmark x0 false).2 = y at *
  obtain ⟨y0, y1⟩ := y
  simp only at *
  subst h3
  have h4 : (author y0 false).2 = false := by
    cases hb : (author y0 false).2 with
    | false => rfl
    | true => rw [hb, data_bad] at h; cases h
  rw [author_ext t h4]
  generalize author y0 false = z at *
  obtain ⟨z0, z1⟩ := z
  simp only at *
  subst h4
  exact data_ext t h

theorem word_app {s : List UInt8} (t : List UInt8) (h : 10 ∈ s) : word (s ++ t) = word s := by
  unfold word; rw [cut_app t h]

end Pu

structure Au where
  (name mail : List UInt8)
  time : Int

namespace Pu

structure Wh where
  mark : Int
  ref : List UInt8

structure Ch where
  (word mode : List UInt8)
  mark : Int
  (data path «to» : List UInt8)

structure Co where
  (word ref : List UInt8)
  mark : Int
  au : Au
  data : List UInt8
  frm : Wh
  merges : List Wh
  changes : List Ch

def Co.of (word : List UInt8) : Co := ⟨word, [], 0, ⟨[], [], 0⟩, [], ⟨0, []⟩, [], []⟩

def whichV (head s : List UInt8) (bad : Bool) : Wh :=
  if (mark (after head s bad).1).2 then ⟨(mark (after head s bad).1).1, []⟩ else ⟨0, (after head s bad).1⟩
def fromOrV (s : List UInt8) (bad : Bool) : Wh := if Lib.hasPrefix s sFrom then whichV sFrom s bad else ⟨0, []⟩
def authorV (s : List UInt8) (bad : Bool) : Au :=
  ⟨(Lib.cut (after sAuthor s bad).1 [32, 60]).1, (Lib.cut (Lib.cut (after sAuthor s bad).1 [32, 60]).2.1 [62, 32]).1,
   (number (Lib.cut (Lib.cut (after sAuthor s bad).1 [32, 60]).2.1 [62, 32]).2.1 0 9999999999).1⟩
def mergesV : Nat → List UInt8 → Bool → List Wh
  | 0, _, _ => []
  | f + 1, s, bad => if Lib.hasPrefix s sMerge then whichV sMerge s bad :: mergesV f (which sMerge s bad).1 (which sMerge s bad).2 else []
def contentV (f s : List UInt8) (bad : Bool) : Int × List UInt8 := if f == sInline then (0, (data s bad).1) else ((mark f).1, [])
def changeMV (f1 f2 f3 s : List UInt8) (bad : Bool) : Ch :=
  let x := need (isPath f3) (need (f1 == s644 || f1 == s755) s bad).1 (need (f1 == s644 || f1 == s755) s bad).2
  ⟨[77], f1, (contentV f2 x.1 x.2).1, (contentV f2 x.1 x.2).2, f3, []⟩
def changeV (l s : List UInt8) (bad : Bool) : Ch :=
  match Lib.split l [32] with
  | [f0, f1, f2, f3] => if f0 == [77] then changeMV f1 f2 f3 s bad else ⟨f0, [], 0, [], [], []⟩
  | [f0, f1] => if f0 == [68] then ⟨f0, [], 0, [], f1, []⟩ else ⟨f0, [], 0, [], [], []⟩
  | [f0, f1, f2] => if f0 == [67] || f0 == [82] then ⟨f0, [], 0, [], f1, f2⟩ else ⟨f0, [], 0, [], [], []⟩
  | f0 :: _ => ⟨f0, [], 0, [], [], []⟩
  | [] => ⟨[], [], 0, [], [], []⟩
def changesV : Nat → List UInt8 → List UInt8 → Bool → List Ch
  | 0, _, _, _ => []
  | f + 1, l, s, bad =>
    if l == [] then []
    else changeV l s bad :: changesV f (line (change l s bad).1 (change l s bad).2).1 (line (change l s bad).1 (change l s bad).2).2.1 (line (change l s bad).1 (change l s bad).2).2.2

def readBlobV (s : List UInt8) (bad : Bool) (c : Co) : Co :=
  { c with mark := (rmark (exactly sBlob s bad).1 (exactly sBlob s bad).2).1, data := (data (rmark (exactly sBlob s bad).1 (exactly sBlob s bad).2).2.1 (rmark (exactly sBlob s bad).1 (exactly sBlob s bad).2).2.2).1 }
def readTagV (s : List UInt8) (bad : Bool) (c : Co) : Co :=
  { c with ref := (ref sTag1 s bad).1, frm := whichV sFrom (ref sTag1 s bad).2.1 (ref sTag1 s bad).2.2,
           data := (data (which sFrom (ref sTag1 s bad).2.1 (ref sTag1 s bad).2.2).1 (which sFrom (ref sTag1 s bad).2.1 (ref sTag1 s bad).2.2).2).1 }
def readResetV (s : List UInt8) (bad : Bool) (c : Co) : Co :=
  { c with ref := (ref sReset1 s bad).1, frm := fromOrV (ref sReset1 s bad).2.1 (ref sReset1 s bad).2.2 }
def rc1 (s : List UInt8) (bad : Bool) : List UInt8 × Bool := (ref sCommit1 s bad).2
def rc2 (s : List UInt8) (bad : Bool) : List UInt8 × Bool := (rmark (rc1 s bad).1 (rc1 s bad).2).2
def rc3 (s : List UInt8) (bad : Bool) : List UInt8 × Bool := author (rc2 s bad).1 (rc2 s bad).2
def rc4 (s : List UInt8) (bad : Bool) : List UInt8 × Bool := (data (rc3 s bad).1 (rc3 s bad).2).2
def rc5 (s : List UInt8) (bad : Bool) : List UInt8 × Bool := fromOr (rc4 s bad).1 (rc4 s bad).2
def rc6 (s : List UInt8) (bad : Bool) : List UInt8 × Bool := merges (rc5 s bad).1 (rc5 s bad).2
def changesAll (s : List UInt8) (bad : Bool) : List Ch := changesV (s.length + 2) (line s bad).1 (line s bad).2.1 (line s bad).2.2
def readCommitV (s : List UInt8) (bad : Bool) (c : Co) : Co :=
  { c with ref := (ref sCommit1 s bad).1, mark := (rmark (rc1 s bad).1 (rc1 s bad).2).1, au := authorV (rc2 s bad).1 (rc2 s bad).2, data := (data (rc3 s bad).1 (rc3 s bad).2).1,
           frm := fromOrV (rc4 s bad).1 (rc4 s bad).2, merges := mergesV (rc5 s bad).1.length (rc5 s bad).1 (rc5 s bad).2, changes := changesAll (rc6 s bad).1 (rc6 s bad).2 }
def readOneV (s : List UInt8) (bad : Bool) : Co :=
  if word s == sBlob then readBlobV s bad (Co.of sBlob) else if word s == sCommit then readCommitV s bad (Co.of sCommit)
  else if word s == sTag then readTagV s bad (Co.of sTag) else if word s == sReset then readResetV s bad (Co.of sReset) else Co.of []
def readAllV : Nat → List UInt8 → Bool → List Co
  | 0, _, _ => []
  | f + 1, s, bad => if word s == sDone then [] else if (readOne s bad).2 then [] else readOneV s bad :: readAllV f (readOne s bad).1 (readOne s bad).2
def commands (s : List UInt8) : List Co := readAllV (s.length + 1) s false

theorem readCommit_rc (s : List UInt8) (bad : Bool) : readCommit s bad = changes (rc6 s bad).1 (rc6 s bad).2 := by
  simp only [readCommit, thn, rc6, rc5, rc4, rc3, rc2, rc1]

theorem mergesV_nil (f : Nat) (bad : Bool) : mergesV f [] bad = [] := by cases f <;> rfl

theorem mergesV_fuel : ∀ (f g : Nat) (s : List UInt8) (bad : Bool), s.length ≤ f → s.length ≤ g → mergesV f s bad = mergesV g s bad := by
  intro f
  induction f with
  | zero =>
    intro g s bad h _
    have : s = [] := List.length_eq_zero_iff.1 (by omega)
    subst this
    rw [mergesV_nil, mergesV_nil]
  | succ f ih =>
    intro g s bad h hg
    cases g with
    | zero =>
      have : s = [] := List.length_eq_zero_iff.1 (by omega)
      subst this
      rw [mergesV_nil, mergesV_nil]
    | succ g =>
      unfold mergesV
      split
      · rename_i hp
        have hlt := which_lt sMerge s bad (hasPrefix_ne hp (by decide))
        rw [ih g _ _ (by omega) (by omega)]
      · rfl

theorem mergesV_step (s : List UInt8) (bad : Bool) (hp : Lib.hasPrefix s sMerge = true) :
    mergesV s.length s bad = whichV sMerge s bad :: mergesV (which sMerge s bad).1.length (which sMerge s bad).1 (which sMerge s bad).2 := by
  have hne := hasPrefix_ne hp (by decide)
  have hlt := which_lt sMerge s bad hne
  obtain ⟨k, hk⟩ : ∃ k, s.length = k + 1 := ⟨s.length - 1, by have := List.length_pos_iff.2 hne; omega⟩
  rw [hk]
  conv => lhs; unfold mergesV
  rw [if_pos hp, mergesV_fuel _ (which sMerge s bad).1.length _ _ (by omega) (Nat.le_refl _)]

theorem mergesV_stop (f : Nat) (s : List UInt8) (bad : Bool) (hp : Lib.hasPrefix s sMerge = false) : mergesV f s bad = [] := by
  cases f with
  | zero => rfl
  | succ f => unfold mergesV; rw [hp]; rfl

theorem mergesF_len : ∀ (f : Nat) (s : List UInt8) (bad : Bool) (n : Nat), (mergesF f s bad n).1 = n + (mergesV f s bad).length := by
  intro f
  induction f with
  | zero => intro s bad n; rfl
  | succ f ih =>
    intro s bad n
    unfold mergesF mergesV
    split
    · rw [ih]; simp; omega
    · rfl

theorem changesV_nil (f : Nat) (s : List UInt8) (bad : Bool) : changesV f [] s bad = [] := by cases f <;> rfl

theorem changesV_fuel : ∀ (f g : Nat) (l s : List UInt8) (bad : Bool), s.length < f → s.length < g → changesV f l s bad = changesV g l s bad := by
  intro f
  induction f with
  | zero => intro g l s bad h; omega
  | succ f ih =>
    intro g l s bad h hg
    cases g with
    | zero => omega
    | succ g =>
      unfold changesV
      split
      · rfl
      · rcases round_lt l s bad with e | e
        · rw [e, changesV_nil, changesV_nil]
        · rw [ih g _ _ _ (by omega) (by omega)]

theorem changesV_step (l s : List UInt8) (bad : Bool) (hp : (l == []) = false) :
    changesV (s.length + 1) l s bad = changeV l s bad :: changesV ((line (change l s bad).1 (change l s bad).2).2.1.length + 1) (line (change l s bad).1 (change l s bad).2).1 (line (change l s bad).1 (change l s bad).2).2.1 (line (change l s bad).1 (change l s bad).2).2.2 := by
  conv => lhs; unfold changesV
  rw [hp]
  simp only [Bool.false_eq_true, if_false]
  rcases round_lt l s bad with e | e
  · rw [e, changesV_nil, changesV_nil]
  · rw [changesV_fuel _ ((line (change l s bad).1 (change l s bad).2).2.1.length + 1) _ _ _ (by omega) (by omega)]

theorem changesF_len : ∀ (f : Nat) (l s : List UInt8) (bad : Bool) (n : Nat), (changesF f l s bad n).1 = n + (changesV f l s bad).length := by
  intro f
  induction f with
  | zero => intro l s bad n; rfl
  | succ f ih =>
    intro l s bad n
    unfold changesF changesV
    split
    · rfl
    · rw [ih]; simp; omega

end Pu

end Go.Proofs.YtepgoppgblfjbaaGreatDoor
