/- What the document's reader computes, against what the program's does: plain facts on lists of bytes. -/
import Derived.Test.YtepgoppgblfjbaaGreatDoorExt
import Derived.Lib.CountLaws
import Derived.Lib.IndexLaws
import Derived.KernelRfl
namespace Go.Proofs.YtepgoppgblfjbaaGreatDoor
namespace Pu

/- Splitting at a byte. -/
theorem index_at {p q : List UInt8} {c : UInt8} (h : ¬ c ∈ p) : Lib.index (p ++ c :: q) [c] = (p.length : Nat) := by
  induction p with
  | nil => simp [Lib.index, List.isPrefixOf]
  | cons a l ih =>
    have h1 : ¬ c = a := fun e => h (e ▸ List.mem_cons_self ..)
    have h2 : ¬ c ∈ l := fun e => h (List.mem_cons_of_mem _ e)
    rw [List.cons_append]
    unfold Lib.index
    have h3 : [c].isPrefixOf (a :: (l ++ c :: q)) = false := by simp [List.isPrefixOf, h1]
    rw [h3, ih h2]
    simp only [Bool.false_eq_true, if_false, List.length_cons]
    rw [if_neg (by simp)]
    rfl

theorem split_none {s : List UInt8} {c : UInt8} (h : ¬ c ∈ s) : Lib.split s [c] = [s] := by
  have hi : Lib.index s [c] = -1 := by
    have h1 := Lib.index_ge s [c]
    have h2 : ¬ 0 ≤ Lib.index s [c] := fun e => h (index_mem.1 e)
    omega
  unfold Lib.split
  rw [Lib.count_miss hi]
  rfl

theorem split_hit {p q : List UInt8} {c : UInt8} (h : ¬ c ∈ p) : Lib.split (p ++ c :: q) [c] = p :: Lib.split q [c] := by
  have hi := index_at (q := q) h
  unfold Lib.split
  rw [Lib.count_hit (by simp) hi, Nat.add_comm 1]
  conv => lhs; unfold Lib.splitK
  rw [hi]
  have h1 : ((p.length : Int) == -1) = false := by simp
  rw [h1]
  simp only [Bool.false_eq_true, if_false, Int.toNat_natCast, List.length_cons, List.length_nil, Nat.zero_add, Nat.add_zero]
  have e1 : (p ++ c :: q).take p.length = p := by simp
  have e2 : (p ++ c :: q).drop (p.length + 1) = q := by
    rw [List.drop_append]; simp
  rw [e1, e2]

/- Classes of characters. -/
def cls (great : Bool) (others : List UInt8) (c : UInt8) : Bool :=
  (decide (97 ≤ c.toNat) && decide (c.toNat ≤ 122)) || (decide (48 ≤ c.toNat) && decide (c.toNat ≤ 57)) || (great && decide (65 ≤ c.toNat) && decide (c.toNat ≤ 90)) || others.contains c
def ofR (s : List UInt8) (most : Int) (great : Bool) (others : List UInt8) : Bool :=
  s.all (cls great others) && (decide (1 ≤ s.length) && decide ((s.length : Int) ≤ most))

theorem cls_ref : ((List.range 256).all fun n => cls false [45, 47] (UInt8.ofNat n) == decide (0 ≤ Lib.indexByte refSet (UInt8.ofNat n))) = true := by kernel_rfl
theorem cls_part : ((List.range 256).all fun n => cls true [46, 45, 95] (UInt8.ofNat n) == decide (0 ≤ Lib.indexByte partSet (UInt8.ofNat n))) = true := by kernel_rfl
theorem cls_name : ((List.range 256).all fun n => cls true [32] (UInt8.ofNat n) == decide (0 ≤ Lib.indexByte nameSet (UInt8.ofNat n))) = true := by kernel_rfl
theorem cls_mail : ((List.range 256).all fun n => cls true [46, 45, 64] (UInt8.ofNat n) == decide (0 ≤ Lib.indexByte mailSet (UInt8.ofNat n))) = true := by kernel_rfl

theorem all_bytes {f : UInt8 → Bool} (h : ((List.range 256).all fun n => f (UInt8.ofNat n)) = true) (c : UInt8) : f c = true := by
  have h1 := List.all_eq_true.1 h c.toNat (List.mem_range.2 (UInt8.toNat_lt c))
  simpa using h1

theorem ofR_eq {great : Bool} {others set : List UInt8} (h : ((List.range 256).all fun n => cls great others (UInt8.ofNat n) == decide (0 ≤ Lib.indexByte set (UInt8.ofNat n))) = true)
    (s : List UInt8) (most : Int) : ofR s most great others = madeOf s set most := by
  have hc : ∀ c, cls great others c = decide (0 ≤ Lib.indexByte set c) := fun c => beq_iff_eq.1 (all_bytes (f := fun c => cls great others c == decide (0 ≤ Lib.indexByte set c)) h c)
  have e : cls great others = fun c => decide (0 ≤ Lib.indexByte set c) := funext hc
  unfold ofR madeOf
  rw [e, Bool.and_comm]
  congr 2
  cases s <;> simp

/- Two slashes one behind the other. -/
theorem contains_two (t : List UInt8) (x : UInt8) : Lib.contains t [x, x] = true ↔ ∃ i, t[i]? = some x ∧ t[i + 1]? = some x := by
  unfold Lib.contains
  rw [decide_eq_true_iff]
  have hocc : ∀ j, Lib.occAt t [x, x] j = true ↔ (t[j]? = some x ∧ t[j + 1]? = some x) := by
    intro j
    unfold Lib.occAt
    rw [List.isPrefixOf_iff_prefix]
    constructor
    · rintro ⟨r, hr⟩
      have h1 : (t.drop j)[0]? = some x := by rw [← hr]; rfl
      have h2 : (t.drop j)[1]? = some x := by rw [← hr]; rfl
      rw [List.getElem?_drop] at h1 h2
      exact ⟨by simpa using h1, h2⟩
    · rintro ⟨h1, h2⟩
      refine ⟨t.drop (j + 2), ?_⟩
      obtain ⟨l1, g1⟩ := List.getElem?_eq_some_iff.1 h1
      obtain ⟨l2, g2⟩ := List.getElem?_eq_some_iff.1 h2
      rw [List.drop_eq_getElem_cons l1, List.drop_eq_getElem_cons l2, g1, g2]
      rfl
  rcases Lib.index_spec t [x, x] with ⟨h1, h2⟩ | ⟨i, h1, h2, h3, h4⟩
  · rw [h1]
    constructor
    · intro h; omega
    · rintro ⟨i, g1, g2⟩
      have hl := (List.getElem?_eq_some_iff.1 g1).1
      have := (hocc i).2 ⟨g1, g2⟩
      rw [h2 i (by omega)] at this
      cases this
  · rw [h1]
    constructor
    · intro _; exact ⟨i, (hocc i).1 h3⟩
    · intro _; omega

/- Numbers. -/
def isDig (c : UInt8) : Bool := decide (48 ≤ c.toNat) && decide (c.toNat ≤ 57)
def n10 (s : List UInt8) (most : Int) : Int :=
  if s = [] ∨ 10 < s.length ∨ (1 < s.length ∧ s.head? = some 48) ∨ s.all isDig = false then -1 else if most < val s then -1 else val s

theorem cls_dig : ((List.range 256).all fun n => isDig (UInt8.ofNat n) == decide (0 ≤ Lib.indexByte digitSet (UInt8.ofNat n))) = true := by kernel_rfl

theorem dig_all (s : List UInt8) : s.all (fun c => decide (0 ≤ Lib.indexByte digitSet c)) = s.all isDig := by
  have hc : ∀ c, isDig c = decide (0 ≤ Lib.indexByte digitSet c) := fun c => beq_iff_eq.1 (all_bytes (f := fun c => isDig c == decide (0 ≤ Lib.indexByte digitSet c)) cls_dig c)
  rw [show isDig = fun c => decide (0 ≤ Lib.indexByte digitSet c) from funext hc]

theorem val_cons_ge : ∀ (l : List UInt8) (n : Int), 0 ≤ n → l.all isDig = true → n * 10 ^ l.length ≤ l.foldl (fun n c => n * 10 + ((c.toNat : Int) - 48)) n := by
  intro l
  induction l with
  | nil => intro n _ _; simp
  | cons a l ih =>
    intro n hn h
    simp only [List.all_cons, Bool.and_eq_true] at h
    have ha : 48 ≤ a.toNat := by have := h.1; simp [isDig] at this; exact this.1
    have h1 := ih (n * 10 + ((a.toNat : Int) - 48)) (by omega) h.2
    simp only [List.foldl_cons, List.length_cons]
    refine Int.le_trans ?_ h1
    rw [Int.pow_succ, Int.mul_comm (10 ^ l.length) 10, ← Int.mul_assoc]
    exact Int.mul_le_mul_of_nonneg_right (by omega) (Int.le_of_lt (Int.pow_pos (by omega)))

theorem val_long (s : List UInt8) (hd : s.all isDig = true) (h0 : ¬ s.head? = some 48) (hl : 10 < s.length) : 10000000000 ≤ val s := by
  cases s with
  | nil => simp at hl
  | cons a l =>
    simp only [List.all_cons, Bool.and_eq_true] at hd
    have ha : 48 ≤ a.toNat := by have := hd.1; simp [isDig] at this; exact this.1
    have hne : a.toNat ≠ 48 := by
      intro e
      apply h0
      have : a = 48 := UInt8.toNat_inj.1 e
      rw [this]; rfl
    have h1 := val_cons_ge l ((a.toNat : Int) - 48) (by omega) hd.2
    unfold val
    simp only [List.foldl_cons, Int.zero_mul, Int.zero_add]
    have h2 : (10 : Int) ^ 10 ≤ 10 ^ l.length := by
      have hk : l.length = 10 + (l.length - 10) := by simp at hl; omega
      rw [hk, Int.pow_add]
      have : (1 : Int) ≤ 10 ^ (l.length - 10) := Int.pow_pos (by omega)
      omega
    have h3 : (10 : Int) ^ 10 = 10000000000 := by decide
    have h4 : 1 * (10 : Int) ^ l.length ≤ ((a.toNat : Int) - 48) * 10 ^ l.length := Int.mul_le_mul_of_nonneg_right (by omega) (Int.le_of_lt (Int.pow_pos (by omega)))
    omega

theorem digs_at {s : List UInt8} (hd : s.all isDig = true) (k : Nat) (hk : k < s.length) : 48 ≤ s[k].toNat ∧ s[k].toNat ≤ 57 := by
  have h := List.all_eq_true.1 hd s[k] (List.getElem_mem hk)
  simpa [isDig] using h

theorem val_nonneg {s : List UInt8} (hd : s.all isDig = true) : 0 ≤ val s := by
  have h := (val_take s (fun k hk => digs_at hd k hk) s.length (Nat.le_refl _)).1
  rwa [List.take_length] at h

theorem number_n10 (s : List UInt8) (lo most : Int) (hm : most ≤ 9999999999) : number s lo most = if n10 s most < lo ∨ n10 s most < 0 then (0, false) else (n10 s most, true) := by
  have neg : ∀ h : n10 s most = -1, (if n10 s most < lo ∨ n10 s most < 0 then ((0 : Int), false) else (n10 s most, true)) = (0, false) := by
    intro h; rw [h, if_pos (Or.inr (by omega))]
  by_cases he : s = []
  · subst he
    rw [neg (by unfold n10; rw [if_pos (Or.inl rfl)])]; rfl
  cases hd : s.all isDig with
  | false =>
    rw [neg (by unfold n10; rw [if_pos (Or.inr (Or.inr (Or.inr hd)))])]
    unfold number
    have : madeOf s digitSet 18 = false := by unfold madeOf; rw [dig_all, hd]; simp
    rw [this]; simp
  | true =>
    have hem : s.isEmpty = false := by simpa using he
    by_cases h18 : s.length ≤ 18
    · have hmo : madeOf s digitSet 18 = true := by unfold madeOf; rw [dig_all, hd, hem, decide_eq_true (by omega)]; rfl
      by_cases hz : 1 < s.length ∧ s.head? = some 48
      · rw [neg (by unfold n10; rw [if_pos (Or.inr (Or.inr (Or.inl hz)))])]
        unfold number
        rw [hmo, if_pos]
        simp [hz.1, hz.2]
      · have hnum : number s lo most = if val s < lo ∨ most < val s then (0, false) else (val s, true) := by
          unfold number
          rw [hmo, if_neg]
          simp only [Bool.not_true, Bool.false_or, Bool.and_eq_true, beq_iff_eq, decide_eq_true_eq]
          exact fun e => hz ⟨e.2, e.1⟩
        rw [hnum]
        by_cases h10 : 10 < s.length
        · rw [neg (by unfold n10; rw [if_pos (Or.inr (Or.inl h10))])]
          have := val_long s hd (fun e => hz ⟨by omega, e⟩) h10
          rw [if_pos (by omega)]
        · have hv := val_nonneg hd
          have hn : n10 s most = if most < val s then -1 else val s := by
            unfold n10
            rw [if_neg]
            rintro (h | h | h | h)
            · exact he h
            · exact h10 h
            · exact hz h
            · rw [hd] at h; cases h
          rw [hn]
          by_cases hmv : most < val s
          · rw [if_pos hmv, if_pos (Or.inr hmv), if_pos (Or.inr (by omega))]
          · rw [if_neg hmv]
            by_cases hlv : val s < lo
            · rw [if_pos (Or.inl hlv), if_pos (Or.inl hlv)]
            · rw [if_neg (by omega), if_neg (by omega)]
    · rw [neg (by unfold n10; rw [if_pos (Or.inr (Or.inl (by omega)))])]
      unfold number
      rw [madeOf_long s digitSet 18 (by omega)]; simp

/- An author's line. -/
def refAuthor (w : List UInt8) : Bool :=
  (Lib.cut w [60]).2.2 && (Lib.cut (Lib.cut w [60]).2.1 [62]).2.2 && ((Lib.cut w [60]).1.getLast? == some 32) && ((Lib.cut (Lib.cut w [60]).2.1 [62]).2.1.head? == some 32)
    && isName (Lib.cut w [60]).1.dropLast && isMail (Lib.cut (Lib.cut w [60]).2.1 [62]).1 && decide (0 ≤ n10 ((Lib.cut (Lib.cut w [60]).2.1 [62]).2.1.drop 1) 9999999999)

theorem cut_at {p q : List UInt8} {c : UInt8} (h : ¬ c ∈ p) : Lib.cut (p ++ c :: q) [c] = (p, q, true) := by
  have hi := index_at (q := q) h
  unfold Lib.cut
  rw [hi, if_pos (by omega)]
  simp only [Int.toNat_natCast, List.length_cons, List.length_nil, Nat.zero_add]
  have e1 : (p ++ c :: q).take p.length = p := by simp
  have e2 : (p ++ c :: q).drop (p.length + 1) = q := by rw [List.drop_append]; simp
  rw [e1, e2]

theorem cut_is {s : List UInt8} {c : UInt8} (h : (Lib.cut s [c]).2.2 = true) : s = (Lib.cut s [c]).1 ++ c :: (Lib.cut s [c]).2.1 ∧ ¬ c ∈ (Lib.cut s [c]).1 := by
  have hm := cut_found.1 h
  obtain ⟨p, q, e, hp⟩ : ∃ p q, s = p ++ c :: q ∧ ¬ c ∈ p := by
    induction s with
    | nil => simp at hm
    | cons a l ih =>
      by_cases e : c = a
      · subst e; exact ⟨[], l, rfl, by simp⟩
      · have h4 : c ∈ l := by simpa [e] using hm
        obtain ⟨p, q, e2, hp⟩ := ih (cut_found.2 h4) h4
        exact ⟨a :: p, q, by rw [e2]; rfl, by simp [e, hp]⟩
  rw [e, cut_at hp]
  exact ⟨rfl, hp⟩

theorem occ_pair {s : List UInt8} {x y : UInt8} {j : Nat} : Lib.occAt s [x, y] j = true ↔ (s[j]? = some x ∧ s[j + 1]? = some y) := by
  unfold Lib.occAt
  rw [List.isPrefixOf_iff_prefix]
  constructor
  · rintro ⟨r, hr⟩
    have h1 : (s.drop j)[0]? = some x := by rw [← hr]; rfl
    have h2 : (s.drop j)[1]? = some y := by rw [← hr]; rfl
    rw [List.getElem?_drop] at h1 h2
    exact ⟨by simpa using h1, h2⟩
  · rintro ⟨h1, h2⟩
    refine ⟨s.drop (j + 2), ?_⟩
    obtain ⟨l1, g1⟩ := List.getElem?_eq_some_iff.1 h1
    obtain ⟨l2, g2⟩ := List.getElem?_eq_some_iff.1 h2
    rw [List.drop_eq_getElem_cons l1, List.drop_eq_getElem_cons l2, g1, g2]
    rfl

/-- A cut at two bytes of which none stands earlier. -/
theorem cut_pair {A B : List UInt8} {x y : UInt8} (h : ∀ j, j < A.length → ¬ ((A ++ x :: y :: B)[j]? = some x ∧ (A ++ x :: y :: B)[j + 1]? = some y)) : Lib.cut (A ++ x :: y :: B) [x, y] = (A, B, true) := by
  have hi : Lib.index (A ++ x :: y :: B) [x, y] = (A.length : Nat) := by
    refine Lib.index_first (by simp) ?_ ?_
    · rw [occ_pair]; simp
    · intro j hj
      cases hb : Lib.occAt (A ++ x :: y :: B) [x, y] j with
      | false => rfl
      | true => exact absurd (occ_pair.1 hb) (h j hj)
  unfold Lib.cut
  rw [hi, if_pos (by omega)]
  simp only [Int.toNat_natCast, List.length_cons, List.length_nil, Nat.zero_add]
  have e1 : (A ++ x :: y :: B).take A.length = A := by simp
  have e2 : (A ++ x :: y :: B).drop (A.length + (1 + 1)) = B := by rw [List.drop_append]; simp
  rw [e1]
  simp only [e2]

theorem cut_pair_is {s : List UInt8} {x y : UInt8} (h : (Lib.cut s [x, y]).2.2 = true) : s = (Lib.cut s [x, y]).1 ++ x :: y :: (Lib.cut s [x, y]).2.1 := by
  rcases Lib.index_spec s [x, y] with ⟨h1, _⟩ | ⟨i, h1, h2, h3, _⟩
  · unfold Lib.cut at h; rw [h1] at h; simp at h
  · have e : Lib.cut s [x, y] = (s.take i, s.drop (i + 2), true) := by
      unfold Lib.cut; rw [h1, if_pos (by omega)]; simp
    rw [e]
    obtain ⟨g1, g2⟩ := occ_pair.1 h3
    obtain ⟨l1, q1⟩ := List.getElem?_eq_some_iff.1 g1
    obtain ⟨l2, q2⟩ := List.getElem?_eq_some_iff.1 g2
    have e3 : s.drop i = x :: y :: s.drop (i + 2) := by
      rw [List.drop_eq_getElem_cons l1, List.drop_eq_getElem_cons l2, q1, q2]
    simp only
    rw [← e3, List.take_append_drop]

end Pu
end Go.Proofs.YtepgoppgblfjbaaGreatDoor
