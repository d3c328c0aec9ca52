import Derived.Test.YtepgoppgblfjbaaGreatDoorGw25
namespace Go.Proofs.YtepgoppgblfjbaaGreatDoor

theorem dec_small {u : Nat} (h : u < 10) : Lib.decDigits u = [UInt8.ofNat (48 + u)] := by rw [Lib.decDigits, dif_pos h]
theorem dec_big {u : Nat} (h : ¬ u < 10) : Lib.decDigits u = Lib.decDigits (u / 10) ++ [UInt8.ofNat (48 + u % 10)] := by rw [Lib.decDigits, dif_neg h]

theorem dec_take (u : Nat) : 1 ≤ u → ∀ n, 1 ≤ n → n ≤ (Lib.decDigits u).length → ∃ v, 1 ≤ v ∧ v ≤ u ∧ (Lib.decDigits u).take n = Lib.decDigits v := by
  induction u using Nat.strongRecOn with
  | _ u ih =>
    intro hu n hn hl
    by_cases h : u < 10
    · refine ⟨u, hu, Nat.le_refl _, ?_⟩
      rw [dec_small h] at hl ⊢
      exact List.take_of_length_le (by simpa using hn)
    · by_cases h2 : n ≤ (Lib.decDigits (u / 10)).length
      · obtain ⟨v, h3, h4, h5⟩ := ih (u / 10) (by omega) (by omega) n hn h2
        refine ⟨v, h3, by omega, ?_⟩
        rw [dec_big h, List.take_append_of_le_length h2]
        exact h5
      · refine ⟨u, hu, Nat.le_refl _, List.take_of_length_le ?_⟩
        rw [dec_big h]
        simp
        omega

theorem ofNat_digit {d : Nat} (h : d < 10) : (UInt8.ofNat (48 + d)).toNat = 48 + d := by
  rw [UInt8.toNat_ofNat']
  omega

theorem dec_digits (u : Nat) : ∀ c ∈ Lib.decDigits u, 48 ≤ c.toNat ∧ c.toNat ≤ 57 := by
  induction u using Nat.strongRecOn with
  | _ u ih =>
    intro c hc
    by_cases h : u < 10
    · rw [dec_small h] at hc
      rw [List.mem_singleton.1 hc, ofNat_digit h]
      omega
    · rw [dec_big h] at hc
      rcases List.mem_append.1 hc with hc | hc
      · exact ih (u / 10) (by omega) c hc
      · rw [List.mem_singleton.1 hc, ofNat_digit (by omega)]
        omega

theorem dec_val (u : Nat) : Pu.val (Lib.decDigits u) = (u : Int) := by
  induction u using Nat.strongRecOn with
  | _ u ih =>
    by_cases h : u < 10
    · rw [dec_small h]
      have := ofNat_digit h
      simp only [Pu.val, List.foldl_cons, List.foldl_nil]
      omega
    · rw [dec_big h, Pu.val_snoc, ih (u / 10) (by omega)]
      have := ofNat_digit (d := u % 10) (by omega)
      omega

theorem dec_head (u : Nat) (hu : 1 ≤ u) : ∃ c r, Lib.decDigits u = c :: r ∧ 49 ≤ c.toNat := by
  induction u using Nat.strongRecOn with
  | _ u ih =>
    by_cases h : u < 10
    · exact ⟨_, [], dec_small h, by rw [ofNat_digit h]; omega⟩
    · obtain ⟨c, r, h1, h2⟩ := ih (u / 10) (by omega) (by omega)
      exact ⟨c, r ++ [UInt8.ofNat (48 + u % 10)], by rw [dec_big h, h1]; rfl, h2⟩

theorem dec_len (u : Nat) (h : u ≤ 8000) : (Lib.decDigits u).length ≤ 4 := by
  have key : ∀ k u, u < 10 ^ (k + 1) → (Lib.decDigits u).length ≤ k + 1 := by
    intro k
    induction k with
    | zero => intro u hu; rw [dec_small (by simpa using hu)]; exact Nat.le_refl _
    | succ k ih =>
      intro u hu
      by_cases h : u < 10
      · rw [dec_small h]; simp
      · rw [dec_big h, List.length_append]
        rw [Nat.pow_succ] at hu
        have := ih (u / 10) (by omega)
        simp
        omega
  exact key 3 u (by omega)

theorem digit_in {c : UInt8} (h : 48 ≤ c.toNat ∧ c.toNat ≤ 57) : 0 ≤ Lib.indexByte Pu.digitSet c := by
  have h1 : Pu.digitSet.contains c = true := by
    have : c = 48 ∨ c = 49 ∨ c = 50 ∨ c = 51 ∨ c = 52 ∨ c = 53 ∨ c = 54 ∨ c = 55 ∨ c = 56 ∨ c = 57 := by
      obtain ⟨h1, h2⟩ := h
      have e : ∀ n : UInt8, c.toNat = n.toNat → c = n := fun n h => UInt8.toNat_inj.1 h
      have : c.toNat = 48 ∨ c.toNat = 49 ∨ c.toNat = 50 ∨ c.toNat = 51 ∨ c.toNat = 52 ∨ c.toNat = 53 ∨ c.toNat = 54 ∨ c.toNat = 55 ∨ c.toNat = 56 ∨ c.toNat = 57 := by omega
      rcases this with h | h | h | h | h | h | h | h | h | h
      · exact .inl (e 48 h)
      · exact .inr (.inl (e 49 h))
      · exact .inr (.inr (.inl (e 50 h)))
      · exact .inr (.inr (.inr (.inl (e 51 h))))
      · exact .inr (.inr (.inr (.inr (.inl (e 52 h)))))
      · exact .inr (.inr (.inr (.inr (.inr (.inl (e 53 h))))))
      · exact .inr (.inr (.inr (.inr (.inr (.inr (.inl (e 54 h)))))))
      · exact .inr (.inr (.inr (.inr (.inr (.inr (.inr (.inl (e 55 h))))))))
      · exact .inr (.inr (.inr (.inr (.inr (.inr (.inr (.inr (.inl (e 56 h)))))))))
      · exact .inr (.inr (.inr (.inr (.inr (.inr (.inr (.inr (.inr (e 57 h)))))))))
    rcases this with rfl | rfl | rfl | rfl | rfl | rfl | rfl | rfl | rfl | rfl <;> decide
  rw [Lib.contains_iff_indexByte] at h1
  simpa using h1

theorem number_dec (v : Nat) (h1 : 1 ≤ v) (h2 : v ≤ 8000) : Pu.number (Lib.decDigits v) 1 8000 = ((v : Int), true) := by
  obtain ⟨c, r, hc, hc2⟩ := dec_head v h1
  have hlen := dec_len v h2
  have hm : Pu.madeOf (Lib.decDigits v) Pu.digitSet 18 = true := by
    unfold Pu.madeOf
    rw [Bool.and_eq_true, Bool.and_eq_true]
    refine ⟨⟨by rw [hc]; rfl, decide_eq_true (by omega)⟩, ?_⟩
    rw [List.all_eq_true]
    intro x hx
    exact decide_eq_true (digit_in (dec_digits v x hx))
  have hh : ((Lib.decDigits v).head? == some 48) = false := by
    rw [hc]
    show (some c == some (48 : UInt8)) = false
    have : c ≠ 48 := fun e => by rw [e] at hc2; exact absurd hc2 (by decide)
    simpa using this
  unfold Pu.number
  rw [hm, hh, dec_val]
  rw [if_neg (by simp), if_neg (by omega)]

namespace Pd

def entry (KK : List Int) (last x : List UInt8) : List UInt8 := Lib.itoa (x.length : Int) ++ [10] ++ x ++ sealOf KK last x
def entries (KK : List Int) : List UInt8 → List (List UInt8) → List UInt8
  | _, [] => []
  | last, x :: xs => entry KK last x ++ entries KK (sealOf KK last x) xs
def elen (x : List UInt8) : Nat := (Lib.itoa (x.length : Int)).length + 1 + x.length + 32
def whole : Nat → List (List UInt8) → List (List UInt8)
  | _, [] => []
  | n, x :: xs => if elen x ≤ n then x :: whole (n - elen x) xs else []

def cutE (t : List UInt8) : List UInt8 × List UInt8 × List UInt8 × Bool :=
  if (Pu.number (Lib.cut t [10]).1 1 8000).2 = false then ([], [], [], false)
  else if (Lib.cut t [10]).2.2 = false ∨ ((Lib.cut t [10]).2.1.length : Int) < (Pu.number (Lib.cut t [10]).1 1 8000).1 + 32 then ([], [], [], true)
  else ((Lib.cut t [10]).2.1.take (Pu.number (Lib.cut t [10]).1 1 8000).1.toNat, ((Lib.cut t [10]).2.1.drop (Pu.number (Lib.cut t [10]).1 1 8000).1.toNat).take 32, (Lib.cut t [10]).2.1.drop ((Pu.number (Lib.cut t [10]).1 1 8000).1.toNat + 32), true)

def readJ (KK : List Int) : Nat → List UInt8 → List UInt8 → List (List UInt8) → Option (List (List UInt8))
  | 0, _, _, acc => some acc
  | f + 1, t, last, acc =>
    if t = [] then some acc
    else if (cutE t).2.2.2 = false then none
    else if (cutE t).1 = [] ∧ (cutE t).2.1 = [] then some acc
    else if (cutE t).2.1 ≠ sealOf KK last (cutE t).1 then none
    else readJ KK f (cutE t).2.2.1 (cutE t).2.1 (acc ++ [(cutE t).1])

theorem entries_cons (KK : List Int) (last x : List UInt8) (xs : List (List UInt8)) : entries KK last (x :: xs) = entry KK last x ++ entries KK (sealOf KK last x) xs := rfl
theorem whole_cons (n : Nat) (x : List UInt8) (xs : List (List UInt8)) : whole n (x :: xs) = if elen x ≤ n then x :: whole (n - elen x) xs else [] := rfl

theorem seal_len (KK : List Int) (last x : List UInt8) : (sealOf KK last x).length = 32 := ofK_len _ _
theorem entry_len (KK : List Int) (last x : List UInt8) : (entry KK last x).length = elen x := by
  unfold entry elen
  rw [List.length_append, List.length_append, List.length_append, seal_len]
  rfl

theorem cut_at {a t : List UInt8} (h : ¬ (10 : UInt8) ∈ a) : Lib.cut (a ++ 10 :: t) [10] = (a, t, true) := by
  have hi := Pu.index_at (a := a) (t := t) h
  unfold Lib.cut
  rw [hi]
  rw [if_pos (by omega)]
  simp

theorem cut_none {a : List UInt8} (h : ¬ (10 : UInt8) ∈ a) : Lib.cut a [10] = (a, [], false) := by
  have hi : ¬ 0 ≤ Lib.index a [10] := by
    intro h0
    rw [Lib.index_one] at h0
    have := Lib.contains_iff_indexByte a 10
    rw [decide_eq_true h0] at this
    exact h (by simpa using this)
  unfold Lib.cut
  rw [if_neg hi]

theorem dec_no10 (u : Nat) : ¬ (10 : UInt8) ∈ Lib.decDigits u := fun h => by
  have := dec_digits u 10 h
  exact absurd this.1 (by decide)

theorem cutE_whole (KK : List Int) (last x t : List UInt8) (h1 : 1 ≤ x.length) (h2 : x.length ≤ 8000) : cutE (entry KK last x ++ t) = (x, sealOf KK last x, t, true) := by
  have e : entry KK last x ++ t = Lib.decDigits x.length ++ 10 :: (x ++ (sealOf KK last x ++ t)) := by
    unfold entry
    rw [Lib.itoa_nonneg]
    simp
  have hn := number_dec x.length h1 h2
  have hs := seal_len KK last x
  rw [e]
  clear e
  generalize sealOf KK last x = sl at *
  unfold cutE
  rw [cut_at (dec_no10 _)]
  simp only [hn]
  rw [if_neg (by simp), if_neg (by simp [hs]; omega)]
  simp only [Int.toNat_natCast]
  rw [List.take_left', List.drop_left', List.take_left', ← List.drop_drop, List.drop_left', List.drop_left']
  all_goals first | exact hs | rfl

theorem cutE_torn (KK : List Int) (last x t : List UInt8) (n : Nat) (h1 : 1 ≤ x.length) (h2 : x.length ≤ 8000) (hn0 : 1 ≤ n) (hn : n < elen x) : cutE ((entry KK last x ++ t).take n) = ([], [], [], true) := by
  have hel := entry_len KK last x
  have e : (entry KK last x ++ t).take n = (Lib.decDigits x.length ++ 10 :: (x ++ sealOf KK last x)).take n := by
    rw [List.take_append_of_le_length (by omega)]
    unfold entry
    rw [Lib.itoa_nonneg]
    simp
  have hlen : elen x = (Lib.decDigits x.length).length + 1 + x.length + 32 := by
    unfold elen
    rw [Lib.itoa_nonneg]
  rw [e]
  by_cases h : n ≤ (Lib.decDigits x.length).length
  · rw [List.take_append_of_le_length h]
    obtain ⟨v, v1, v2, v3⟩ := dec_take x.length h1 n hn0 h
    rw [v3]
    unfold cutE
    rw [cut_none (dec_no10 _)]
    simp only [number_dec v v1 (by omega)]
    rw [if_neg (by simp), if_pos (by simp)]
  · obtain ⟨m, hm⟩ : ∃ m, n = (Lib.decDigits x.length).length + (m + 1) := ⟨n - (Lib.decDigits x.length).length - 1, by omega⟩
    have e2 : (Lib.decDigits x.length ++ 10 :: (x ++ sealOf KK last x)).take n = Lib.decDigits x.length ++ 10 :: ((x ++ sealOf KK last x).take m) := by
      rw [hm, List.take_length_add_append, List.take_succ_cons]
    rw [e2]
    unfold cutE
    rw [cut_at (dec_no10 _)]
    simp only [number_dec x.length h1 h2]
    rw [if_neg (by simp), if_pos]
    right
    rw [List.length_take]
    omega

theorem readJ_take (KK : List Int) : ∀ (xs : List (List UInt8)) (last : List UInt8) (n : Nat) (acc : List (List UInt8)) (f : Nat), (∀ x ∈ xs, 1 ≤ x.length ∧ x.length ≤ 8000) → ((entries KK last xs).take n).length < f →
    readJ KK f ((entries KK last xs).take n) last acc = some (acc ++ whole n xs) := by
  intro xs
  induction xs with
  | nil =>
    intro last n acc f _ hf
    cases f with
    | zero => omega
    | succ f => unfold readJ; rw [if_pos (by simp [entries])]; simp [whole]
  | cons x xs ih =>
    intro last n acc f hx hf
    obtain ⟨h1, h2⟩ := hx x (List.mem_cons_self ..)
    have hel := entry_len KK last x
    have hpos : 1 ≤ elen x := by unfold elen; omega
    cases f with
    | zero => omega
    | succ f =>
      unfold readJ
      by_cases h0 : n = 0
      · subst h0
        rw [List.take_zero, if_pos rfl]
        rw [whole_cons, if_neg (by omega), List.append_nil]
      · have hne : ¬ (entries KK last (x :: xs)).take n = [] := by
          intro e
          have := congrArg List.length e
          rw [List.length_take, List.length_nil, entries_cons, List.length_append] at this
          omega
        rw [if_neg hne]
        by_cases hw : elen x ≤ n
        · have e : (entries KK last (x :: xs)).take n = entry KK last x ++ (entries KK (sealOf KK last x) xs).take (n - elen x) := by
            rw [entries_cons, List.take_append, hel, List.take_of_length_le (by omega)]
          rw [e, cutE_whole KK last x _ h1 h2]
          have hne2 : ¬ x = [] := fun e => by rw [e] at h1; simp at h1
          rw [if_neg (by simp), if_neg (fun h => hne2 h.1), if_neg (by simp)]
          rw [e, List.length_append] at hf
          rw [ih (sealOf KK last x) (n - elen x) (acc ++ [x]) f (fun y hy => hx y (List.mem_cons_of_mem _ hy)) (by omega)]
          rw [whole_cons, if_pos hw]
          simp
        · have e : cutE ((entries KK last (x :: xs)).take n) = ([], [], [], true) := by
            rw [entries_cons]
            exact cutE_torn KK last x _ n h1 h2 (by omega) (by omega)
          rw [e, if_neg (by simp), if_pos ⟨rfl, rfl⟩]
          rw [whole_cons, if_neg hw, List.append_nil]

theorem lastSeal_entry (KK : List Int) (j last x : List UInt8) : lastSeal (j ++ entry KK last x) = sealOf KK last x := by
  unfold lastSeal entry
  rw [← List.append_assoc]
  refine List.drop_left' ?_
  have := seal_len KK last x
  simp only [List.length_append] at this ⊢
  omega

theorem record_entry (KK : List Int) (j x : List UInt8) : record KK j x = j ++ entry KK (lastSeal j) x := rfl

theorem entries_snoc (KK : List Int) : ∀ (xs : List (List UInt8)) (last x : List UInt8) (j : List UInt8), lastSeal j = last → entries KK last (xs ++ [x]) = entries KK last xs ++ entry KK (lastSeal (j ++ entries KK last xs)) x := by
  intro xs
  induction xs with
  | nil => intro last x j hj; simp [entries, hj]
  | cons y xs ih =>
    intro last x j hj
    show entry KK last y ++ entries KK (sealOf KK last y) (xs ++ [x]) = (entry KK last y ++ entries KK (sealOf KK last y) xs) ++ _
    rw [ih (sealOf KK last y) x (j ++ entry KK last y) (lastSeal_entry KK j last y), List.append_assoc, List.append_assoc]
    rfl

theorem record_entries (KK : List Int) (xs : List (List UInt8)) (x : List UInt8) : record KK (entries KK [] xs) x = entries KK [] (xs ++ [x]) := by
  rw [entries_snoc KK xs [] x [] rfl, List.nil_append, record_entry]

end Pd

namespace Pd

theorem imp_refused {KK : List Int} {S : St} {x : List UInt8} (h : ¬ (imp KK S x).1.2 = 0) : (imp KK S x).2 = S := by
  unfold imp at h ⊢
  split
  · rename_i hc
    rw [if_pos hc] at h
    split
    · rename_i hd
      rw [if_pos hd] at h
      exact absurd hd h
    · rfl
  · rfl

theorem check_nil : (Pu.check []).2 = 1 := by kernel_rfl

theorem imp_ok_len {KK : List Int} {S : St} {x : List UInt8} (h : (imp KK S x).1.2 = 0) : 1 ≤ x.length ∧ x.length ≤ 8000 := by
  have hc : (Pu.check x).2 = 0 := by
    unfold imp at h
    split at h
    · assumption
    · exact h
  refine ⟨?_, check_len x hc⟩
  cases x with
  | nil => rw [check_nil] at hc; cases hc
  | cons a l => simp

def replay (KK : List Int) : St → List (List UInt8) → Option St
  | S, [] => some S
  | S, x :: xs => if (imp KK S x).1.2 = 0 then replay KK (imp KK S x).2 xs else none

theorem replay_app (KK : List Int) : ∀ (xs ys : List (List UInt8)) (S S' : St), replay KK S xs = some S' → replay KK S (xs ++ ys) = replay KK S' ys := by
  intro xs
  induction xs with
  | nil => intro ys S S' h; cases h; rfl
  | cons x xs ih =>
    intro ys S S' h
    unfold replay at h
    split at h
    · rename_i h0
      rw [List.cons_append]
      conv => lhs; unfold replay
      rw [if_pos h0]
      exact ih ys _ _ h
    · cases h

structure Took (KK : List Int) (S : St) (xs : List (List UInt8)) : Prop where
  rep : replay KK St.empty xs = some S
  len : ∀ x ∈ xs, 1 ≤ x.length ∧ x.length ≤ 8000

def took (KK : List Int) (S : St) (xs : List (List UInt8)) (x : List UInt8) : List (List UInt8) := if (imp KK S x).1.2 = 0 then xs ++ [x] else xs

theorem Took.step {KK : List Int} {S : St} {xs : List (List UInt8)} (h : Took KK S xs) (x : List UInt8) : Took KK (imp KK S x).2 (took KK S xs x) := by
  unfold took
  split
  · rename_i h0
    refine ⟨?_, fun y hy => ?_⟩
    · rw [replay_app KK xs [x] _ _ h.rep]
      unfold replay
      rw [if_pos h0]
      rfl
    · rcases List.mem_append.1 hy with hy | hy
      · exact h.len y hy
      · rw [List.mem_singleton.1 hy]; exact imp_ok_len h0
  · rename_i h0
    rw [imp_refused h0]
    exact h

theorem Took.journal {KK : List Int} {S : St} {xs : List (List UInt8)} (x : List UInt8) : (if (imp KK S x).1.2 = 0 then record KK (entries KK [] xs) x else entries KK [] xs) = entries KK [] (took KK S xs x) := by
  unfold took
  split
  · exact record_entries KK xs x
  · rfl

def runS (KK : List Int) (y : Nat → List UInt8) : Nat → St
  | 0 => St.empty
  | i + 1 => (imp KK (runS KK y i) (y i)).2
def runT (KK : List Int) (y : Nat → List UInt8) : Nat → List (List UInt8)
  | 0 => []
  | i + 1 => took KK (runS KK y i) (runT KK y i) (y i)
def runJ (KK : List Int) (y : Nat → List UInt8) (i : Nat) : List UInt8 := entries KK [] (runT KK y i)

theorem run_took (KK : List Int) (y : Nat → List UInt8) : ∀ i, Took KK (runS KK y i) (runT KK y i)
  | 0 => ⟨rfl, fun x hx => by cases hx⟩
  | i + 1 => (run_took KK y i).step (y i)

theorem runJ_succ (KK : List Int) (y : Nat → List UInt8) (i : Nat) : runJ KK y (i + 1) = if (imp KK (runS KK y i) (y i)).1.2 = 0 then record KK (runJ KK y i) (y i) else runJ KK y i :=
  (Took.journal (y i)).symm

def total (xs : List (List UInt8)) : Nat := (xs.map elen).sum
theorem entries_len (KK : List Int) : ∀ (xs : List (List UInt8)) (last : List UInt8), (entries KK last xs).length = total xs
  | [], _ => rfl
  | x :: xs, last => by
    rw [entries_cons, List.length_append, entry_len, entries_len KK xs]
    simp [total]

theorem whole_app : ∀ (xs zs : List (List UInt8)) (n : Nat), total xs ≤ n → whole n (xs ++ zs) = xs ++ whole (n - total xs) zs
  | [], zs, n, _ => by simp [total]
  | x :: xs, zs, n, h => by
    have e : total (x :: xs) = elen x + total xs := by simp [total]
    rw [List.cons_append]
    rw [whole_cons, if_pos (by omega), whole_app xs zs (n - elen x) (by omega), e, Nat.sub_sub]
    rfl

theorem runT_pre (KK : List Int) (y : Nat → List UInt8) (i : Nat) : ∀ k, ∃ zs, runT KK y (i + k) = runT KK y i ++ zs
  | 0 => ⟨[], by simp⟩
  | k + 1 => by
    obtain ⟨zs, h⟩ := runT_pre KK y i k
    show ∃ zs, took KK (runS KK y (i + k)) (runT KK y (i + k)) (y (i + k)) = _
    unfold took
    split
    · exact ⟨zs ++ [y (i + k)], by rw [h, List.append_assoc]⟩
    · exact ⟨zs, h⟩

theorem whole_at (KK : List Int) (y : Nat → List UInt8) (m i n : Nat) (hi : i ≤ m) (h1 : (runJ KK y i).length ≤ n) (h2 : ∀ k, i < k → k ≤ m → n < (runJ KK y k).length) : whole n (runT KK y m) = runT KK y i := by
  have t1 : total (runT KK y i) ≤ n := by rw [← entries_len KK _ []]; exact h1
  obtain ⟨d, rfl⟩ : ∃ d, m = i + d := ⟨m - i, by omega⟩
  cases d with
  | zero =>
    have := whole_app (runT KK y i) [] n t1
    rw [List.append_nil] at this
    rw [Nat.add_zero, this]
    show _ ++ [] = _
    rw [List.append_nil]
  | succ d =>
    have hk := h2 (i + 1) (by omega) (by omega)
    have hs : runT KK y (i + 1) = runT KK y i ++ [y i] := by
      show took KK (runS KK y i) (runT KK y i) (y i) = _
      unfold took
      split
      · rfl
      · rename_i h0
        exfalso
        have e : runJ KK y (i + 1) = runJ KK y i := by rw [runJ_succ, if_neg h0]
        rw [e] at hk
        omega
    obtain ⟨zs, hz⟩ := runT_pre KK y (i + 1) d
    have e : i + (d + 1) = i + 1 + d := by omega
    rw [e, hz, hs, List.append_assoc, whole_app _ _ n t1]
    show runT KK y i ++ whole (n - total (runT KK y i)) (y i :: zs) = _
    rw [whole_cons]
    have hl : (runJ KK y (i + 1)).length = total (runT KK y i) + elen (y i) := by
      show (entries KK [] (runT KK y (i + 1))).length = _
      rw [entries_len, hs]
      simp [total]
    rw [if_neg (by omega), List.append_nil]

theorem read_at (KK : List Int) (y : Nat → List UInt8) (m i n f : Nat) (hi : i ≤ m) (h1 : (runJ KK y i).length ≤ n) (h2 : ∀ k, i < k → k ≤ m → n < (runJ KK y k).length) (hf : ((runJ KK y m).take n).length < f) :
    readJ KK f ((runJ KK y m).take n) [] [] = some (runT KK y i) := by
  have := readJ_take KK (runT KK y m) [] n [] f (run_took KK y m).len hf
  unfold runJ
  rw [this, whole_at KK y m i n hi h1 h2, List.nil_append]

end Pd

end Go.Proofs.YtepgoppgblfjbaaGreatDoor
namespace Go.Proofs.YtepgoppgblfjbaaGreatDoor
open Go.RowKit

structure Oj (M : Nat → Prop) (w : World) (s : Nat) (S : St) (j : List UInt8) (n : Nat) (X : Nat → Prop) : Prop where
  ex : ∃ h o c r t nn vj, Str M w s h o c r t nn S j vj ∧ nn ≤ n ∧ ∀ k, X k ↔ StX s o c r t vj k
  b : StB S

section
variable {M M' X Y : Nat → Prop} {w w' : World} {s n : Nat} {S : St} {j : List UInt8}

theorem Oj.inM (h : Oj M w s S j n X) : ∀ k, X k → M k := by
  obtain ⟨hh, o, c, r, t, nn, vj, hs, _, hX⟩ := h.ex
  exact fun k e => hs.inX k ((hX k).1 e)
theorem Oj.low (h : Oj M w s S j n X) : ∀ k, M k → 7 ≤ k ∧ k < w.heap.size := by
  obtain ⟨hh, o, c, r, t, nn, vj, hs, _, hX⟩ := h.ex
  exact hs.sto.lowM

theorem Oj.move (h : Oj M w s S j n X) (hM : ∀ k, k < w.heap.size → M' k → M k) (hMM : ∀ k, M k → M' k)
    (hk : Kx Y w w') (hY : ∀ k, k < w.heap.size → Y k → M k) (hF : ∀ k, X k → ¬ Y k) (hlow : ∀ k, M' k → 7 ≤ k ∧ k < w'.heap.size) : Oj M' w' s S j n X := by
  obtain ⟨hh, o, c, r, t, nn, vj, hs, h1, hX⟩ := h.ex
  exact ⟨⟨hh, o, c, r, t, nn, vj, hs.move hM hMM hk hY (fun k e => hF k ((hX k).2 e)) hlow, h1, hX⟩, h.b⟩

theorem Oj.kept (h : Oj M w s S j n X) (hk : Kx (fun _ => False) w w') : Oj M w' s S j n X :=
  h.move (fun _ _ => id) (fun _ => id) hk (fun _ _ e => e.elim) (fun _ _ => id) (fun k e => ⟨(h.low k e).1, Nat.lt_of_lt_of_le (h.low k e).2 hk.size⟩)

theorem Oj.more {n' : Nat} (h : Oj M w s S j n X) (hn : n ≤ n') : Oj M w s S j n' X := by
  obtain ⟨hh, o, c, r, t, nn, vj, hs, h1, hX⟩ := h.ex
  exact ⟨⟨hh, o, c, r, t, nn, vj, hs, by omega, hX⟩, h.b⟩

theorem Oj.shown (h : Oj M w s S j n X) (hn : n ≤ 30000000000) :
    Calls Tryz.prog 37 #[.pointer (some ⟨s, 0, none⟩)] w fun e w' => ∃ out, e = .returned (.string ⟨out.toArray⟩) ∧ ShownR S out ∧ out.length ≤ 1000000000000000 ∧ Kx (fun _ => False) w w' := by
  obtain ⟨hh, o, c, r, t, nn, vj, hs, h1, hX⟩ := h.ex
  exact shown_any hs (by omega) h.b

theorem Oj.bytes (h : Oj M w s S j n X) (hj : j.length ≤ 1000000000) :
    Calls Tryz.prog 36 #[.pointer (some ⟨s, 0, none⟩)] w fun e w' => ∃ v, e = .returned v ∧ w'.ownsRow w.heap.size 5 1 v j.length (A8 j) ∧ Kx (fun _ => False) w w' := by
  obtain ⟨hh, o, c, r, t, nn, vj, hs, h1, hX⟩ := h.ex
  exact bytes_any hs hj

theorem Oj.import (h : Oj M w s S j n X) (hgl : Gl w) (x : List UInt8) (hx : x.length ≤ maxLen) (hn : n ≤ 29000000000) (hj : j.length ≤ 1000000000) :
    Calls Tryz.prog 24 #[.pointer (some ⟨s, 0, none⟩), .string ⟨x.toArray⟩] w fun e w' => e = .returned (.tuple #[.int .i64 (Pd.imp Sh.K S x).1.1, .int .i64 (Pd.imp Sh.K S x).1.2]) ∧
      ∃ M' X', Oj M' w' s (Pd.imp Sh.K S x).2 (if (Pd.imp Sh.K S x).1.2 = 0 then Pd.record Sh.K j x else j) (n + 800000) X' ∧ (∀ k, M' k → M k ∨ w.heap.size ≤ k) ∧ (∀ k, M k → M' k) ∧ (∀ k, X' k → X k ∨ w.heap.size ≤ k) ∧ Kx X w w' := by
  obtain ⟨hh, o, c, r, t, nn, vj, hs, h1, hX⟩ := h.ex
  have hmx : maxLen = 9223372036854775807 := rfl
  refine (import_any hs hgl x (strOk_any x) hx hj (by omega)).mono ?_
  rintro e w' ⟨rfl, vj', hI⟩
  refine ⟨rfl, (fun k => M k ∨ vj'.ownBlock = some k), StX s o c r t vj', ⟨⟨hh, o, c, r, t, nn + 800000, vj', hI.str, by omega, fun k => Iff.rfl⟩, Pd.imp_b x h.b⟩, ?_, fun k e => .inl e, ?_, hI.kx.mono (fun k _ e => (hX k).2 e)⟩
  · intro k e
    rcases e with e | e
    · exact .inl e
    · exact (hI.row k e).imp (hs.inV k) id
  · intro k e
    rcases e with e | e | e
    · exact .inl ((hX k).2 (.inl e))
    · exact .inl ((hX k).2 (.inr (.inl e)))
    · exact (hI.row k e).imp (fun e => (hX k).2 (.inr (.inr e))) id
end

theorem Oj.start {M : Nat → Prop} {w w' : World} {s h o c r t : Nat} (hN : StrNew M w w' s h o c r t) : Oj (fun k => M k ∨ k = s ∨ Fo o c r t k) w' s St.empty [] 0 (StX s o c r t (.slice none 0 0)) ∧ ∀ k, StX s o c r t (.slice none 0 0) k → w.heap.size ≤ k := by
  refine ⟨⟨⟨h, o, c, r, t, 0, _, hN.str, Nat.le_refl _, fun k => Iff.rfl⟩, StB.empty⟩, fun k e => ?_⟩
  have hn := hN.new
  rcases e with e | e | e
  · omega
  · unfold Fo at e; omega
  · cases e

theorem results_ctt {fn : Func} {p u x : Tmp} {ty : TypeId} (h : fn.results = #[.cell p ty, .tmp u, .tmp x]) {tmps : Array Value} {P : Program} {w : World} {k : Nat} {cs : Array Value} {d : TypeDesc} {bt : TypeId}
    (hp : tmps.getD p undef = .pointer (some ⟨k, 0, none⟩)) {v v' : Value} (hv : tmps.getD u undef = v) (hv2 : tmps.getD x undef = v') (hb : Cb k cs bt w) (hu : P.underlying ty = some d) (hd : aggD d = true) (hi : (P.info? ty).map (·.size) = some cs.size) :
    (results fn tmps).run P w = .ok (.tuple #[.agg cs, v, v']) w := by
  have hl : (loadVar ty ⟨k, 0, none⟩).run P w = .ok (.agg cs) w := run_loadVar_row _ _ bt ty cs (0, 0) _ hb hu (by cases d <;> first | rfl | cases hd) hi
  simp only [results, h]
  have hp' : tmps[p]?.getD undef = .pointer (some ⟨k, 0, none⟩) := by simpa using hp
  have hv' : tmps[u]?.getD undef = v := by simpa using hv
  have hv2' : tmps[x]?.getD undef = v' := by simpa using hv2
  simp [Result.andThen, hp', hv', hv2', asAddr, hl]

theorem madeOf_over (t set : List UInt8) (most : Int) (w : World) (h1 : 8000 < t.length) (h2 : most ≤ 8000) (ht : t.length ≤ maxLen) :
    Calls Tryz.prog 186 #[.string ⟨t.toArray⟩, .string ⟨set.toArray⟩, .int .i64 most] w fun e w' => e = .returned (.bool false) ∧ w' = w := by
  have hmx : maxLen = 9223372036854775807 := rfl
  have hne : (t == ([] : List UInt8)) = false := by cases t with | nil => simp at h1 | cons a l => rfl
  have h3 : most < (t.length : Int) := by omega
  go_enter Tryz.func186, Tryz.ntmps186
  go_wp2
  go_ret
  exact ⟨rfl, rfl⟩

set_option maxHeartbeats 800000 in
theorem number_wide (t : List UInt8) (lo hi : Int) (w : World) (ht : t.length ≤ maxLen) :
    Calls Tryz.prog 137 #[.string ⟨t.toArray⟩, .int .i64 lo, .int .i64 hi] w fun e w' => e = .returned (.tuple #[.int .i64 (Pu.number t lo hi).1, .bool (Pu.number t lo hi).2]) ∧ w' = w := by
  by_cases h : t.length ≤ 8000
  · exact number_any t lo hi w h
  · have HE : Hid (Pu.number t lo hi = (0, false)) := by
      show _ = _
      have := Pu.madeOf_long t Pu.digitSet 18 (by omega)
      simp [Pu.number, this]
    go_enter Tryz.func137, Tryz.ntmps137
    go_wp2_with fail
    refine (madeOf_over t Pu.digitSet 18 _ (by omega) (by decide) ht).mono ?_
    rintro e w1 ⟨rfl, rfl⟩
    go_wp2
    go_ret2
    exact ⟨by rw [HE.out]; rfl, rfl⟩

theorem ext_mid (t : List UInt8) (k m : Nat) : (⟨t.toArray⟩ : ByteArray).extract k (k + m) = ⟨((t.drop k).take m).toArray⟩ := by
  apply ByteArray.ext
  simp [List.take_drop]

theorem info191s (a b : Value) : (Tryz.prog.info? 191).map (·.size) = some (#[a, b] : Array Value).size := (show (Tryz.prog.info? 191).map (·.size) = some 2 by kernel_rfl)
theorem all2 (a b : ByteArray) : (#[.string a, .string b] : Array Value).all (·.oneCell') = true := by simp [Value.oneCell']

theorem cutE_eq {t l b : List UInt8} {e ok : Bool} {N : Int} (hc : Lib.cut t [10] = (l, b, e)) (hN : Pu.number l 1 8000 = (N, ok)) :
    Pd.cutE t = if ok = false then ([], [], [], false) else if e = false ∨ (b.length : Int) < N + 32 then ([], [], [], true) else (b.take N.toNat, (b.drop N.toNat).take 32, b.drop (N.toNat + 32), true) := by
  unfold Pd.cutE
  rw [hc]
  simp only [hN]

theorem cutW_any (s sep : List UInt8) (w : World) (hs : s.length ≤ 3000000) (h : Gl w) :
    Calls Tryz.prog 136 #[.string ⟨s.toArray⟩, .string ⟨sep.toArray⟩] w fun e w' => e = .returned (.tuple #[.string ⟨(Lib.cut s sep).1.toArray⟩, .string ⟨(Lib.cut s sep).2.1.toArray⟩, .bool (Lib.cut s sep).2.2]) ∧ Kx (fun _ => False) w w' := by
  obtain ⟨m, hm⟩ := h.max
  refine (Tryz.strings_Cut ⟨s.toArray⟩ ⟨sep.toArray⟩ m w (by simp [ByteArray.size]; omega) hm).mono ?_
  rintro e w' ⟨rfl, n, rfl⟩
  exact ⟨rfl, (Kx.refl _ _).drewN n⟩

set_option maxHeartbeats 800000 in
set_option maxRecDepth 100000 in
theorem cutEntry_any (t : List UInt8) (w : World) (hgl : Gl w) (ht : t.length ≤ 3000000) :
    Calls Tryz.prog 93 #[.string ⟨t.toArray⟩] w fun e w' => e = .returned (.tuple #[.agg #[.string ⟨(Pd.cutE t).1.toArray⟩, .string ⟨(Pd.cutE t).2.1.toArray⟩], .string ⟨(Pd.cutE t).2.2.1.toArray⟩, .bool (Pd.cutE t).2.2.2]) ∧ Kx (fun _ => False) w w' := by
  have hbl := (Pu.cut_lens t [10]).2
  have hl0 := (Pu.cut_lens t [10]).1
  have hcut := fun w hw => cutW_any t [10] w ht hw
  obtain ⟨l, b, e, hc⟩ : ∃ l b e, Lib.cut t [10] = (l, b, e) := ⟨_, _, _, rfl⟩
  rw [hc] at hcut hl0 hbl
  simp only at hcut hl0 hbl
  have hnum := fun w => number_wide l 1 8000 w (Nat.le_trans hl0 (Nat.le_trans ht (by decide)))
  have hle := Pu.number_le l 1 8000 (by decide) (by decide)
  obtain ⟨N, ok, hN⟩ : ∃ N ok, Pu.number l 1 8000 = (N, ok) := ⟨_, _, rfl⟩
  have hE := cutE_eq hc hN
  rw [hN] at hnum hle
  simp only at hnum hle
  obtain ⟨n, rfl⟩ : ∃ n : Nat, N = (n : Int) := ⟨N.toNat, by omega⟩
  have hn8 : n ≤ 8000 := by omega
  have hA := (Kx.refl (fun _ => False) w).alloc (.cells #[.string ⟨#[]⟩, .string ⟨#[]⟩] 191)
  have hcb := Cb.new #[.string ⟨#[]⟩, .string ⟨#[]⟩] 191 w
  have hgl1 := hgl.kept hA (fun _ _ => id)
  have hmx : maxLen = 9223372036854775807 := rfl
  clear hle hc hN
  cases ok with
  | false =>
    rw [hE, if_pos rfl]
    clear hE
    go_enter Tryz.func93, Tryz.ntmps93
    go_wp2_with fail
    refine (hcut _ hgl1).mono ?_
    rintro _ w1 ⟨rfl, hk1⟩
    have hcb1 := hcb.kept hk1 id
    have hk2 := hA.trans hk1
    have hks : w.heap.size ≤ w.heap.size := Nat.le_refl _
    clear hcb hk1 hA hcut hgl1
    generalize hke : w.heap.size = k at hcb1 hks ⊢
    go_wp2_with fail
    refine (hnum _).mono ?_
    rintro _ w2 ⟨rfl, hw2⟩
    subst hw2
    clear hnum
    have hk3 : Kx (fun _ => False) w (w2.setRow k #[.string ⟨#[]⟩, .string ⟨#[]⟩]) := hk2.setRow (fun h => absurd h (by omega)) _
    have hcb2 := hcb1.row #[.string ⟨#[]⟩, .string ⟨#[]⟩]
    go_wp2_with (refine wpList_storeAll _ rfl 191 _ _ rfl rfl rfl hcb1 (info191s (.string ⟨#[]⟩) (.string ⟨#[]⟩)) rfl (all2 ⟨#[]⟩ ⟨#[]⟩) ?_)
    refine bodyPost_ret (v := .tuple #[.agg #[.string ⟨#[]⟩, .string ⟨#[]⟩], .string ⟨#[]⟩, .bool false]) (results_ctt (k := k) rfl rfl rfl rfl hcb2 Tryz.underlying191 rfl (by kernel_rfl)) rfl ⟨rfl, hk3⟩
  | true =>
    rw [if_neg (by decide)] at hE
    cases e with
    | false =>
      rw [hE, if_pos (.inl rfl)]
      clear hE
      go_enter Tryz.func93, Tryz.ntmps93
      go_wp2_with fail
      refine (hcut _ hgl1).mono ?_
      rintro _ w1 ⟨rfl, hk1⟩
      have hcb1 := hcb.kept hk1 id
      have hk2 := hA.trans hk1
      have hks : w.heap.size ≤ w.heap.size := Nat.le_refl _
      clear hcb hk1 hA hcut hgl1
      generalize hke : w.heap.size = k at hcb1 hks ⊢
      go_wp2_with fail
      refine (hnum _).mono ?_
      rintro _ w2 ⟨rfl, hw2⟩
      subst hw2
      clear hnum
      have hk3 : Kx (fun _ => False) w (w2.setRow k #[.string ⟨#[]⟩, .string ⟨#[]⟩]) := hk2.setRow (fun h => absurd h (by omega)) _
      have hcb2 := hcb1.row #[.string ⟨#[]⟩, .string ⟨#[]⟩]
      go_wp2_with (refine wpList_storeAll _ rfl 191 _ _ rfl rfl rfl hcb1 (info191s (.string ⟨#[]⟩) (.string ⟨#[]⟩)) rfl (all2 ⟨#[]⟩ ⟨#[]⟩) ?_)
      refine bodyPost_ret (v := .tuple #[.agg #[.string ⟨#[]⟩, .string ⟨#[]⟩], .string ⟨#[]⟩, .bool true]) (results_ctt (k := k) rfl rfl rfl rfl hcb2 Tryz.underlying191 rfl (by kernel_rfl)) rfl ⟨rfl, hk3⟩
    | true =>
      by_cases hs : b.length < n + 32
      · have hs2 : (b.length : Int) < (n : Int) + 32 := by omega
        rw [hE, if_pos (.inr hs2)]
        clear hE
        go_enter Tryz.func93, Tryz.ntmps93
        go_wp2_with fail
        refine (hcut _ hgl1).mono ?_
        rintro _ w1 ⟨rfl, hk1⟩
        have hcb1 := hcb.kept hk1 id
        have hk2 := hA.trans hk1
        have hks : w.heap.size ≤ w.heap.size := Nat.le_refl _
        clear hcb hk1 hA hcut hgl1
        generalize hke : w.heap.size = k at hcb1 hks ⊢
        go_wp2_with fail
        refine (hnum _).mono ?_
        rintro _ w2 ⟨rfl, hw2⟩
        subst hw2
        clear hnum
        have hk3 : Kx (fun _ => False) w (w2.setRow k #[.string ⟨#[]⟩, .string ⟨#[]⟩]) := hk2.setRow (fun h => absurd h (by omega)) _
        have hcb2 := hcb1.row #[.string ⟨#[]⟩, .string ⟨#[]⟩]
        go_wp2_with (refine wpList_storeAll _ rfl 191 _ _ rfl rfl rfl hcb1 (info191s (.string ⟨#[]⟩) (.string ⟨#[]⟩)) rfl (all2 ⟨#[]⟩ ⟨#[]⟩) ?_)
        refine bodyPost_ret (v := .tuple #[.agg #[.string ⟨#[]⟩, .string ⟨#[]⟩], .string ⟨#[]⟩, .bool true]) (results_ctt (k := k) rfl rfl rfl rfl hcb2 Tryz.underlying191 rfl (by kernel_rfl)) rfl ⟨rfl, hk3⟩
      · have hs2 : ¬ (b.length : Int) < (n : Int) + 32 := by omega
        rw [hE, if_neg (by simp [hs2])]
        clear hE
        rw [Int.toNat_natCast]
        go_enter Tryz.func93, Tryz.ntmps93
        go_wp2_with fail
        refine (hcut _ hgl1).mono ?_
        rintro _ w1 ⟨rfl, hk1⟩
        have hcb1 := hcb.kept hk1 id
        have hk2 := hA.trans hk1
        have hks : w.heap.size ≤ w.heap.size := Nat.le_refl _
        clear hcb hk1 hA hcut hgl1
        generalize hke : w.heap.size = k at hcb1 hks ⊢
        go_wp2_with fail
        refine (hnum _).mono ?_
        rintro _ w2 ⟨rfl, hw2⟩
        subst hw2
        clear hnum
        have hx1 := ext_take b n
        go_wp2_with fail
        refine wp_region_ord (C := fun w' => Kx (fun y => y = k) w2 w') [(0, true), (1, true), (2, true), (3, true), (4, true), (5, true), (6, true), (7, true), (8, true), (9, true), (10, true), (11, false), (12, false)] 13 (by kernel_rfl) (by kernel_rfl) rfl (Kx.refl _ _).drew ?_
        refine ord_val rfl (.string ⟨b.toArray⟩) (fun w' hC => by go_simp) ?_
        refine ord_val rfl (.int .i64 (n : Int)) (fun w' hC => by go_simp) ?_
        refine ord_val rfl (.string ⟨(b.take n).toArray⟩) (fun w' hC => by go_simp; intro h; omega) ?_
        refine ord_val rfl (.string ⟨b.toArray⟩) (fun w' hC => by go_simp) ?_
        refine ord_val rfl (.int .i64 (n : Int)) (fun w' hC => by go_simp) ?_
        refine ord_val rfl (.int .i64 ((n + 32 : Nat) : Int)) (fun w' hC => by go_simp) ?_
        refine ord_val rfl (.string ⟨((b.drop n).take 32).toArray⟩) (fun w' hC => by go_simp; rw [if_pos (by omega), if_pos (by omega), show ((n : Int) + 32).toNat = n + 32 from by omega, ext_mid]) ?_
        refine ord_val rfl (.agg #[.string ⟨(b.take n).toArray⟩, .string ⟨((b.drop n).take 32).toArray⟩]) (fun w' hC => by go_simp) ?_
        refine ord_val rfl (.string ⟨b.toArray⟩) (fun w' hC => by go_simp) ?_
        refine ord_val rfl (.int .i64 ((n + 32 : Nat) : Int)) (fun w' hC => by go_simp) ?_
        refine ord_val rfl (.string ⟨(b.drop (n + 32)).toArray⟩) (fun w' hC => by go_simp; rw [if_pos (by omega), show ((n : Int) + 32).toNat = n + 32 from by omega, ext_drop]) ?_
        simp only [Act.put, sI, sS, sZ]
        have hkd := (Kx.refl (fun _ => False) w2).drew
        have hcb3 := hcb1.kept hkd id
        refine ord_step ?_
        refine wpList_storeAll _ rfl 191 _ _ rfl rfl rfl hcb3 (info191s (.string ⟨(b.take n).toArray⟩) (.string ⟨((b.drop n).take 32).toArray⟩)) rfl (all2 ⟨(b.take n).toArray⟩ ⟨((b.drop n).take 32).toArray⟩) ?_
        have hk4 : Kx (fun _ => False) w (World.setRow { w2 with drawn := w2.drawn + 1 } k #[.string ⟨(b.take n).toArray⟩, .string ⟨((b.drop n).take 32).toArray⟩]) := (hk2.trans hkd).setRow (fun h => absurd h (by omega)) _
        have hC4 : Kx (fun y => y = k) w2 (World.setRow { w2 with drawn := w2.drawn + 1 } k #[.string ⟨(b.take n).toArray⟩, .string ⟨((b.drop n).take 32).toArray⟩]) := Kx.setRow (X := fun y => y = k) (g := k) (hkd.mono (fun _ _ e => e.elim)) (fun _ => rfl) _
        have hcb4 := hcb3.row #[.string ⟨(b.take n).toArray⟩, .string ⟨((b.drop n).take 32).toArray⟩]
        refine ⟨rfl, hC4, ?_⟩
        simp only [Act.put]
        refine ord_valT rfl (.string ⟨(b.drop (n + 32)).toArray⟩) (by go_simp) hC4 ?_
        refine ord_nil ?_
        simp only [Act.put, sI, sS, sZ]
        go_wp2
        refine bodyPost_ret (v := .tuple #[.agg #[.string ⟨(b.take n).toArray⟩, .string ⟨((b.drop n).take 32).toArray⟩], .string ⟨(b.drop (n + 32)).toArray⟩, .bool true]) (results_ctt (k := k) rfl rfl rfl rfl hcb4 Tryz.underlying191 rfl (info191s _ _)) rfl ⟨rfl, hk4⟩

end Go.Proofs.YtepgoppgblfjbaaGreatDoor
