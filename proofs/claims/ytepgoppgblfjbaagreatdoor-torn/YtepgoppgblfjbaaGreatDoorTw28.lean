import Derived.Test.YtepgoppgblfjbaaGreatDoorTw09
import Derived.Test.YtepgoppgblfjbaaGreatDoorTw08
import Derived.Test.YtepgoppgblfjbaaGreatDoorTw17
import Derived.Test.YtepgoppgblfjbaaGreatDoorTw26
import Derived.Deep.QuietTactic
import Derived.BigQuiet
import Derived.Test.YtepgoppgblfjbaaGreatDoorTw27
/- The streams that put files: read, whatever the files. -/
namespace Go.Proofs.YtepgoppgblfjbaaGreatDoor
namespace Pu

theorem bytesV_ext {n : Int} {s : List UInt8} {bad : Bool} (t : List UInt8) (h : (bytes n s bad).2.2 = false) : (bytes n (s ++ t) bad).1 = (bytes n s bad).1 := by
  unfold bytes at h ⊢
  split at h
  · rename_i h1
    have hlt : n.toNat < s.length := (List.getElem?_eq_some_iff.1 h1).1
    rw [if_pos (by rw [List.getElem?_append_left hlt]; exact h1), if_pos h1, List.take_append_of_le_length (by omega)]
  · cases h

theorem dataV_ext {s : List UInt8} {bad : Bool} (t : List UInt8) (h : (data s bad).2.2 = false) : (data (s ++ t) bad).1 = (data s bad).1 := by
  unfold data at h ⊢
  have h1 : (need (number (after sData s bad).1 0 200).2 (after sData s bad).2.1 (after sData s bad).2.2).2 = false := by
    cases hb : (need (number (after sData s bad).1 0 200).2 (after sData s bad).2.1 (after sData s bad).2.2).2 with
    | false => rfl
    | true => rw [hb, bytes_bad] at h; cases h
  obtain ⟨h2, h3⟩ := need_good h1
  rw [after_ext t h3]
  simp only [h2, need, if_true, h3] at h ⊢
  exact bytesV_ext t h

/-- The line of a put, and what follows it. -/
def putL (p : List UInt8) : List UInt8 := [77, 32, 49, 48, 48, 54, 52, 52, 32, 105, 110, 108, 105, 110, 101, 32] ++ p
def putD (d : Nat) : List UInt8 := [100, 97, 116, 97, 32] ++ dig (dig d).length ++ [10] ++ dig d ++ [10]
def putT (x : List UInt8 × Nat) : List UInt8 := putL x.1 ++ [10] ++ putD x.2
def putC (x : List UInt8 × Nat) : Ch := ⟨[77], s644, 0, dig x.2, x.1, []⟩
/-- The paths that are put. -/
def mPaths : List (List UInt8) := [[97], [98, 47, 99], [98, 47, 100], [98, 47, 101, 47, 102], [98, 46, 103], [98, 45, 104], [122]]

theorem putD_ok : ((List.range 50).all fun d => data (putD d) false == (dig d, [], false)) = true := by kernel_rfl
theorem putL_ok : (mPaths.all fun p => (Lib.split (putL p) [32] == [[77], s644, sInline, p]) && (isPath p && (!(putL p).contains 10 && !(putL p == [])))) = true := by kernel_rfl
theorem putD_len : ((List.range 50).all fun d => decide ((putD d).length ≤ 12)) = true := by kernel_rfl
theorem putL_len : (mPaths.all fun p => decide ((putL p).length ≤ 30)) = true := by kernel_rfl

/-- A put whose text reads. -/
structure PutOk (x : List UInt8 × Nat) : Prop where
  data : data (putD x.2) false = (dig x.2, [], false)
  split : Lib.split (putL x.1) [32] = [[77], s644, sInline, x.1]
  path : isPath x.1 = true
  flat : ¬ (10 : UInt8) ∈ putL x.1
  some : (putL x.1 == []) = false
  len : (putT x).length ≤ 43

theorem putOk {p : List UInt8} {d : Nat} (hp : p ∈ mPaths) (hd : d < 50) : PutOk (p, d) := by
  have h1 := List.all_eq_true.1 putD_ok d (List.mem_range.2 hd)
  have h2 := List.all_eq_true.1 putL_ok p hp
  have h3 := List.all_eq_true.1 putD_len d (List.mem_range.2 hd)
  have h4 := List.all_eq_true.1 putL_len p hp
  simp only [beq_iff_eq, Bool.and_eq_true, Bool.not_eq_true', decide_eq_true_eq] at h1 h2 h3 h4
  refine ⟨h1, h2.1, h2.2.1, ?_, h2.2.2.2, ?_⟩
  · intro hm
    have := h2.2.2.1
    rw [List.contains_iff_mem.2 hm] at this
    cases this
  · simp only [putT, List.length_append, List.length_cons, List.length_nil]
    omega

theorem put_change {x : List UInt8 × Nat} (h : PutOk x) (t : List UInt8) : change (putL x.1) (putD x.2 ++ t) false = (t, false) ∧ changeV (putL x.1) (putD x.2 ++ t) false = putC x := by
  have hd2 : data (putD x.2 ++ t) false = (dig x.2, t, false) := by
    have h1 := data_ext t (s := putD x.2) (bad := false) (by rw [h.data])
    have h2 := dataV_ext t (s := putD x.2) (bad := false) (by rw [h.data])
    rw [h.data] at h1 h2
    exact Prod.ext h2 h1
  have e1 : (([77] : List UInt8) == [77]) = true := by decide
  have e2 : (s644 == s644 || s644 == s755) = true := by decide
  have e3 : (sInline == sInline) = true := by decide
  constructor
  · unfold change
    rw [h.split]
    simp only [e1, if_true, changeM, e2, need, h.path, content, e3, hd2]
  · unfold changeV
    rw [h.split]
    simp only [e1, if_true, changeMV, e2, need, h.path, contentV, e3, hd2]
    rfl

/-- All puts, and the end of the commit and of the stream. -/
def putX (l : List (List UInt8 × Nat)) : List UInt8 := l.flatMap putT ++ [10, 100, 111, 110, 101, 10]

theorem index_at {a t : List UInt8} {c : UInt8} (h : ¬ c ∈ a) : Lib.index (a ++ c :: t) [c] = (a.length : Int) := by
  induction a with
  | nil =>
    rw [List.nil_append]
    unfold Lib.index
    simp [List.isPrefixOf]
  | cons x l ih =>
    rw [List.cons_append]
    unfold Lib.index
    have e : ¬ c = x := fun e => h (by rw [e]; exact List.mem_cons_self ..)
    have h2 : [c].isPrefixOf (x :: (l ++ c :: t)) = false := by simp [List.isPrefixOf, e]
    rw [h2, ih (fun hm => h (List.mem_cons_of_mem _ hm))]
    simp only [Bool.false_eq_true, if_false, List.length_cons]
    split
    · rename_i e; simp at e
    · omega

theorem line_of {a t : List UInt8} (h : ¬ (10 : UInt8) ∈ a) (bad : Bool) : line (a ++ 10 :: t) bad = (a, t, bad) := by
  have hc : Lib.cut (a ++ 10 :: t) [10] = (a, t, true) := by
    unfold Lib.cut
    rw [index_at h, if_pos (by omega)]
    simp
  unfold line
  rw [hc]
  rfl

theorem putX_cons (x : List UInt8 × Nat) (l : List (List UInt8 × Nat)) : putX (x :: l) = putL x.1 ++ 10 :: (putD x.2 ++ putX l) := by
  simp [putX, putT]

theorem puts_changes : ∀ (l : List (List UInt8 × Nat)), (∀ x ∈ l, PutOk x) → ∀ (f n : Nat), l.length < f →
    changesF f (line (putX l) false).1 (line (putX l) false).2.1 (line (putX l) false).2.2 n = (n + l.length, [100, 111, 110, 101, 10], false) ∧
    changesV f (line (putX l) false).1 (line (putX l) false).2.1 (line (putX l) false).2.2 = l.map putC := by
  intro l
  induction l with
  | nil =>
    intro _ f n hf
    have e : line (putX []) false = ([], [100, 111, 110, 101, 10], false) := line_of (a := []) (by simp) false
    rw [e]
    cases f with
    | zero => omega
    | succ f => exact ⟨rfl, rfl⟩
  | cons x l ih =>
    intro hg f n hf
    have hx := hg x (List.mem_cons_self ..)
    rw [putX_cons, line_of hx.flat false]
    cases f with
    | zero => omega
    | succ f =>
      obtain ⟨c1, c2⟩ := put_change hx (putX l)
      obtain ⟨i1, i2⟩ := ih (fun y hy => hg y (List.mem_cons_of_mem _ hy)) f (n + 1) (by simp at hf; omega)
      constructor
      · unfold changesF
        simp only [hx.some, Bool.false_eq_true, if_false, c1]
        rw [i1, List.length_cons, Nat.add_assoc, Nat.add_comm 1]
      · unfold changesV
        simp only [hx.some, Bool.false_eq_true, if_false, c1, c2]
        rw [i2]
        rfl

theorem putX_from (l : List (List UInt8 × Nat)) : Lib.hasPrefix (putX l) sFrom = false ∧ Lib.hasPrefix (putX l) sMerge = false := by
  cases l with
  | nil => exact ⟨rfl, rfl⟩
  | cons x l => rw [putX_cons]; exact ⟨rfl, rfl⟩

theorem putX_changes (l : List (List UInt8 × Nat)) (hl : ∀ x ∈ l, PutOk x) (hn : l.length ≤ 30) : changes (putX l) false = ([100, 111, 110, 101, 10], false) ∧ changesAll (putX l) false = l.map putC := by
  have hlen : l.length ≤ (putX l).length := by
    have : ∀ (l : List (List UInt8 × Nat)), l.length ≤ (l.flatMap putT).length := by
      intro l
      induction l with
      | nil => simp
      | cons x l ih => simp only [List.flatMap_cons, List.length_append, List.length_cons, putT]; omega
    have := this l
    simp only [putX, List.length_append]
    omega
  obtain ⟨h1, h2⟩ := puts_changes l hl ((putX l).length + 2) 0 (by omega)
  constructor
  · unfold changes
    rw [h1]
    simp only [Nat.zero_add, hn, decide_true, need, if_true]
  · exact h2

def hd1 : List UInt8 := [109, 97, 114, 107, 32, 58, 49, 10, 97, 117, 116, 104, 111, 114, 32, 65, 32, 60, 97, 62, 32, 49, 10, 100, 97, 116, 97, 32, 48, 10, 10]
def hd2 : List UInt8 := [97, 117, 116, 104, 111, 114, 32, 65, 32, 60, 97, 62, 32, 49, 10, 100, 97, 116, 97, 32, 48, 10, 10]
def hd3 : List UInt8 := [100, 97, 116, 97, 32, 48, 10, 10]
theorem hd_ref : after sCommit1 folHead false = (sMain, hd1, false) := by kernel_rfl
theorem hd_mark : after sMark hd1 false = ([58, 49], hd2, false) := by kernel_rfl
theorem hd_au : after sAuthor hd2 false = ([65, 32, 60, 97, 62, 32, 49], hd3, false) := by kernel_rfl
theorem hd_data : data hd3 false = ([], [], false) := by kernel_rfl

/-- A stream of one commit that puts files. -/
def mkS (l : List (List UInt8 × Nat)) : List UInt8 := folHead ++ putX l
def mkC (l : List (List UInt8 × Nat)) : Co := ⟨sCommit, sMain, 1, ⟨[65], [97], 1⟩, [], ⟨0, []⟩, [], l.map putC⟩

theorem mk_read (l : List (List UInt8 × Nat)) (hl : ∀ x ∈ l, PutOk x) (hn : l.length ≤ 30) : readOne (mkS l) false = ([100, 111, 110, 101, 10], false) ∧ readOneV (mkS l) false = mkC l := by
  obtain ⟨hc1, hc2⟩ := putX_changes l hl hn
  obtain ⟨hf, hm⟩ := putX_from l
  unfold mkS mkC
  generalize putX l = X at *
  have a1 : after sCommit1 (folHead ++ X) false = (sMain, hd1 ++ X, false) := by rw [after_ext X (by rw [hd_ref]), hd_ref]
  have a2 : after sMark (hd1 ++ X) false = ([58, 49], hd2 ++ X, false) := by rw [after_ext X (by rw [hd_mark]), hd_mark]
  have a3 : after sAuthor (hd2 ++ X) false = ([65, 32, 60, 97, 62, 32, 49], hd3 ++ X, false) := by rw [after_ext X (by rw [hd_au]), hd_au]
  have a4 : data (hd3 ++ X) false = ([], X, false) := by
    have h1 := data_ext X (s := hd3) (bad := false) (by rw [hd_data])
    have h2 := dataV_ext X (s := hd3) (bad := false) (by rw [hd_data])
    rw [hd_data] at h1 h2
    exact Prod.ext h2 h1
  have r1 : ref sCommit1 (folHead ++ X) false = (sMain, hd1 ++ X, false) := by
    unfold ref; rw [a1]; rfl
  have r2 : rmark (hd1 ++ X) false = (1, hd2 ++ X, false) := by
    unfold rmark; rw [a2]; rfl
  have r3 : author (hd2 ++ X) false = (hd3 ++ X, false) := by
    unfold author; rw [a3]; rfl
  have r4 : authorV (hd2 ++ X) false = ⟨[65], [97], 1⟩ := by
    unfold authorV; rw [a3]; rfl
  have q1 : rc1 (folHead ++ X) false = (hd1 ++ X, false) := by unfold rc1; rw [r1]
  have q2 : rc2 (folHead ++ X) false = (hd2 ++ X, false) := by unfold rc2; rw [q1, r2]
  have q3 : rc3 (folHead ++ X) false = (hd3 ++ X, false) := by unfold rc3; rw [q2, r3]
  have q4 : rc4 (folHead ++ X) false = (X, false) := by unfold rc4; rw [q3, a4]
  have q5 : rc5 (folHead ++ X) false = (X, false) := by unfold rc5; rw [q4]; simp [fromOr, hf]
  have q6 : rc6 (folHead ++ X) false = (X, false) := by
    unfold rc6; rw [q5]
    unfold merges
    have : mergesF X.length X false 0 = (0, X, false) := by
      cases X.length with
      | zero => rfl
      | succ n => unfold mergesF; rw [hm]; rfl
    rw [this]
    rfl
  have hw : word (folHead ++ X) = sCommit := by rw [word_app X (by decide)]; decide
  have e1 : (sCommit == sBlob) = false := by decide
  have e2 : (sCommit == sCommit) = true := by decide
  constructor
  · unfold readOne
    rw [hw, e1, e2]
    simp only [Bool.false_eq_true, if_false, if_true]
    rw [readCommit_rc, q6]
    exact hc1
  · unfold readOneV
    rw [hw, e1, e2]
    simp only [Bool.false_eq_true, if_false, if_true]
    unfold readCommitV
    rw [q1, q2, q3, q4, q5, q6]
    simp only [r1, r2, r4, a4, hc2, mergesV_stop _ _ _ hm, fromOrV, hf, Bool.false_eq_true, if_false]
    rfl

theorem mk_ok (l : List (List UInt8 × Nat)) (hl : ∀ x ∈ l, PutOk x) (hn : l.length ≤ 30) : commands (mkS l) = [mkC l] ∧ check (mkS l) = (1, 0) ∧ (mkS l).length ≤ 49 + 43 * l.length := by
  obtain ⟨h1, h2⟩ := mk_read l hl hn
  have hlen : (mkS l).length ≤ 49 + 43 * l.length := by
    have : ∀ (l : List (List UInt8 × Nat)), (∀ x ∈ l, PutOk x) → (l.flatMap putT).length ≤ 43 * l.length := by
      intro l hl
      induction l with
      | nil => simp
      | cons x l ih =>
        have := ih (fun y hy => hl y (List.mem_cons_of_mem _ hy))
        have := (hl x (List.mem_cons_self ..)).len
        simp only [List.flatMap_cons, List.length_append, List.length_cons]
        omega
    have := this l hl
    have hf : folHead.length = 43 := by decide
    simp only [mkS, putX, List.length_append, List.length_cons, List.length_nil, hf]
    omega
  have hw : word (mkS l) = sCommit := by unfold mkS; rw [word_app _ (by decide)]; decide
  have e1 : (sCommit == sDone) = false := by decide
  have e2 : (word [100, 111, 110, 101, 10] == sDone) = true := by decide
  have hpos : ∃ k, (mkS l).length = k + 1 := ⟨(mkS l).length - 1, by simp only [mkS, folHead, List.length_append, List.length_cons]; omega⟩
  obtain ⟨k, hk⟩ := hpos
  refine ⟨?_, ?_, hlen⟩
  · unfold commands
    rw [hk]
    unfold readAllV
    rw [hw, e1, h1, h2]
    simp only [Bool.false_eq_true, if_false]
    unfold readAllV
    rw [e2]
    rfl
  · have hr : readAll (mkS l) = (1, [], false) := by
      unfold readAll
      rw [hk]
      unfold readAllF
      rw [hw, e1, h1]
      simp only [Bool.false_eq_true, if_false]
      rw [readAllF_done k _ false (0 + 1) e2]
      rfl
    unfold check
    rw [if_neg (by omega), hr]
    rfl

end Pu
end Go.Proofs.YtepgoppgblfjbaaGreatDoor

/- Merkle: what streams of puts do to a store, plainly. -/
namespace Go.Proofs.YtepgoppgblfjbaaGreatDoor

def fileOf (KK : List Int) (x : List UInt8 × Nat) : Fi := ⟨x.1, Pu.s644, Pd.sum KK 1 (Pu.dig x.2)⟩
/-- The files behind puts. -/
def putAll (KK : List Int) (l : List Fi) (xs : List (List UInt8 × Nat)) : List Fi := xs.foldl (fun l x => Pf.put (fileOf KK x) l) l

theorem put_len (f : Fi) (l : List Fi) : (Pf.put f l).length ≤ l.length + 1 := by
  unfold Pf.put
  rw [(sortF_perm _).length_eq, List.length_append]
  have := without_len (fun q => Pf.within q f.path || Pf.within f.path q) l
  simp only [List.length_cons, List.length_nil, Pf.withoutAround]
  omega

theorem putE_zero (f : Fi) (l : List Fi) (h : l.length ≤ 59) : Pf.putE f l = 0 := by
  unfold Pf.putE Pf.withE
  have h := without_len (fun q => Pf.within q f.path || Pf.within f.path q) l
  rw [if_pos]
  show (Pf.without (fun q => Pf.within q f.path || Pf.within f.path q) l ++ [_]).length ≤ 60
  rw [List.length_append]
  simp only [List.length_cons, List.length_nil]
  omega

theorem mk_changes (KK : List Int) : ∀ (xs : List (List UInt8 × Nat)) (w : Wk) (l : List Fi), l.length + xs.length ≤ 60 →
    ∃ W : Wk, Pd.changes KK w l (xs.map Pu.putC) = (0, W, putAll KK l xs) ∧ W.st.ref = w.st.ref ∧ W.st.com = w.st.com := by
  intro xs
  induction xs with
  | nil => intro w l _; exact ⟨w, rfl, rfl, rfl⟩
  | cons x xs ih =>
    intro w l h
    simp only [List.length_cons] at h
    have hE := putE_zero (fileOf KK x) l (by omega)
    have h1 : Pd.change1 KK w l (Pu.putC x) = (0, Pd.addObj KK 1 (Pu.dig x.2) w, Pf.put (fileOf KK x) l) := by
      unfold fileOf at hE
      simp [Pd.change1, Pu.putC, fileOf, hE]
    have hl := put_len (fileOf KK x) l
    obtain ⟨W, g1, g2, g3⟩ := ih (Pd.addObj KK 1 (Pu.dig x.2) w) (Pf.put (fileOf KK x) l) (by omega)
    refine ⟨W, ?_, g2, g3⟩
    rw [List.map_cons]
    unfold Pd.changes
    rw [h1]
    simp only [if_true]
    exact g1

theorem add_same (KK : List Int) (kind : Nat) (t : List UInt8) (o : List UInt8 → Option (Nat × List UInt8)) : Pd.add KK kind t o (Sh.hex (Pd.sum KK kind t)) = some (kind, t) := upd_same _ _ _

theorem commitOf_facts (KK : List Int) (w : Wk) (ps : List Com) (l : List Fi) (c : Pu.Co) : ∃ (x : Com) (T : List UInt8), x.files = l ∧ T = Pd.comText (Pd.sum KK 2 (Pf.tree KK l).1) ps c.au c.data ∧
    (Pd.commitOf KK w ps l c).st.ref = upd w.st.ref c.ref (some x) ∧ (Pd.commitOf KK w ps l c).st.com = upd w.st.com (Sh.hex x.sum) (some x) ∧ (Pd.commitOf KK w ps l c).st.obj (Sh.hex x.sum) = some (3, T) := by
  unfold Pd.commitOf
  dsimp only
  generalize Pd.comText (Pd.sum KK 2 (Pf.tree KK l).1) ps c.au c.data = T
  have h := add_same KK 3 T (Pd.addTr KK (Tr.mk (Pf.tree KK l).1 (Pf.tree KK l).2) w.st.obj)
  have hi : Sh.idK KK 3 T = Sh.hex (Pd.sum KK 3 T) := rfl
  rw [hi]
  generalize Pd.sum KK 3 T = sm at *
  exact ⟨⟨sm, l⟩, T, rfl, rfl, rfl, rfl, h⟩

/-- What an import of puts makes. -/
structure MkR (KK : List Int) (S : St) (xs : List (List UInt8 × Nat)) (c : Com) (txt : List UInt8) : Prop where
  ok : (Pd.imp KK S (Pu.mkS xs)).1 = (1, 0)
  ref : (Pd.imp KK S (Pu.mkS xs)).2.ref = upd S.ref Pu.sMain (some c)
  com : (Pd.imp KK S (Pu.mkS xs)).2.com = upd S.com (Sh.hex c.sum) (some c)
  files : c.files = putAll KK (mainFiles S) xs
  obj : (Pd.imp KK S (Pu.mkS xs)).2.obj (Sh.hex c.sum) = some (3, txt)
  txt : ∃ r, txt = [116, 114, 101, 101, 32] ++ Sh.hex (Pd.sum KK 2 (Pf.tree KK c.files).1) ++ [10] ++ r

theorem mk_imp (KK : List Int) (S : St) (xs : List (List UInt8 × Nat)) (hx : ∀ x ∈ xs, Pu.PutOk x) (hn : xs.length ≤ 30) (hl : (mainFiles S).length + xs.length ≤ 60) :
    ∃ c txt, MkR KK S xs c txt := by
  obtain ⟨h1, h2, _⟩ := Pu.mk_ok xs hx hn
  obtain ⟨W, g1, g2, g3⟩ := mk_changes KK xs ⟨S, fun _ => none⟩ (mainFiles S) hl
  have hp : Pd.parents ⟨S, fun _ => none⟩ (Pu.mkC xs) = some ((S.ref Pu.sMain).toList, mainFiles S) := by
    simp [Pd.parents, Pd.first, Pd.merged, Pu.mkC, mainFiles]
  have hs : Pd.isSet ⟨S, fun _ => none⟩ (Pu.mkC xs).mark = false := rfl
  have hc : (Pu.mkC xs).changes = xs.map Pu.putC := rfl
  have h3 : Pd.commit KK ⟨S, fun _ => none⟩ (Pu.mkC xs) = (0, Pd.commitOf KK W (S.ref Pu.sMain).toList (putAll KK (mainFiles S) xs) (Pu.mkC xs)) := by
    unfold Pd.commit
    rw [hs, hp]
    simp only [Bool.false_eq_true, if_false, hc, g1, if_true]
  have ho : Pd.one KK ⟨S, fun _ => none⟩ (Pu.mkC xs) = (0, Pd.commitOf KK W (S.ref Pu.sMain).toList (putAll KK (mainFiles S) xs) (Pu.mkC xs)) := by
    have e1 : ¬ Pu.sCommit = Pu.sBlob := by decide
    have hw : (Pu.mkC xs).word = Pu.sCommit := rfl
    unfold Pd.one
    rw [hw, if_neg e1, if_pos rfl]
    exact h3
  have ha : Pd.all KK ⟨S, fun _ => none⟩ [Pu.mkC xs] 0 = ((1, 0), Pd.commitOf KK W (S.ref Pu.sMain).toList (putAll KK (mainFiles S) xs) (Pu.mkC xs)) := by
    simp [Pd.all, ho]
  have hI : Pd.imp KK S (Pu.mkS xs) = ((1, 0), (Pd.commitOf KK W (S.ref Pu.sMain).toList (putAll KK (mainFiles S) xs) (Pu.mkC xs)).st) := by
    unfold Pd.imp
    rw [h2, h1, ha]
    simp only [if_true]
  obtain ⟨x, T, f1, f2, f3, f4, f5⟩ := commitOf_facts KK W (S.ref Pu.sMain).toList (putAll KK (mainFiles S) xs) (Pu.mkC xs)
  generalize Pd.commitOf KK W (S.ref Pu.sMain).toList (putAll KK (mainFiles S) xs) (Pu.mkC xs) = R at *
  refine ⟨x, T, ?_, ?_, ?_, f1, ?_, ?_⟩
  · rw [hI]
  · rw [hI, f3, g2]
    rfl
  · rw [hI, f4, g3]
  · rw [hI]
    exact f5
  · refine ⟨(S.ref Pu.sMain).toList.flatMap Pd.parentL ++ (Pf.line (Pu.mkC xs).au ++ [10] ++ (Pu.mkC xs).data), ?_⟩
    rw [f2, f1]
    unfold Pd.comText
    simp only [List.append_assoc]

/-- Files at paths that don't meet: the order of puts doesn't count. -/
def Clear (xs : List (List UInt8 × Nat)) : Prop := xs.Pairwise fun a b => Pf.within a.1 b.1 = false ∧ Pf.within b.1 a.1 = false

theorem put_clear (KK : List Int) {x : List UInt8 × Nat} {xs : List (List UInt8 × Nat)} {l : List Fi} (hp : l.Perm (xs.map (fileOf KK))) (h : ∀ y ∈ xs, Pf.within y.1 x.1 = false ∧ Pf.within x.1 y.1 = false) : (Pf.put (fileOf KK x) l).Perm ((x :: xs).map (fileOf KK)) := by
  have hw : Pf.withoutAround (fileOf KK x).path l = l := by
    unfold Pf.withoutAround Pf.without
    rw [List.filter_eq_self]
    intro f hf
    obtain ⟨y, hy, rfl⟩ := List.mem_map.1 (hp.mem_iff.1 hf)
    obtain ⟨h1, h2⟩ := h y hy
    show (!(Pf.within y.1 x.1 || Pf.within x.1 y.1)) = true
    rw [h1, h2]
    rfl
  unfold Pf.put
  rw [hw]
  refine (sortF_perm _).trans ((hp.append_right _).trans ?_)
  rw [List.map_cons]
  exact List.perm_append_singleton _ _

theorem putAll_perm (KK : List Int) : ∀ (ys xs : List (List UInt8 × Nat)) (l : List Fi), l.Perm (xs.map (fileOf KK)) → SortedF l → Clear (ys.reverse ++ xs) →
    (putAll KK l ys).Perm ((ys.reverse ++ xs).map (fileOf KK)) ∧ SortedF (putAll KK l ys) := by
  intro ys
  induction ys with
  | nil => intro xs l h hs _; exact ⟨h, hs⟩
  | cons y ys ih =>
    intro xs l h hs hc
    have e : (y :: ys).reverse ++ xs = ys.reverse ++ (y :: xs) := by simp
    rw [e] at hc ⊢
    have hc2 : Clear (y :: xs) := (List.pairwise_append.1 hc).2.1
    have h1 := put_clear KK (x := y) h (fun z hz => by
      have := (List.pairwise_cons.1 hc2).1 z hz
      exact ⟨this.2, this.1⟩)
    exact ih (y :: xs) _ h1 (sortF_sorted _) hc

/-- Sorted lists of files with paths of their own: one for each set. -/
theorem sorted_eq {a b : List Fi} (h : a.Perm b) (ha : SortedF a) (hb : SortedF b) (ho : (a.map Fi.path).Nodup) : a = b := by
  refine List.Perm.eq_of_pairwise (le := fun x y : Fi => Op.bytesLess y.path x.path = false) (fun x y hx hy h1 h2 => ?_) ha hb h
  have hp : x.path = y.path := by
    simp only [bytesLess_eq, decide_eq_false_iff_not, List.not_lt] at h1 h2
    exact List.le_antisymm h1 h2
  have hy' := h.mem_iff.2 hy
  obtain ⟨i, hi, rfl⟩ := List.getElem_of_mem hx
  obtain ⟨j, hj, rfl⟩ := List.getElem_of_mem hy'
  have : i = j := by
    have hq := List.pairwise_iff_getElem.1 (show (a.map Fi.path).Pairwise (fun x y => x ≠ y) from ho)
    apply Classical.byContradiction
    intro hne
    rcases Nat.lt_or_gt_of_ne hne with hlt | hlt
    · exact hq i j (by simpa using hi) (by simpa using hj) hlt (by simp [hp])
    · exact hq j i (by simpa using hj) (by simpa using hi) hlt (by simp [hp])
  subst this
  rfl

theorem clear_nodup (KK : List Int) {xs : List (List UInt8 × Nat)} (h : Clear xs) : ((xs.map (fileOf KK)).map Fi.path).Nodup := by
  rw [List.map_map]
  refine List.pairwise_map.2 (h.imp ?_)
  intro a b hab e
  have e2 : a.1 = b.1 := e
  have := hab.1
  rw [e2] at this
  rw [(within_iff b.1 b.1).2 ⟨[], by simp, .inl rfl⟩] at this
  cases this

end Go.Proofs.YtepgoppgblfjbaaGreatDoor

/- What a store tells: Object. -/
namespace Go.Proofs.YtepgoppgblfjbaaGreatDoor
open Go.RowKit

/-- A struct that lies whole in a block, and a value, handed back. -/
theorem results_ct {fn : Func} {p u : Tmp} {ty : TypeId} (h : fn.results = #[.cell p ty, .tmp u]) {tmps : Array Value} {P : Program} {w : World} {k : Nat} {cs : Array Value} {d : TypeDesc} {bt : TypeId}
    (hp : tmps.getD p undef = .pointer (some ⟨k, 0, none⟩)) {v : Value} (hv : tmps.getD u undef = v) (hb : Cb k cs bt w) (hu : P.underlying ty = some d) (hd : aggD d = true) (hi : (P.info? ty).map (·.size) = some cs.size) :
    (results fn tmps).run P w = .ok (.tuple #[.agg cs, v]) w := by
  have hl : (loadVar ty ⟨k, 0, none⟩).run P w = .ok (.agg cs) w := run_loadVar_row _ _ bt ty cs (0, 0) _ hb hu (by cases d <;> first | rfl | cases hd) hi
  simp only [results, h]
  have hp' : tmps[p]?.getD undef = .pointer (some ⟨k, 0, none⟩) := by simpa using hp
  have hv' : tmps[u]?.getD undef = v := by simpa using hv
  simp [Result.andThen, hp', hv', asAddr, hl]

def zObj : Value := .agg #[.int .i64 0, .string ⟨#[]⟩, .string ⟨#[]⟩]

theorem objF_val (g : Objs) (k : List UInt8) : ∃ (n : Int) (a b : Array UInt8), (objF g k).getD zObj = .agg #[.int .i64 n, .string ⟨a⟩, .string ⟨b⟩] ∧ (objF g k).isSome = (g k).isSome ∧ ∀ x, g k = some x → n = (x.1 : Int) ∧ a = x.2.toArray := by
  unfold objF
  cases h : g k with
  | none => exact ⟨0, #[], #[], rfl, rfl, fun x e => by cases e⟩
  | some y => exact ⟨(y.1 : Int), y.2.toArray, k.toArray, rfl, rfl, fun x e => by cases e; exact ⟨rfl, rfl⟩⟩

set_option maxHeartbeats 800000 in
set_option maxRecDepth 100000 in
theorem hobject_any {M : Nat → Prop} {w : World} {h o c r t n : Nat} {S : St} (hs : Sto M w h o c r t n S) (name : List UInt8) (hi : name.length ≤ maxLen) (k : Int) (a b : Array UInt8) (f : Bool)
    (hv : (objF S.obj name).getD zObj = .agg #[.int .i64 k, .string ⟨a⟩, .string ⟨b⟩]) (hf : (objF S.obj name).isSome = f) :
    Calls Tryz.prog 55 #[.pointer (some ⟨h, 0, none⟩), .string ⟨name.toArray⟩] w fun e w' => e = .returned (.tuple #[.agg #[.int .i64 k, .string ⟨a⟩, .string ⟨b⟩], .bool f]) ∧ Kx (fun _ => False) w w' := by
  have hA := (Kx.refl (fun _ => False) w).alloc (.cells #[.int .i64 0, .string ⟨#[]⟩, .string ⟨#[]⟩] 105)
  have hc2 : (w.alloc (.cells #[.int .i64 0, .string ⟨#[]⟩, .string ⟨#[]⟩] 105)).cell? ⟨h, 0, none⟩ = some (.map (some o)) := Cb.cell (hs.hi.kept hA id) 0
  have hm := hs.obj.kept hA id
  go_enter Tryz.func55, Tryz.ntmps55
  go_wp2_with (refine wpList_lookOkS rfl _ _ 146 rfl 105 (by kernel_rfl) (by kernel_rfl) zObj (by kernel_rfl) o n (objF S.obj) rfl hm name rfl hi ?_)
  have hF := ((Kx.refl (fun _ => False) w).alloc (.cells #[.int .i64 k, .string ⟨a⟩, .string ⟨b⟩] 105)).alloc (.cells #[.int .i64 k, .string ⟨a⟩, .string ⟨b⟩] 105)
  have hB : Cb w.heap.size #[.int .i64 k, .string ⟨a⟩, .string ⟨b⟩] 105 ((w.alloc (.cells #[.int .i64 k, .string ⟨a⟩, .string ⟨b⟩] 105)).alloc (.cells #[.int .i64 k, .string ⟨a⟩, .string ⟨b⟩] 105)) := (Cb.new _ _ _).kept ((Kx.refl (fun _ => False) _).alloc _) id
  clear hc2 hm hv hf hA
  refine bodyPost_ret (v := .tuple #[.agg #[.int .i64 k, .string ⟨a⟩, .string ⟨b⟩], .bool f]) (results_ct (k := w.heap.size) rfl rfl rfl hB Tryz.underlying105 rfl (by kernel_rfl)) rfl ⟨rfl, hF⟩

/-- What Object gives. -/
def ObjR (r : Option (Nat × List UInt8)) (e : Ending) : Prop :=
  match r with
  | none => e = .returned (.tuple #[.int .i64 0, .string ⟨#[]⟩, .int .i64 5])
  | some x => e = .returned (.tuple #[.int .i64 (x.1 : Int), .string ⟨x.2.toArray⟩, .int .i64 0])

set_option maxHeartbeats 800000 in
set_option maxRecDepth 100000 in
theorem sobject_any {M : Nat → Prop} {w : World} {s h o c r t n : Nat} {S : St} {j : List UInt8} {vj : Value} (hs : Str M w s h o c r t n S j vj) (name : List UInt8) (hi : name.length ≤ maxLen) :
    Calls Tryz.prog 31 #[.pointer (some ⟨s, 0, none⟩), .string ⟨name.toArray⟩] w fun e w' => ObjR (S.obj name) e ∧ Kx (fun _ => False) w w' := by
  have c0 : w.cell? ⟨s, 0, none⟩ = some (.pointer (some ⟨h, 0, none⟩)) := Cb.cell hs.jr.blk 0
  obtain ⟨k, a, b, hv, hf, hx⟩ := objF_val S.obj name
  have hcall := hobject_any hs.sto name hi k a b _ hv hf
  cases hc : S.obj name with
  | none =>
    rw [hc] at hcall
    simp only [Option.isSome_none] at hcall
    go_enter Tryz.func31, Tryz.ntmps31
    go_wp2_with fail
    refine hcall.mono ?_
    rintro _ w2 ⟨rfl, hk2⟩
    clear hcall
    go_wp2
    go_ret3
    exact ⟨rfl, hk2.alloc _⟩
  | some x =>
    obtain ⟨rfl, rfl⟩ := hx x hc
    rw [hc] at hcall
    simp only [Option.isSome_some] at hcall
    go_enter Tryz.func31, Tryz.ntmps31
    go_wp2_with fail
    refine hcall.mono ?_
    rintro _ w2 ⟨rfl, hk2⟩
    clear hcall
    have hbx := Cb.new #[.int .i64 (x.1 : Int), .string ⟨x.2.toArray⟩, .string ⟨b⟩] 105 w2
    have hk3 := hk2.alloc (.cells #[.int .i64 (x.1 : Int), .string ⟨x.2.toArray⟩, .string ⟨b⟩] 105)
    go_wp2_with fail
    revert hbx hk3
    generalize w2.alloc (.cells #[.int .i64 (x.1 : Int), .string ⟨x.2.toArray⟩, .string ⟨b⟩] 105) = w3
    generalize w2.heap.size = b1
    intro hbx hk3
    have c0' : w3.cell? ⟨b1, 0, none⟩ = some (.int .i64 (x.1 : Int)) := Cb.cell hbx 0
    have c1' : w3.cell? ⟨b1, 1, none⟩ = some (.string ⟨x.2.toArray⟩) := Cb.cell hbx 1
    clear hbx
    go_quiet (fail)
    have hk4 := hk3.drewN
    clear hk3
    go_wp2
    go_ret3
    exact ⟨rfl, hk4 _⟩

end Go.Proofs.YtepgoppgblfjbaaGreatDoor

/- Merkle: two stores side by side; what their calls do. -/
namespace Go.Proofs.YtepgoppgblfjbaaGreatDoor
open Go.RowKit

theorem Str.move {M M' X : Nat → Prop} {w w' : World} {s h o c r t n : Nat} {S : St} {j : List UInt8} {vj : Value} (hs : Str M w s h o c r t n S j vj) (hM : ∀ k, k < w.heap.size → M' k → M k) (hMM : ∀ k, M k → M' k)
    (hk : Kx X w w') (hX : ∀ k, k < w.heap.size → X k → M k) (hF : ∀ k, StX s o c r t vj k → ¬ X k) (hlow : ∀ k, M' k → 7 ≤ k ∧ k < w'.heap.size) : Str M' w' s h o c r t n S j vj :=
  ⟨hs.sto.move hM (fun k e => hMM k (hs.sto.inM k e)) hk (fun k hk e => hMM k (hX k hk e)) (fun k e => hF k (.inr (.inl e))) hlow, hs.jr.kept hk (hF s (.inl rfl)) (fun k e => hF k (.inr (.inr e))), hMM s hs.inS, fun k e => hMM k (hs.inV k e)⟩

theorem put_coOk (xs : List (List UInt8 × Nat)) (hx : ∀ x ∈ xs, Pu.PutOk x ∧ x.1.length ≤ 60) (hn : xs.length ≤ 30) : CoOk (Pu.mkC xs) := by
  refine ⟨by show (0:Int) ≤ 1 ∧ (1:Int) ≤ 999; decide, by show Pu.sMain.length ≤ 1000; decide, by show [65].length ≤ 1000; decide, by show [97].length ≤ 1000; decide, by show (0:Int) ≤ 1 ∧ (1:Int) ≤ 9999999999; decide, by show ([] : List UInt8).length ≤ 1000; decide, ⟨by show (0:Int) ≤ 0 ∧ (0:Int) ≤ 999; decide, by show ([] : List UInt8).length ≤ 1000; decide⟩, ⟨by show 0 ≤ 3; decide, fun x hx => by cases hx⟩, ⟨by show (xs.map Pu.putC).length ≤ 30; rw [List.length_map]; exact hn, fun y hy => ?_⟩⟩
  obtain ⟨x, hxm, rfl⟩ := List.mem_map.1 (show y ∈ xs.map Pu.putC from hy)
  have h2 := dig_len x.2
  exact ⟨by show (0:Int) ≤ 0 ∧ (0:Int) ≤ 999; decide, by show 6 ≤ 20; decide, by show (Pu.dig x.2).length ≤ 1000; omega, (hx x hxm).2, by show 0 ≤ 60; decide⟩

theorem put_strOk (xs : List (List UInt8 × Nat)) (hx : ∀ x ∈ xs, Pu.PutOk x ∧ x.1.length ≤ 60) (hn : xs.length ≤ 30) : StrOk (Pu.mkS xs) := by
  obtain ⟨h1, h2, h3⟩ := Pu.mk_ok xs (fun x h => (hx x h).1) hn
  refine ⟨fun _ => by omega, fun _ => ?_, fun _ => ?_⟩
  · rw [h1]; show 1 ≤ 60; decide
  · rw [h1]
    intro c hc
    obtain rfl := List.mem_singleton.1 hc
    exact put_coOk xs hx hn

theorem record_len2 (KK : List Int) (j s : List UInt8) (hs : s.length ≤ 8000) : (Pd.record KK j s).length ≤ j.length + 8100 := by
  have h1 := Lib.itoa_length_le (s.length : Int) (by omega) (by omega)
  unfold Pd.record Pd.sealOf
  simp only [List.length_append, ofK_len, List.length_cons, List.length_nil]
  omega

/-- A store that holds what main names: these files. -/
structure MkM (S : St) (l : List Fi) : Prop where
  files : mainFiles S = l
  ref : ∀ k, k ≠ Pu.sMain → S.ref k = none
  main : ∃ cm txt r, S.ref Pu.sMain = some cm ∧ S.obj (Sh.hex cm.sum) = some (3, txt) ∧ txt = [116, 114, 101, 101, 32] ++ Sh.hex (Pd.sum Sh.K 2 (Pf.tree Sh.K l).1) ++ [10] ++ r

theorem MkM.step {S : St} (hr : ∀ k, k ≠ Pu.sMain → S.ref k = none) (xs : List (List UInt8 × Nat)) (hx : ∀ x ∈ xs, Pu.PutOk x) (hn : xs.length ≤ 30) (hl : (mainFiles S).length + xs.length ≤ 60) :
    (Pd.imp Sh.K S (Pu.mkS xs)).1 = (1, 0) ∧ MkM (Pd.imp Sh.K S (Pu.mkS xs)).2 (putAll Sh.K (mainFiles S) xs) := by
  obtain ⟨c, txt, hR⟩ := mk_imp Sh.K S xs hx hn hl
  have h1 : mainFiles (Pd.imp Sh.K S (Pu.mkS xs)).2 = putAll Sh.K (mainFiles S) xs := by
    conv => lhs; unfold mainFiles
    rw [hR.ref, upd_same, ← hR.files]
    rfl
  obtain ⟨r, hr'⟩ := hR.txt
  rw [hR.files] at hr'
  refine ⟨hR.ok, h1, fun k hk => ?_, c, txt, r, ?_, hR.obj, hr'⟩
  · rw [hR.ref, upd_other _ _ _ _ hk]; exact hr k hk
  · rw [hR.ref, upd_same]

/-- treeOf: the line that names the tree. -/
def treeL (l : List Fi) : List UInt8 := [116, 114, 101, 101, 32] ++ Sh.hex (Pd.sum Sh.K 2 (Pf.tree Sh.K l).1) ++ [10]

theorem treeL_len (l : List Fi) : (treeL l).length = 70 := by
  unfold treeL
  simp only [List.length_append, hex_len, List.length_cons, List.length_nil]
  rw [show (Pd.sum Sh.K 2 (Pf.tree Sh.K l).1).length = 32 from ofK_len _ _]

set_option maxHeartbeats 800000 in
set_option maxRecDepth 100000 in
theorem treeOf_any {M : Nat → Prop} {w : World} {s h o c r t n : Nat} {S : St} {j : List UInt8} {vj : Value} (hs : Str M w s h o c r t n S j vj) (hn : n ≤ 1000000000) {l : List Fi} (hm : MkM S l) :
    Calls Tryz.prog 29 #[.pointer (some ⟨s, 0, none⟩)] w fun e w' => e = .returned (.string ⟨(treeL l).toArray⟩) ∧ Kx (fun _ => False) w w' := by
  obtain ⟨cm, txt, rr, m1, m2, m3⟩ := hm.main
  have hsum : cm.sum.length = 32 := by
    obtain ⟨fr, _, hF⟩ := hs.sto.ref
    obtain ⟨b, _, hcm⟩ := (hF Pu.sMain).2 cm m1
    exact hcm.sum
  have hidl : (Sh.hex cm.sum).length ≤ maxLen := by rw [hex_len, hsum]; decide
  have hrefs := refs_any' hs hn
  have hid : idAt S.ref Pu.sMain = Sh.hex cm.sum := by unfold idAt; rw [m1]; rfl
  have htl : 70 ≤ txt.length := by
    have := treeL_len l
    have e : txt = treeL l ++ rr := m3
    rw [e, List.length_append]
    omega
  have htk : txt.take 70 = treeL l := by
    have e : txt = treeL l ++ rr := m3
    rw [e, List.take_append_of_le_length (by rw [treeL_len]; omega), List.take_of_length_le (by rw [treeL_len]; omega)]
  have hext := ext_take txt 70
  rw [htk] at hext
  generalize treeL l = TL at *
  have htl2 : ¬ (txt.length : Int) < 70 := by omega
  have htl3 : (70 : Int) ≤ (txt.length : Int) := by omega
  clear htk m3
  go_enter Tryz.func29, Tryz.ntmps29
  go_wp2_with fail
  refine hrefs.mono ?_
  rintro _ w1 ⟨v, ks, rfl, hK, _, hrow, hk1⟩
  clear hrefs
  obtain rfl := Ex.refs (fun k => ⟨fun e => Classical.byContradiction (fun hne => by rw [hm.ref k hne] at e; exact absurd e (by decide)), fun e => (by subst e; rw [m1]; rfl)⟩) hK
  obtain ⟨q, cv, rfl, _, hr⟩ := Reads.of_own hrow
  obtain ⟨g, og, rfl, hcell⟩ := hr (by decide)
  have c1 : w1.cell? ⟨g, og + 1, none⟩ = some (.string ⟨(idAt S.ref Pu.sMain).toArray⟩) := hcell 1 _ rfl
  rw [hid] at c1
  have hs1 := hs.kept hk1 (fun _ _ h => h.elim) (fun _ _ => id)
  have hobj := sobject_any hs1 (Sh.hex cm.sum) hidl
  rw [m2] at hobj
  unfold ObjR at hobj
  simp only at hobj
  clear hrow hcell hr hK hid hidl
  generalize Sh.hex cm.sum = ID at *
  go_wp2_with fail
  refine hobj.mono ?_
  rintro _ w2 ⟨rfl, hk2⟩
  clear hobj
  go_wp2
  go_ret
  exact ⟨rfl, hk1.trans hk2⟩

end Go.Proofs.YtepgoppgblfjbaaGreatDoor

/- What a store tells: Tags. -/
namespace Go.Proofs.YtepgoppgblfjbaaGreatDoor
open Go.RowKit

/-- The id that a tag leads to. -/
def idT (g : List UInt8 → Option (List UInt8)) (k : List UInt8) : List UInt8 := ((g k).map Sh.hex).getD []
def tagC (g : List UInt8 → Option (List UInt8)) (k : List UInt8) : List Value := [.string ⟨k.toArray⟩, .string ⟨(idT g k).toArray⟩]
def tagsV (g : List UInt8 → Option (List UInt8)) (ks : List (List UInt8)) : List Value := ks.flatMap (tagC g)

theorem tagsV_succ (g : List UInt8 → Option (List UInt8)) (l : List (List UInt8)) (k : Nat) (h : k < l.length) : tagsV g (l.take (k + 1)) = tagsV g (l.take k) ++ tagC g l[k] := flat_succ _ _ _ h

theorem tagF_some {M : Nat → Prop} {w : World} {f : List UInt8 → Option Value} {g : List UInt8 → Option (List UInt8)} (h : TagF M w f g) (k : List UInt8) : (f k).isSome = (g k).isSome := by
  cases hg : g k with
  | none => rw [(h k).1 hg]; rfl
  | some c =>
    obtain ⟨b, hb, _⟩ := (h k).2 c hg
    rw [hb]
    rfl

theorem tg_id {M : Nat → Prop} {w : World} {b : Nat} {s : List UInt8} (h : Tg M w b s) : w.cell? ⟨b, 2, none⟩ = some (.string ⟨(Sh.hex s).toArray⟩) := by
  obtain ⟨x, rest, h1, _⟩ := h
  exact Cb.cell h1 2

set_option maxHeartbeats 1600000 in
set_option maxRecDepth 100000 in
theorem htags_any {M : Nat → Prop} {w : World} {h o c r t n : Nat} {S : St} (hs : Sto M w h o c r t n S) (hn : n ≤ 1000000000) :
    Calls Tryz.prog 56 #[.pointer (some ⟨h, 0, none⟩)] w fun e w' => ∃ v ks, e = .returned v ∧ KeyL S.tag ks ∧ ks.length ≤ n ∧ w'.ownsRow w.heap.size 46 2 v ks.length (tagsV S.tag ks) ∧ Kx (fun _ => False) w w' := by
  obtain ⟨i0, hi0, hz0, hz1, hz2⟩ := info_parts info46
  obtain ⟨f, hf, hF⟩ := hs.tag
  have c2 : w.cell? ⟨h, 3, none⟩ = some (.map (some t)) := Cb.cell hs.hi 3
  have hmx : maxLen = 9223372036854775807 := rfl
  have hhl := hs.hi.lt
  have hHi := hs.hi
  go_enter Tryz.func56, Tryz.ntmps56
  go_wp2_with fail
  refine (keys89_any t w).mono ?_
  rintro _ _ ⟨rfl, rfl⟩
  go_wp2_with fail
  refine (sorted89_any hf (by omega)).mono ?_
  rintro _ w2 ⟨v, ks, rfl, hKL, hkl, hrow, hk2⟩
  have hKR := hKL.cast (tagF_some hF)
  obtain ⟨av, cv, hav⟩ : ∃ a c, v = .slice a ks.length c := by
    rcases hrow.2 with ⟨h1, h2⟩ | ⟨g, cap, cur, h1, _⟩
    · exact ⟨none, 0, by rw [h1, h2]⟩
    · exact ⟨_, _, h1⟩
  subst hav
  clear c2
  go_wp2
  go_loopw [13, 3] (fun iv v wr => ∃ (k : Nat), iv = .int .i64 k ∧ k ≤ ks.length ∧ Kx (fun _ => False) w2 wr ∧ wr.ownsRow w2.heap.size 46 2 v k (tagsV S.tag (ks.take k))) (fun iv _ _ => ks.length - (intOf iv).toNat)
  case atStart => exact ⟨0, rfl, by omega, Kx.refl _ _, World.ownsRow_nil _ _ _ _⟩
  case round =>
    obtain ⟨k, rfl, hk, hkx, hown⟩ := hrel
    have hk0 := hk2.trans hkx
    by_cases hlt : k < ks.length
    · have hlt2 : (k : Int) < (ks.length : Int) := by omega
      obtain ⟨g, cap, he, hck⟩ := row_cell (own_kept' hrow hkx (fun _ _ _ => id)) k hlt
      cases he
      have HL : Hid (tagsV S.tag (ks.take (k + 1)) = tagsV S.tag (ks.take k) ++ tagC S.tag ks[k]) := tagsV_succ S.tag ks k hlt
      have hmem := (hKR.mem ks[k]).1 (List.getElem_mem hlt)
      obtain ⟨cm, hcm⟩ := Option.isSome_iff_exists.1 hmem
      obtain ⟨b, hb, hC⟩ := (hF ks[k]).2 cm hcm
      have HI : Hid (tagC S.tag ks[k] = [.string ⟨ks[k].toArray⟩, .string ⟨(Sh.hex cm).toArray⟩]) := by
        show _ = _
        unfold tagC idT
        rw [hcm]
        rfl
      have hidc := (hk0.cell (p := ⟨b, 2, none⟩) (lt_of_cell (p := ⟨b, 2, none⟩) (tg_id hC)) id).trans (tg_id hC)
      have hfr := hf.kept hk0 id
      have c2 : wr.cell? ⟨h, 3, none⟩ = some (.map (some t)) := Cb.cell (hHi.kept hk0 id) 3
      have hlen : ks[k].length ≤ maxLen := hf.keyLen (by kernel_rfl) hb
      clear hcm hmem
      unfold ptrV at hb
      generalize ks[k] = nm at *
      generalize Sh.hex cm = idd at *
      have hgv : (f nm).getD (.pointer none) = .pointer (some ⟨b, 0, none⟩) := by rw [hb]; rfl
      go_wp2_with (first | refine wpList_lookS rfl _ _ 148 rfl 185 (by kernel_rfl) (by kernel_rfl) (.pointer none) (by kernel_rfl) t n f rfl hfr nm rfl hlen ?_ | (at_builtin; refine wpList_append_own _ rfl (.tmp 17) (.tmp 30) 41 rfl w2.heap.size 46 i0 _ 2 32 Tryz.underlying41 hi0 hz0 hz1 hz2 rfl (by decide) _ k (tagsV S.tag (ks.take k)) rfl (hown.alloc _) ⟨wr.heap.size, 0, none⟩ 1 1 [.string ⟨nm.toArray⟩, .string ⟨idd.toArray⟩] rfl rfl ?c1 ?c2 ?c3 ?c4 ?c5 ?_))
      case c1 => exact cells_new wr [.string ⟨nm.toArray⟩, .string ⟨idd.toArray⟩] 46
      case c2 => simp [Value.oneCell']
      case c3 => unfold maxLen; omega
      case c4 => omega
      case c5 => have := hkx.size; simp; omega
      intro v4 w4 hown4 hgrow4 _
      have hk4 : Kx (fun _ => False) w2 w4 := (hkx.alloc _).grown hgrow4 (fun k he => (hown.lt k he).1)
      have hown5 : w4.ownsRow w2.heap.size 46 2 v4 (k + 1) (tagsV S.tag (ks.take (k + 1))) := by rw [HL.out, HI.out]; exact hown4
      clear hown4 hgrow4
      go_wp2
      go_roundw
      case rel => exact ⟨k + 1, by go_num, hlt, hk4, hown5⟩
      case measure => simp [intOf]; omega
    · obtain rfl : k = ks.length := by omega
      have hlt2 : ¬ (ks.length : Int) < (ks.length : Int) := by omega
      rw [List.take_of_length_le (Nat.le_refl _)] at hown
      go_wp2
      go_ret
      exact ⟨_, rfl, ks, hKR, hkl, own_mono hown hk2.size, hk0⟩

theorem tags_any {M : Nat → Prop} {w : World} {s h o c r t n : Nat} {S : St} {j : List UInt8} {vj : Value} (hs : Str M w s h o c r t n S j vj) (hn : n ≤ 1000000000) :
    Calls Tryz.prog 32 #[.pointer (some ⟨s, 0, none⟩)] w fun e w' => ∃ v ks, e = .returned v ∧ KeyL S.tag ks ∧ ks.length ≤ n ∧ w'.ownsRow w.heap.size 46 2 v ks.length (tagsV S.tag ks) ∧ Kx (fun _ => False) w w' := by
  have c0 : w.cell? ⟨s, 0, none⟩ = some (.pointer (some ⟨h, 0, none⟩)) := Cb.cell hs.jr.blk 0
  have hc := htags_any hs.sto hn
  go_enter Tryz.func32, Tryz.ntmps32
  go_wp2_with fail
  refine hc.mono ?_
  rintro _ w2 ⟨v, ks, rfl, h1, h2, h3, h4⟩
  clear hc
  go_wp2
  go_ret
  exact ⟨v, ks, rfl, h1, h2, h3, h4⟩

end Go.Proofs.YtepgoppgblfjbaaGreatDoor
