import Derived.Test.YtepgoppgblfjbaaGreatDoorGw06
namespace Go.Proofs.YtepgoppgblfjbaaGreatDoor
open Go.RowKit

structure Fi where
  (path mode sum : List UInt8)

def Fi.cells (f : Fi) : List Value := [.string ⟨f.path.toArray⟩, .string ⟨f.mode.toArray⟩, .string ⟨(Sh.hex f.sum).toArray⟩]

def cellsF (l : List Fi) : List Value := l.flatMap Fi.cells

theorem cellsF_len (l : List Fi) : (cellsF l).length = l.length * 3 := by
  induction l with
  | nil => rfl
  | cons a r ih => simp [cellsF, Fi.cells] at *; omega

theorem cellsF_at (l : List Fi) (k : Nat) (f : Fi) (h : l[k]? = some f) : ∀ j x, f.cells[j]? = some x → (cellsF l)[3 * k + j]? = some x := by
  induction l generalizing k with
  | nil => simp at h
  | cons a r ih =>
    intro j x hx
    have hj : j < 3 := (List.getElem?_eq_some_iff.1 hx).1
    cases k with
    | zero =>
      simp at h; subst h
      rw [show cellsF (a :: r) = a.cells ++ cellsF r from rfl, Nat.mul_zero, Nat.zero_add, List.getElem?_append_left (by simpa [Fi.cells] using hj)]
      exact hx
    | succ k =>
      have := ih k (by simpa using h) j x hx
      rw [show cellsF (a :: r) = a.cells ++ cellsF r from rfl, List.getElem?_append_right (by simp [Fi.cells]; omega)]
      have e : 3 * (k + 1) + j - a.cells.length = 3 * k + j := by simp [Fi.cells]; omega
      rw [e]; exact this

theorem cellsF_app (a b : List Fi) : cellsF (a ++ b) = cellsF a ++ cellsF b := by simp [cellsF]

def Fs (w : World) (v : Value) (l : List Fi) : Prop :=
  ∃ q c, v = .slice q l.length c ∧ l.length ≤ c ∧ (l ≠ [] → ∃ g o, q = some ⟨g, o, none⟩ ∧ ∀ k x, (cellsF l)[k]? = some x → w.cell? ⟨g, o + k, none⟩ = some x) ∧ (q = none → c = 0)

theorem Fs.kept {w w' : World} {v : Value} {l : List Fi} {X : Nat → Prop} (h : Fs w v l) (hk : Kx X w w') (hX : ∀ k, v.ownBlock = some k → ¬ X k) : Fs w' v l := by
  obtain ⟨q, c, rfl, hc, hr, hz⟩ := h
  refine ⟨q, c, rfl, hc, fun hne => ?_, hz⟩
  obtain ⟨g, o, rfl, hcell⟩ := hr hne
  refine ⟨g, o, rfl, fun k x hx => ?_⟩
  have := hcell k x hx
  rw [hk.cell (p := ⟨g, o + k, none⟩) (lt_of_cell (p := ⟨g, o + k, none⟩) this) (hX g rfl)]
  exact this

theorem Fs.file {w : World} {v : Value} {l : List Fi} (h : Fs w v l) (k : Nat) (hk : k < l.length) : ∃ g o c, v = .slice (some ⟨g, o, none⟩) l.length c ∧
    w.cell? ⟨g, o + 3 * k, none⟩ = some (.string ⟨l[k].path.toArray⟩) ∧ w.cell? ⟨g, o + 3 * k + 1, none⟩ = some (.string ⟨l[k].mode.toArray⟩) ∧ w.cell? ⟨g, o + 3 * k + 2, none⟩ = some (.string ⟨(Sh.hex l[k].sum).toArray⟩) := by
  obtain ⟨q, c, rfl, hc, hr, _⟩ := h
  obtain ⟨g, o, rfl, hcell⟩ := hr (fun e => by rw [e] at hk; simp at hk)
  have hat := cellsF_at l k l[k] (List.getElem?_eq_getElem hk)
  refine ⟨g, o, c, rfl, hcell _ _ (hat 0 _ rfl), ?_, ?_⟩
  · rw [Nat.add_assoc]; exact hcell _ _ (hat 1 _ rfl)
  · rw [Nat.add_assoc]; exact hcell _ _ (hat 2 _ rfl)

theorem Fs.of_own {w : World} {base n : Nat} {v : Value} {l : List Fi} (h : w.ownsRow base 114 3 v n (cellsF l)) : Fs w v l := by
  have hn : n = l.length := by have := h.1; rw [cellsF_len] at this; omega
  subst hn
  rcases h.2 with ⟨rfl, h0⟩ | ⟨g, cap, cur, rfl, hb, hg, hc, hm, hs, ht⟩
  · refine ⟨none, 0, by rw [h0], by omega, fun hne => ?_, fun _ => rfl⟩
    exact absurd (List.eq_nil_of_length_eq_zero h0) hne
  · refine ⟨_, _, rfl, hc, fun _ => ⟨g, 0, rfl, fun k x hx => ?_⟩, fun h => by cases h⟩
    have hk : k < l.length * 3 := by
      have := (List.getElem?_eq_some_iff.1 hx).1
      rw [cellsF_len] at this; exact this
    rw [← ht, List.getElem?_take_of_lt hk] at hx
    rw [Nat.zero_add]
    unfold World.cell?
    rw [hg]
    simpa using hx

namespace Pf
def below (head : List UInt8) : List Fi → List Fi
  | [] => []
  | f :: r => if Lib.hasPrefix f.path head then { f with path := Lib.trimPrefix f.path head } :: below head r else []
end Pf

theorem info105 : (Tryz.prog.info? 114).map (fun i => (i.zero, i.size, i.bytes)) = some (some (.agg #[.string ⟨#[]⟩, .string ⟨#[]⟩, .string ⟨#[]⟩]), 3, 48) := by kernel_rfl

theorem below_take (head : List UInt8) (l : List Fi) (k : Nat) (hk : k < l.length) (h : ∀ j (hj : j < k), Lib.hasPrefix (l[j]'(by omega)).path head = true) :
    (Lib.hasPrefix l[k].path head = false → Pf.below head l = Pf.below head (l.take k)) ∧
    (Lib.hasPrefix l[k].path head = true → Pf.below head (l.take (k + 1)) = Pf.below head (l.take k) ++ [{ l[k] with path := Lib.trimPrefix l[k].path head }]) := by
  induction l generalizing k with
  | nil => simp at hk
  | cons a r ih =>
    cases k with
    | zero =>
      refine ⟨fun e => ?_, fun e => ?_⟩
      · simp at e; simp [Pf.below, e]
      · simp at e; simp [Pf.below, e]
    | succ k =>
      have h0 : Lib.hasPrefix a.path head = true := h 0 (by omega)
      have := ih k (by simpa using hk) (fun j hj => h (j + 1) (by omega))
      refine ⟨fun e => ?_, fun e => ?_⟩
      · simp only [List.take_succ_cons, Pf.below, h0, if_true]
        rw [this.1 (by simpa using e)]
      · simp only [List.take_succ_cons, Pf.below, h0, if_true]
        rw [this.2 (by simpa using e)]
        rfl

set_option maxHeartbeats 800000 in
set_option maxRecDepth 100000 in
theorem below_any (l : List Fi) (head : List UInt8) (v : Value) (w : World) (hF : Fs w v l) (hl : l.length ≤ 1000) :
    Calls Tryz.prog 298 #[v, .string ⟨head.toArray⟩] w fun e w' => (∃ v', e = .returned v' ∧ w'.ownsRow w.heap.size 114 3 v' (Pf.below head l).length (cellsF (Pf.below head l))) ∧ Kx (fun _ => False) w w' := by
  obtain ⟨i0, hi, hz0, hz1, hz2⟩ := info_parts info105
  obtain ⟨q, c, hv, hc, _⟩ := id hF
  subst hv
  go_enter Tryz.func298, Tryz.ntmps298
  go_wp2
  go_loopw [12, 5] (fun iv v w' => ∃ (k : Nat), iv = .int .i64 k ∧ k ≤ l.length ∧ (∀ j (hj : j < k) (hj2 : j < l.length), Lib.hasPrefix l[j].path head = true) ∧ Kx (fun _ => False) w w' ∧ w'.ownsRow w.heap.size 114 3 v k (cellsF (Pf.below head (l.take k)))) (fun iv _ _ => l.length - (intOf iv).toNat)
  case atStart => exact ⟨0, rfl, by omega, fun j hj => by omega, Kx.refl _ _, World.ownsRow_nil _ _ _ _⟩
  case round =>
    obtain ⟨k, rfl, hk, hpre, hkx, hown⟩ := hrel
    by_cases hlt : k < l.length
    · have hlt2 : (k : Int) < (l.length : Int) := by omega
      have hFr := hF.kept hkx (fun _ _ => id)
      obtain ⟨g, o, c', he, p0, p1, p2⟩ := hFr.file k hlt
      cases he
      have hbt := below_take head l k hlt (fun j hj => hpre j hj (by omega))
      have e0 : o + k * 3 = o + 3 * k := by omega
      have HA : Hid (Lib.hasPrefix l[k].path head = false → Pf.below head l = Pf.below head (l.take k)) := hbt.1
      have HB : Hid (Lib.hasPrefix l[k].path head = true → Pf.below head (l.take (k + 1)) = Pf.below head (l.take k) ++ [{ l[k] with path := Lib.trimPrefix l[k].path head }]) := hbt.2
      have HC : Hid (Lib.hasPrefix l[k].path head = true → ∀ j (hj : j < k + 1) (hj2 : j < l.length), Lib.hasPrefix l[j].path head = true) := by
        intro hp j hj hj2
        rcases Nat.lt_or_ge j k with h | h
        · exact hpre j h hj2
        · obtain rfl : j = k := by omega
          exact hp
      clear hbt hpre
      generalize l[k] = f at *
      obtain ⟨fp, fm, fs⟩ := f
      simp only at p0 p1 p2 HA HB HC
      go_wp2_with fail
      refine (cutPrefix_any fp head _).mono ?_
      rintro _ w2 ⟨rfl, hw2⟩
      rw [hw2]
      clear hw2 w2
      have hkA := hkx.alloc (.cells #[.string ⟨fp.toArray⟩, .string ⟨fm.toArray⟩, .string ⟨(Sh.hex fs).toArray⟩] 114)
      have hoA := hown.alloc (.cells #[.string ⟨fp.toArray⟩, .string ⟨fm.toArray⟩, .string ⟨(Sh.hex fs).toArray⟩] 114)
      cases hp : Lib.hasPrefix fp head
      · have HAA : Hid (Pf.below head l = Pf.below head (l.take k)) := HA.out hp
        have hnl : k = (Pf.below head (l.take k)).length := by have := hown.1; rw [cellsF_len] at this; omega
        have HNL : Hid (k = (Pf.below head (l.take k)).length) := hnl
        clear HA HB HC hnl
        clear hp
        go_wp2
        go_ret
        refine ⟨⟨_, rfl, ?_⟩, hkA⟩
        rw [HAA.out, ← HNL.out]
        exact hoA
      · have HBB : Hid (Pf.below head (l.take (k + 1)) = Pf.below head (l.take k) ++ [⟨Lib.trimPrefix fp head, fm, fs⟩]) := HB.out hp
        have HCC := HC.out hp
        have HCD : Hid (∀ j (hj : j < k + 1) (hj2 : j < l.length), Lib.hasPrefix l[j].path head = true) := HCC
        clear HA HB HC HCC hp
        generalize Lib.trimPrefix fp head = np at *
        go_wp2_with (at_builtin; refine wpList_append_own _ rfl (.tmp 27) (.tmp 29) 107 rfl w.heap.size 114 i0 _ 3 48 Tryz.underlying107 hi hz0 hz1 hz2 rfl (by decide) _ k (cellsF (Pf.below head (l.take k))) rfl ?c0 ⟨wr.heap.size + 1, 0, none⟩ 1 1 [.string ⟨np.toArray⟩, .string ⟨fm.toArray⟩, .string ⟨(Sh.hex fs).toArray⟩] rfl rfl ?c1 ?c2 ?c3 ?c4 ?c5 ?_)
        case c0 => exact (hown.alloc _).alloc _
        case c1 =>
          have h := cells_new (wr.alloc (.cells #[.string ⟨np.toArray⟩, .string ⟨fm.toArray⟩, .string ⟨(Sh.hex fs).toArray⟩] 114)) [.string ⟨np.toArray⟩, .string ⟨fm.toArray⟩, .string ⟨(Sh.hex fs).toArray⟩] 114
          rw [World.size_alloc] at h
          exact h
        case c2 => simp [Value.oneCell']
        case c3 => unfold maxLen; omega
        case c4 => omega
        case c5 => have := hkx.size; simp; omega
        intro v4 w4 hown4 hgrow4 _
        have hk4 : Kx (fun _ => False) w w4 := ((hkx.alloc _).alloc _).grown hgrow4 (fun k he => (hown.lt k he).1)
        have hown4' : w4.ownsRow w.heap.size 114 3 v4 (k + 1) (cellsF (Pf.below head (l.take (k + 1)))) := by
          rw [HBB.out, cellsF_app]; exact hown4
        clear hown4 hgrow4
        go_wp2
        go_roundw
        case rel => exact ⟨k + 1, by go_num, hlt, HCD.out, hk4, hown4'⟩
        case measure => simp [intOf]; omega
    · obtain rfl : k = l.length := by omega
      have hlt2 : ¬ (l.length : Int) < (l.length : Int) := by omega
      rw [List.take_of_length_le (Nat.le_refl _)] at hown
      have hnl : (Pf.below head l).length = l.length := by have := hown.1; rw [cellsF_len] at this; omega
      go_wp2
      go_ret
      exact ⟨⟨_, rfl, hown⟩, hkx⟩

mutual
inductive Tr
  | mk (c : List UInt8) (ws : Trs)
inductive Trs
  | nil
  | cons (t : Tr) (r : Trs)
end

def Trs.app : Trs → Trs → Trs
  | .nil, b => b
  | .cons t r, b => .cons t (r.app b)

theorem Trs.app_nil : ∀ a : Trs, a.app .nil = a
  | .nil => rfl
  | .cons t r => by simp only [Trs.app]; rw [Trs.app_nil r]

theorem Trs.app_assoc : ∀ a b c : Trs, (a.app b).app c = a.app (b.app c)
  | .nil, _, _ => rfl
  | .cons t r, b, c => by simp only [Trs.app]; rw [Trs.app_assoc r b c]

namespace Pf
def entry (mode name sum : List UInt8) : List UInt8 := mode ++ 32 :: (name ++ [0]) ++ sum

def treeF (KK : List Int) : Nat → List Fi → List UInt8 × Trs
  | 0, _ => ([], .nil)
  | _ + 1, [] => ([], .nil)
  | n + 1, f :: r =>
    if (Lib.cut f.path [47]).2.2 then
      let inside := below ((Lib.cut f.path [47]).1 ++ [47]) (f :: r)
      let t := treeF KK n inside
      let rest := treeF KK n ((f :: r).drop inside.length)
      (entry [52, 48, 48, 48, 48] (Lib.cut f.path [47]).1 (Sh.ofK KK (Sh.text 2 t.1)) ++ rest.1, .cons (.mk t.1 t.2) rest.2)
    else
      let rest := treeF KK n r
      (entry f.mode (Lib.cut f.path [47]).1 f.sum ++ rest.1, rest.2)

def weight : List Fi → Nat
  | [] => 0
  | f :: r => f.path.length + 1 + weight r
end Pf

theorem cut_true {s : List UInt8} (h : (Lib.cut s [47]).2.2 = true) : Lib.hasPrefix s ((Lib.cut s [47]).1 ++ [47]) = true := by
  unfold Lib.cut at h ⊢
  split at h
  · rename_i h0
    rw [if_pos h0]
    rcases Lib.index_spec s [47] with ⟨h1, _⟩ | ⟨i, h1, h2, h3, _⟩
    · omega
    · simp only
      rw [h1, Int.toNat_natCast]
      have h4 := Lib.occAt_head (s := s) (sub := [47]) rfl h3
      unfold Lib.hasPrefix
      rw [List.isPrefixOf_iff_prefix]
      refine ⟨s.drop (i + 1), ?_⟩
      obtain ⟨hi, he⟩ := List.getElem?_eq_some_iff.1 h4
      rw [List.append_assoc, List.singleton_append, ← he, List.getElem_cons_drop, List.take_append_drop]
  · cases h

theorem below_weight (head : List UInt8) (hh : head ≠ []) : ∀ l : List Fi, Pf.weight (Pf.below head l) + (Pf.below head l).length ≤ Pf.weight l
  | [] => by simp [Pf.below, Pf.weight]
  | f :: r => by
    have ih := below_weight head hh r
    unfold Pf.below
    split
    · rename_i hp
      have hl : head.length ≤ f.path.length := by
        unfold Lib.hasPrefix at hp
        rw [List.isPrefixOf_iff_prefix] at hp
        exact hp.length_le
      have h0 : 0 < head.length := List.length_pos_iff.2 hh
      simp only [Pf.weight, Lib.trimPrefix, hp, if_true, List.length_drop, List.length_cons]
      omega
    · simp [Pf.weight]

theorem below_le (head : List UInt8) : ∀ l : List Fi, (Pf.below head l).length ≤ l.length
  | [] => by simp [Pf.below]
  | f :: r => by
    have ih := below_le head r
    unfold Pf.below
    split <;> simp; omega

theorem drop_weight : ∀ (l : List Fi) (n : Nat), 0 < n → l ≠ [] → Pf.weight (l.drop n) < Pf.weight l
  | [], _, _, h => absurd rfl h
  | f :: r, n + 1, _, _ => by
    have h : ∀ (l : List Fi) (n : Nat), Pf.weight (l.drop n) ≤ Pf.weight l := by
      intro l
      induction l with
      | nil => intro n; simp
      | cons a b ih =>
        intro n
        cases n with
        | zero => simp
        | succ n => have := ih n; simp [Pf.weight] at *; omega
    have := h r n
    simp [Pf.weight] at *; omega

theorem below_cons (f : Fi) (r : List Fi) (h : (Lib.cut f.path [47]).2.2 = true) : 0 < (Pf.below ((Lib.cut f.path [47]).1 ++ [47]) (f :: r)).length := by
  unfold Pf.below
  rw [if_pos (cut_true h)]
  simp

def Fine (l : List Fi) : Prop := ∀ f ∈ l, f.sum.length = 32 ∧ f.path.length ≤ 100 ∧ f.mode.length ≤ 20

theorem Fine.below {head : List UInt8} : ∀ {l : List Fi}, Fine l → Fine (Pf.below head l)
  | [], _ => by simp [Pf.below, Fine]
  | f :: r, h => by
    have hr : Fine (Pf.below head r) := Fine.below (fun x hx => h x (List.mem_cons_of_mem _ hx))
    unfold Pf.below
    split
    · intro x hx
      rcases List.mem_cons.1 hx with rfl | hx
      · have := h f (by simp)
        refine ⟨this.1, ?_, this.2.2⟩
        have h2 : (Lib.trimPrefix f.path head).length ≤ f.path.length := by unfold Lib.trimPrefix; split <;> simp
        exact Nat.le_trans h2 this.2.1
      · exact hr x hx
    · intro x hx; cases hx

theorem Fine.drop {l : List Fi} (h : Fine l) (n : Nat) : Fine (l.drop n) := fun x hx => h x (List.mem_of_mem_drop hx)

theorem cut_len (s : List UInt8) : (Lib.cut s [47]).1.length ≤ s.length := by
  unfold Lib.cut
  split
  · simp; omega
  · simp

theorem ofK_len (KK : List Int) (t : List UInt8) : (Sh.ofK KK t).length = 32 := digest_len _ _

theorem treeF_len (KK : List Int) : ∀ (n : Nat) (l : List Fi), Fine l → (Pf.treeF KK n l).1.length ≤ 300 * l.length
  | 0, _, _ => by simp [Pf.treeF]
  | _ + 1, [], _ => by simp [Pf.treeF]
  | n + 1, f :: r, h => by
    have hf := h f (by simp)
    have hcl := cut_len f.path
    unfold Pf.treeF
    split
    · rename_i hc
      have hb := below_cons f r hc
      have := treeF_len KK n ((f :: r).drop (Pf.below ((Lib.cut f.path [47]).1 ++ [47]) (f :: r)).length) (h.drop _)
      simp only [List.length_append, Pf.entry, List.length_cons, List.length_nil, ofK_len, List.length_drop] at this ⊢
      omega
    · have := treeF_len KK n r (fun x hx => h x (List.mem_cons_of_mem _ hx))
      simp only [List.length_append, Pf.entry, List.length_cons, List.length_nil] at this ⊢
      omega

def PtrRow (w : World) (v : Value) (ps : List Nat) : Prop := OwnB w 0 324 v (ps.map fun p => .pointer (some ⟨p, 0, none⟩))

mutual
def IsTr (KK : List Int) (w : World) : Tr → Nat → List Nat → Prop
  | .mk c ws, p, bs => ∃ v ps, Cb p #[.int .i64 2, .string ⟨c.toArray⟩, .string ⟨(Sh.idK KK 2 c).toArray⟩, v] 391 w ∧ PtrRow w v ps ∧ IsTrs KK w ws ps bs ∧ p ∈ bs ∧ ∀ k, v.ownBlock = some k → k ∈ bs
def IsTrs (KK : List Int) (w : World) : Trs → List Nat → List Nat → Prop
  | .nil, ps, _ => ps = []
  | .cons t r, ps, bs => ∃ p ps', ps = p :: ps' ∧ IsTr KK w t p bs ∧ IsTrs KK w r ps' bs
end

theorem PtrRow.kept {w w' : World} {v : Value} {ps : List Nat} {X : Nat → Prop} (h : PtrRow w v ps) (hk : Kx X w w') (hX : ∀ k, v.ownBlock = some k → ¬ X k) : PtrRow w' v ps :=
  OwnB.kept h hk (fun k _ e => hX k e)

mutual
theorem IsTr.kept {KK : List Int} {w w' : World} {X : Nat → Prop} (hk : Kx X w w') : ∀ {t : Tr} {p : Nat} {bs : List Nat}, IsTr KK w t p bs → (∀ k ∈ bs, ¬ X k) → IsTr KK w' t p bs
  | .mk c ws, p, bs, h, hX => by
    unfold IsTr at h ⊢
    obtain ⟨v, ps, h1, h2, h3, h4, h5⟩ := h
    exact ⟨v, ps, h1.kept hk (hX p h4), h2.kept hk (fun k e => hX k (h5 k e)), IsTrs.kept hk h3 hX, h4, h5⟩
theorem IsTrs.kept {KK : List Int} {w w' : World} {X : Nat → Prop} (hk : Kx X w w') : ∀ {t : Trs} {ps : List Nat} {bs : List Nat}, IsTrs KK w t ps bs → (∀ k ∈ bs, ¬ X k) → IsTrs KK w' t ps bs
  | .nil, ps, bs, h, _ => by unfold IsTrs at h ⊢; exact h
  | .cons t r, ps, bs, h, hX => by
    unfold IsTrs at h ⊢
    obtain ⟨p, ps', rfl, h1, h2⟩ := h
    exact ⟨p, ps', rfl, IsTr.kept hk h1 hX, IsTrs.kept hk h2 hX⟩
end

mutual
theorem IsTr.mono {KK : List Int} {w : World} {bs bs' : List Nat} (hb : ∀ k ∈ bs, k ∈ bs') : ∀ {t : Tr} {p : Nat}, IsTr KK w t p bs → IsTr KK w t p bs'
  | .mk c ws, p, h => by
    unfold IsTr at h ⊢
    obtain ⟨v, ps, h1, h2, h3, h4, h5⟩ := h
    exact ⟨v, ps, h1, h2, IsTrs.mono hb h3, hb p h4, fun k e => hb k (h5 k e)⟩
theorem IsTrs.mono {KK : List Int} {w : World} {bs bs' : List Nat} (hb : ∀ k ∈ bs, k ∈ bs') : ∀ {t : Trs} {ps : List Nat}, IsTrs KK w t ps bs → IsTrs KK w t ps bs'
  | .nil, ps, h => by unfold IsTrs at h ⊢; exact h
  | .cons t r, ps, h => by
    unfold IsTrs at h ⊢
    obtain ⟨p, ps', rfl, h1, h2⟩ := h
    exact ⟨p, ps', rfl, IsTr.mono hb h1, IsTrs.mono hb h2⟩
end

theorem IsTrs.snoc {KK : List Int} {w : World} {bs : List Nat} {x : Tr} {p : Nat} (hx : IsTr KK w x p bs) : ∀ {t : Trs} {ps : List Nat}, IsTrs KK w t ps bs → IsTrs KK w (t.app (.cons x .nil)) (ps ++ [p]) bs
  | .nil, ps, h => by
    unfold IsTrs at h
    subst h
    show IsTrs KK w (.cons x .nil) [p] bs
    unfold IsTrs
    exact ⟨p, [], rfl, hx, by unfold IsTrs; rfl⟩
  | .cons t r, ps, h => by
    unfold IsTrs at h
    obtain ⟨q, ps', rfl, h1, h2⟩ := h
    show IsTrs KK w (.cons t (r.app (.cons x .nil))) (q :: (ps' ++ [p])) bs
    unfold IsTrs
    exact ⟨q, ps' ++ [p], rfl, h1, IsTrs.snoc hx h2⟩

theorem treeF_dir (KK : List Int) (n : Nat) (f : Fi) (r : List Fi) (h : (Lib.cut f.path [47]).2.2 = true) :
    Pf.treeF KK (n + 1) (f :: r) = (Pf.entry [52, 48, 48, 48, 48] (Lib.cut f.path [47]).1 (Sh.ofK KK (Sh.text 2 (Pf.treeF KK n (Pf.below ((Lib.cut f.path [47]).1 ++ [47]) (f :: r))).1)) ++ (Pf.treeF KK n ((f :: r).drop (Pf.below ((Lib.cut f.path [47]).1 ++ [47]) (f :: r)).length)).1,
      .cons (.mk (Pf.treeF KK n (Pf.below ((Lib.cut f.path [47]).1 ++ [47]) (f :: r))).1 (Pf.treeF KK n (Pf.below ((Lib.cut f.path [47]).1 ++ [47]) (f :: r))).2) (Pf.treeF KK n ((f :: r).drop (Pf.below ((Lib.cut f.path [47]).1 ++ [47]) (f :: r)).length)).2) := by
  rw [Pf.treeF, if_pos h]

theorem treeF_file (KK : List Int) (n : Nat) (f : Fi) (r : List Fi) (h : (Lib.cut f.path [47]).2.2 = false) :
    Pf.treeF KK (n + 1) (f :: r) = (Pf.entry f.mode (Lib.cut f.path [47]).1 f.sum ++ (Pf.treeF KK n r).1, (Pf.treeF KK n r).2) := by
  rw [Pf.treeF, if_neg (by rw [h]; simp)]

theorem treeF_eq (KK : List Int) : ∀ (n m : Nat) (l : List Fi), Pf.weight l ≤ n → Pf.weight l ≤ m → Pf.treeF KK n l = Pf.treeF KK m l
  | 0, m, [], _, _ => by cases m <;> simp [Pf.treeF]
  | 0, _, f :: r, h, _ => by simp [Pf.weight] at h
  | n + 1, 0, [], _, _ => by simp [Pf.treeF]
  | n + 1, 0, f :: r, _, h => by simp [Pf.weight] at h
  | n + 1, m + 1, [], _, _ => by simp [Pf.treeF]
  | n + 1, m + 1, f :: r, hn, hm => by
    cases hc : (Lib.cut f.path [47]).2.2
    · have : Pf.weight r < Pf.weight (f :: r) := by simp [Pf.weight]
      rw [treeF_file KK n f r hc, treeF_file KK m f r hc, treeF_eq KK n m r (by omega) (by omega)]
    · have hb := below_cons f r hc
      have hw := below_weight ((Lib.cut f.path [47]).1 ++ [47]) (by simp) (f :: r)
      have hd := drop_weight (f :: r) _ hb (by simp)
      rw [treeF_dir KK n f r hc, treeF_dir KK m f r hc, treeF_eq KK n m (Pf.below ((Lib.cut f.path [47]).1 ++ [47]) (f :: r)) (by omega) (by omega),
        treeF_eq KK n m ((f :: r).drop (Pf.below ((Lib.cut f.path [47]).1 ++ [47]) (f :: r)).length) (by omega) (by omega)]

def Pf.tree (KK : List Int) (l : List Fi) : List UInt8 × Trs := Pf.treeF KK (Pf.weight l) l

theorem tree_nil (KK : List Int) : Pf.tree KK [] = ([], .nil) := rfl

theorem tree_file (KK : List Int) (f : Fi) (r : List Fi) (h : (Lib.cut f.path [47]).2.2 = false) :
    Pf.tree KK (f :: r) = (Pf.entry f.mode (Lib.cut f.path [47]).1 f.sum ++ (Pf.tree KK r).1, (Pf.tree KK r).2) := by
  have hw : Pf.weight (f :: r) = (f.path.length + Pf.weight r) + 1 := by simp [Pf.weight]; omega
  unfold Pf.tree
  rw [hw, treeF_file KK _ f r h, treeF_eq KK (f.path.length + Pf.weight r) (Pf.weight r) r (by omega) (by omega)]

theorem tree_dir (KK : List Int) (f : Fi) (r inside : List Fi) (h : (Lib.cut f.path [47]).2.2 = true) (hi : Pf.below ((Lib.cut f.path [47]).1 ++ [47]) (f :: r) = inside) :
    Pf.tree KK (f :: r) = (Pf.entry [52, 48, 48, 48, 48] (Lib.cut f.path [47]).1 (Sh.ofK KK (Sh.text 2 (Pf.tree KK inside).1)) ++ (Pf.tree KK ((f :: r).drop inside.length)).1, .cons (.mk (Pf.tree KK inside).1 (Pf.tree KK inside).2) (Pf.tree KK ((f :: r).drop inside.length)).2) := by
  subst hi
  have hb := below_cons f r h
  have hw := below_weight ((Lib.cut f.path [47]).1 ++ [47]) (by simp) (f :: r)
  have hd := drop_weight (f :: r) _ hb (by simp)
  have hwe : Pf.weight (f :: r) = (f.path.length + Pf.weight r) + 1 := by simp [Pf.weight]; omega
  unfold Pf.tree
  rw [hwe, treeF_dir KK _ f r h, treeF_eq KK (f.path.length + Pf.weight r) (Pf.weight (Pf.below ((Lib.cut f.path [47]).1 ++ [47]) (f :: r))) (Pf.below ((Lib.cut f.path [47]).1 ++ [47]) (f :: r)) (by omega) (by omega),
    treeF_eq KK (f.path.length + Pf.weight r) (Pf.weight ((f :: r).drop (Pf.below ((Lib.cut f.path [47]).1 ++ [47]) (f :: r)).length)) ((f :: r).drop (Pf.below ((Lib.cut f.path [47]).1 ++ [47]) (f :: r)).length) (by omega) (by omega)]

theorem tree_len (KK : List Int) (l : List Fi) (h : Fine l) : (Pf.tree KK l).1.length ≤ 300 * l.length := treeF_len KK _ l h

structure TI (KK : List Int) (w : World) (T b : Nat) (c : List UInt8) (ws : Trs) (g : Option Nat) (vW : Value) (ps bs : List Nat) (w' : World) : Prop where
  tb : w.heap.size ≤ T ∧ T < b
  bd : Bd b c g w'
  cb : Cb T #[.int .i64 0, .string ⟨#[]⟩, .string ⟨#[]⟩, vW] 391 w'
  row : PtrRow w' vW ps
  trs : IsTrs KK w' ws ps bs
  dis : ∀ k ∈ bs, b < k ∧ k < w'.heap.size ∧ g ≠ some k ∧ vW.ownBlock ≠ some k
  dg : ∀ k, g = some k → b < k ∧ vW.ownBlock ≠ some k
  dv : ∀ k, vW.ownBlock = some k → b < k
  kx : Kx (fun _ => False) w w'

theorem TI.keep {KK : List Int} {w : World} {T b : Nat} {c : List UInt8} {ws : Trs} {g : Option Nat} {vW : Value} {ps bs : List Nat} {w' w'' : World} (h : TI KK w T b c ws g vW ps bs w') (hk : Kx (fun _ => False) w' w'') : TI KK w T b c ws g vW ps bs w'' :=
  ⟨h.tb, h.bd.kept hk id (fun _ _ => id), h.cb.kept hk id, h.row.kept hk (fun _ _ => id), h.trs.kept hk (fun _ _ => id), fun k hk' => let ⟨a, b', c', d⟩ := h.dis k hk'; ⟨a, Nat.lt_of_lt_of_le b' hk.size, c', d⟩, h.dg, h.dv, h.kx.trans hk⟩

theorem TI.write {KK : List Int} {w : World} {T b : Nat} {c c' : List UInt8} {ws : Trs} {g g' : Option Nat} {vW : Value} {ps bs : List Nat} {w' w'' : World} (h : TI KK w T b c ws g vW ps bs w') (hb : Bd b c' g' w'')
    (hg : g' = g ∨ ∃ k, g' = some k ∧ w'.heap.size ≤ k) (hk : Kx (BdX b g) w' w'') : TI KK w T b c' ws g' vW ps bs w'' := by
  have hvl : ∀ k, vW.ownBlock = some k → k < w'.heap.size := fun k hk => (OwnB.lt h.row k hk).2
  have hbl := h.bd.lt
  have hnb : ∀ k ∈ bs, ¬ BdX b g k := fun k hk e => by
    obtain ⟨d1, _, d3, _⟩ := h.dis k hk
    rcases e with e | e
    · omega
    · exact d3 e.symm
  refine ⟨h.tb, hb, h.cb.kept hk ?_, h.row.kept hk ?_, h.trs.kept hk hnb, fun k hk' => ?_, fun k hk' => ?_, h.dv, h.kx.join hk (fun j hj e => ?_)⟩
  · intro e
    rcases e with e | e
    · have := h.tb; omega
    · have := (h.dg T e.symm).1; have := h.tb; omega
  · intro k hk' e
    rcases e with e | e
    · have := h.dv k hk'; omega
    · exact (h.dg k e.symm).2 hk'
  · obtain ⟨d1, d2, d3, d4⟩ := h.dis k hk'
    refine ⟨d1, Nat.lt_of_lt_of_le d2 hk.size, ?_, d4⟩
    rcases hg with rfl | ⟨j, rfl, hj⟩
    · exact d3
    · intro e; have := Option.some.inj e; omega
  · rcases hg with rfl | ⟨j, rfl, hj⟩
    · exact h.dg k hk'
    · have hjk := Option.some.inj hk'
      refine ⟨by omega, fun e => ?_⟩
      have := hvl k e; omega
  · have := h.tb
    rcases e with e | e
    · omega
    · have := (h.dg j e.symm).1; omega

theorem TI.add {KK : List Int} {w : World} {T b : Nat} {c : List UInt8} {ws : Trs} {g : Option Nat} {vW v4 : Value} {ps bs bs' : List Nat} {w3 w4 : World} {x : Tr} {p : Nat} (h : TI KK w T b c ws g vW ps bs w3) (hx : IsTr KK w3 x p bs')
    (hb : ∀ k ∈ bs', b < k ∧ k < w3.heap.size ∧ g ≠ some k ∧ vW.ownBlock ≠ some k)
    (hown : OwnB w4 0 324 v4 ((ps ++ [p]).map fun p => .pointer (some ⟨p, 0, none⟩))) (hgr : w3.grownBy w4 vW.ownBlock) (hor : v4.ownBlock = vW.ownBlock ∨ v4.ownBlock = some w3.heap.size) :
    TI KK w T b c (ws.app (.cons x .nil)) g v4 (ps ++ [p]) (bs ++ bs') (w4.setCell ⟨T, 3, none⟩ v4) := by
  have hk1 : Kx (fun k => vW.ownBlock = some k) w3 w4 := ⟨hgr.os, hgr.tape, hgr.output, hgr.size, fun k hk hx => hgr.block k hk (fun e => hx e.symm)⟩
  have htb := h.tb
  have hbl := h.bd.lt
  have hTl := h.cb.lt
  have hk2 : Kx (fun k => vW.ownBlock = some k ∨ k = T) w3 (w4.setCell ⟨T, 3, none⟩ v4) := (hk1.mono (fun k _ e => .inl e)).setCell (p := ⟨T, 3, none⟩) (fun _ => .inr rfl) v4
  have hall : ∀ k ∈ bs ++ bs', b < k ∧ k < w3.heap.size ∧ g ≠ some k ∧ vW.ownBlock ≠ some k := fun k hk => by
    rcases List.mem_append.1 hk with hk | hk
    · exact h.dis k hk
    · exact hb k hk
  have hnX : ∀ k ∈ bs ++ bs', ¬ (vW.ownBlock = some k ∨ k = T) := fun k hk e => by
    obtain ⟨a1, a2, a3, a4⟩ := hall k hk
    rcases e with e | e
    · exact a4 e
    · omega
  have hv4T : v4.ownBlock ≠ some T := by
    rcases hor with e | e
    · rw [e]; intro e2; have := h.dv T e2; omega
    · rw [e]; intro e2; have := Option.some.inj e2; omega
  have hcbT : Cb T #[.int .i64 0, .string ⟨#[]⟩, .string ⟨#[]⟩, vW] 391 w4 := h.cb.kept hk1 (fun e => by have := h.dv T e; omega)
  refine ⟨h.tb, h.bd.kept hk2 ?_ ?_, hcbT.set 3 v4, ?_, IsTrs.snoc ((hx.mono (by intro k hk; simp [hk])).kept hk2 hnX) ((h.trs.mono (by intro k hk; simp [hk])).kept hk2 hnX), fun k hk => ?_, fun k hk => ?_, fun k hk => ?_, h.kx.join hk2 ?_⟩
  · intro e
    rcases e with e | e
    · have := h.dv b e; omega
    · omega
  · intro k hk e
    obtain ⟨a1, a2⟩ := h.dg k hk
    rcases e with e | e
    · exact a2 e
    · omega
  · exact OwnB.kept hown ((Kx.refl (Only T) w4).only_set v4) (fun k _ hk e => by unfold Only at e; subst e; exact hv4T hk)
  · obtain ⟨a1, a2, a3, a4⟩ := hall k hk
    refine ⟨a1, Nat.lt_of_lt_of_le a2 hk2.size, a3, ?_⟩
    rcases hor with e | e
    · rw [e]; exact a4
    · rw [e]; intro e2; have := Option.some.inj e2; omega
  · obtain ⟨a1, a2⟩ := h.dg k hk
    refine ⟨a1, ?_⟩
    rcases hor with e | e
    · rw [e]; exact a2
    · rw [e]; intro e2
      have h1 := Option.some.inj e2
      have h2 := h.bd.rowLt k hk
      omega
  · rcases hor with e | e
    · rw [e] at hk; exact h.dv k hk
    · rw [e] at hk; have := Option.some.inj hk; omega
  · intro j hj e
    rcases e with e | e
    · have := h.dv j e; omega
    · omega

theorem Fs.drop {w : World} {g o n c k : Nat} {l : List Fi} (h : Fs w (.slice (some ⟨g, o, none⟩) n c) l) (hk : k ≤ l.length) :
    Fs w (.slice (if c = k then some ⟨g, o, none⟩ else some ⟨g, o + 3 * k, none⟩) (n - k) (c - k)) (l.drop k) := by
  obtain ⟨q, c', e, hc, hr, _⟩ := h
  cases e
  refine ⟨_, _, by rw [List.length_drop], by rw [List.length_drop]; omega, fun hne => ?_, fun h => by split at h <;> cases h⟩
  have hlt : k < l.length := by
    rcases Nat.lt_or_ge k l.length with h | h
    · exact h
    · exact absurd (List.drop_eq_nil_of_le h) hne
  obtain ⟨g', o', e, hcell⟩ := hr (fun e => by rw [e] at hlt; simp at hlt)
  cases e
  rw [if_neg (by omega)]
  refine ⟨g, o + 3 * k, rfl, fun j x hx => ?_⟩
  have hsplit : cellsF l = cellsF (l.take k) ++ cellsF (l.drop k) := by rw [← cellsF_app, List.take_append_drop]
  have hl3 : (cellsF (l.take k)).length = 3 * k := by rw [cellsF_len, List.length_take]; omega
  have := hcell (3 * k + j) x (by rw [hsplit, List.getElem?_append_right (by omega), hl3, Nat.add_sub_cancel_left]; exact hx)
  rw [← Nat.add_assoc] at this
  exact this

namespace Pf
def within (path top : List UInt8) : Bool := Lib.hasPrefix path top && (match Lib.trimPrefix path top with | [] => true | c :: _ => c == 47)

def without (gone : List UInt8 → Bool) (l : List Fi) : List Fi := l.filter (fun f => !gone f.path)
end Pf

set_option maxHeartbeats 800000 in
set_option maxRecDepth 100000 in
theorem isWithin_any (p t : List UInt8) (w : World) :
    Calls Tryz.prog 361 #[.string ⟨p.toArray⟩, .string ⟨t.toArray⟩] w fun e w' => e = .returned (.bool (Pf.within p t)) ∧ w' = w := by
  have HW : Hid (Pf.within p t = (Lib.hasPrefix p t && (match Lib.trimPrefix p t with | [] => true | c :: _ => c == 47))) := rfl
  generalize Pf.within p t = W at *
  go_enter Tryz.func361, Tryz.ntmps361
  go_wp2_with fail
  refine (cutPrefix_any p t _).mono ?_
  rintro _ w2 ⟨rfl, hw⟩
  rw [hw]
  clear hw w2
  cases hp : Lib.hasPrefix p t
  · go_wp2
    go_ret
    have := HW.out
    rw [hp] at this
    rw [this]
    exact ⟨rfl, rfl⟩
  · cases hr : Lib.trimPrefix p t with
    | nil =>
      go_wp2
      go_ret
      have := HW.out
      rw [hp, hr] at this
      rw [this]
      exact ⟨rfl, rfl⟩
    | cons c r =>
      go_wp2
      go_ret
      have := HW.out
      rw [hp, hr] at this
      rw [this]
      refine ⟨?_, rfl⟩
      have e : ((c.toNat : Int) == 47) = (true && (c == 47)) := by
        rw [Bool.true_and, Bool.eq_iff_iff]
        simp [← UInt8.toNat_inj]
        omega
      rw [← e]
      rfl

set_option maxHeartbeats 800000 in
set_option maxRecDepth 100000 in
theorem del1_any (p t : List UInt8) (b : Nat) (w : World) (hb : w.cell? ⟨b, 0, none⟩ = some (.string ⟨t.toArray⟩)) :
    Calls Tryz.prog 375 #[.string ⟨p.toArray⟩, .pointer (some ⟨b, 0, none⟩)] w fun e w' => e = .returned (.bool (Pf.within p t)) ∧ w' = w := by
  go_enter Tryz.func375, Tryz.ntmps375
  go_wp2_with fail
  refine (isWithin_any p t _).mono ?_
  rintro _ w2 ⟨rfl, hw⟩
  rw [hw]
  go_wp2
  go_ret
  exact ⟨rfl, rfl⟩

set_option maxHeartbeats 800000 in
set_option maxRecDepth 100000 in
theorem around1_any (p t : List UInt8) (b : Nat) (w : World) (hb : w.cell? ⟨b, 0, none⟩ = some (.string ⟨t.toArray⟩)) :
    Calls Tryz.prog 381 #[.string ⟨p.toArray⟩, .pointer (some ⟨b, 0, none⟩)] w fun e w' => e = .returned (.bool (Pf.within p t || Pf.within t p)) ∧ w' = w := by
  go_enter Tryz.func381, Tryz.ntmps381
  go_wp2_with fail
  refine (isWithin_any p t _).mono ?_
  rintro _ w2 ⟨rfl, hw⟩
  rw [hw]
  clear hw
  cases h1 : Pf.within p t
  · go_wp2_with fail
    refine (isWithin_any t p _).mono ?_
    rintro _ w3 ⟨rfl, hw⟩
    rw [hw]
    go_wp2
    go_ret
    rw [h1]
    exact ⟨rfl, rfl⟩
  · go_wp2
    go_ret
    rw [h1]
    exact ⟨rfl, rfl⟩

theorem without_take (gone : List UInt8 → Bool) (l : List Fi) (k : Nat) (hk : k < l.length) :
    Pf.without gone (l.take (k + 1)) = Pf.without gone (l.take k) ++ (if gone l[k].path then [] else [l[k]]) := by
  have : l.take (k + 1) = l.take k ++ [l[k]] := by simp
  rw [this]
  unfold Pf.without
  rw [List.filter_append]
  cases h : gone l[k].path <;> simp [h]

set_option maxHeartbeats 800000 in
set_option maxRecDepth 100000 in
theorem without_any (l : List Fi) (gone : List UInt8 → Bool) (F b : Nat) (x : Value) (v : Value) (w : World) (hF : Fs w v l) (hl : l.length ≤ 1000) (hb : w.cell? ⟨b, 0, none⟩ = some x)
    (hent : ∀ (args : Array Value) (w : World), (callFunc F args).run Tryz.prog w = .ok (.enter F args) w)
    (hg : ∀ (p : List UInt8) (w' : World), w'.cell? ⟨b, 0, none⟩ = some x → Calls Tryz.prog F #[.string ⟨p.toArray⟩, .pointer (some ⟨b, 0, none⟩)] w' fun e w'' => e = .returned (.bool (gone p)) ∧ w'' = w') :
    Calls Tryz.prog 374 #[v, .func (.func F) #[] #[.pointer (some ⟨b, 0, none⟩)]] w fun e w' => (∃ v', e = .returned v' ∧ w'.ownsRow w.heap.size 114 3 v' (Pf.without gone l).length (cellsF (Pf.without gone l))) ∧ Kx (fun _ => False) w w' := by
  obtain ⟨i0, hi, hz0, hz1, hz2⟩ := info_parts info105
  obtain ⟨q, c, hv, hc, _⟩ := id hF
  subst hv
  have hbl := lt_of_cell (p := ⟨b, 0, none⟩) hb
  go_enter Tryz.func374, Tryz.ntmps374
  go_wp2
  go_loopw [10, 5] (fun iv v w' => ∃ (k : Nat), iv = .int .i64 k ∧ k ≤ l.length ∧ Kx (fun _ => False) w w' ∧ w'.ownsRow w.heap.size 114 3 v (Pf.without gone (l.take k)).length (cellsF (Pf.without gone (l.take k)))) (fun iv _ _ => l.length - (intOf iv).toNat)
  case atStart => exact ⟨0, rfl, by omega, Kx.refl _ _, World.ownsRow_nil _ _ _ _⟩
  case round =>
    obtain ⟨k, rfl, hk, hkx, hown⟩ := hrel
    by_cases hlt : k < l.length
    · have hlt2 : (k : Int) < (l.length : Int) := by omega
      have hFr := hF.kept hkx (fun _ _ => id)
      obtain ⟨g, o, c', he, p0, p1, p2⟩ := hFr.file k hlt
      cases he
      have HT : Hid (Pf.without gone (l.take (k + 1)) = Pf.without gone (l.take k) ++ (if gone l[k].path then [] else [l[k]])) := without_take gone l k hlt
      have hwl : (Pf.without gone (l.take k)).length ≤ 1000 := Nat.le_trans (List.length_filter_le _ _) (by simp; omega)
      have e0 : o + k * 3 = o + 3 * k := by omega
      generalize l[k] = f at *
      obtain ⟨fp, fm, fs⟩ := f
      simp only at p0 p1 p2
      go_wp2_with fail
      refine (hg fp _ ?hb).mono ?_
      case hb =>
        rw [World.cell?_alloc_past _ _ _ (by have := hkx.size; exact Nat.lt_of_lt_of_le hbl this), hkx.cell (p := ⟨b, 0, none⟩) hbl id]
        exact hb
      rintro _ w2 ⟨rfl, hw2⟩
      rw [hw2]
      clear hw2 w2
      have hkA := hkx.alloc (.cells #[.string ⟨fp.toArray⟩, .string ⟨fm.toArray⟩, .string ⟨(Sh.hex fs).toArray⟩] 114)
      have hoA := hown.alloc (.cells #[.string ⟨fp.toArray⟩, .string ⟨fm.toArray⟩, .string ⟨(Sh.hex fs).toArray⟩] 114)
      cases hp : gone fp
      · have HBB : Hid (Pf.without gone (l.take (k + 1)) = Pf.without gone (l.take k) ++ [⟨fp, fm, fs⟩]) := by
          have := HT.out; simp only [hp] at this; exact this
        clear HT hp hg hent
        go_wp2_with (at_builtin; refine wpList_append_own _ rfl (.tmp 19) (.tmp 21) 107 rfl w.heap.size 114 i0 _ 3 48 Tryz.underlying107 hi hz0 hz1 hz2 rfl (by decide) _ (Pf.without gone (l.take k)).length (cellsF (Pf.without gone (l.take k))) rfl ?c0 ⟨wr.heap.size + 1, 0, none⟩ 1 1 [.string ⟨fp.toArray⟩, .string ⟨fm.toArray⟩, .string ⟨(Sh.hex fs).toArray⟩] rfl rfl ?c1 ?c2 ?c3 ?c4 ?c5 ?_)
        case c0 => exact (hown.alloc _).alloc _
        case c1 =>
          have h := cells_new (wr.alloc (.cells #[.string ⟨fp.toArray⟩, .string ⟨fm.toArray⟩, .string ⟨(Sh.hex fs).toArray⟩] 114)) [.string ⟨fp.toArray⟩, .string ⟨fm.toArray⟩, .string ⟨(Sh.hex fs).toArray⟩] 114
          rw [World.size_alloc] at h
          exact h
        case c2 => simp [Value.oneCell']
        case c3 => unfold maxLen; omega
        case c4 => omega
        case c5 => have := hkx.size; simp; omega
        intro v4 w4 hown4 hgrow4 _
        have hk4 : Kx (fun _ => False) w w4 := ((hkx.alloc _).alloc _).grown hgrow4 (fun k he => (hown.lt k he).1)
        have hown4' : w4.ownsRow w.heap.size 114 3 v4 (Pf.without gone (l.take (k + 1))).length (cellsF (Pf.without gone (l.take (k + 1)))) := by
          rw [HBB.out, cellsF_app, List.length_append]; exact hown4
        clear hown4 hgrow4 HBB
        go_wp2
        go_roundw
        case rel => exact ⟨k + 1, by go_num, hlt, hk4, hown4'⟩
        case measure => simp [intOf]; omega
      · have HBB : Hid (Pf.without gone (l.take (k + 1)) = Pf.without gone (l.take k)) := by
          have := HT.out; simp only [hp, if_true, List.append_nil] at this; exact this
        clear HT hp hg hent
        go_wp2
        go_roundw
        case rel => exact ⟨k + 1, by go_num, hlt, hkA, by rw [HBB.out]; exact hoA⟩
        case measure => simp [intOf]; omega
    · obtain rfl : k = l.length := by omega
      have hlt2 : ¬ (l.length : Int) < (l.length : Int) := by omega
      rw [List.take_of_length_le (Nat.le_refl _)] at hown
      go_wp2
      go_ret
      exact ⟨⟨_, rfl, hown⟩, hkx⟩

theorem own_mono {w : World} {base base' : Nat} {e : TypeId} {size : Nat} {v : Value} {n : Nat} {xs : List Value} (h : w.ownsRow base e size v n xs) (hb : base' ≤ base) : w.ownsRow base' e size v n xs := by
  refine ⟨h.1, ?_⟩
  rcases h.2 with h0 | ⟨g, cap, cur, a, b, c, d⟩
  · exact .inl h0
  · exact .inr ⟨g, cap, cur, a, Nat.le_trans hb b, c, d⟩

theorem cell_new1 (w : World) (x : Value) (t : TypeId) : (w.alloc (.cells #[x] t)).cell? ⟨w.heap.size, 0, none⟩ = some x := by
  rw [World.cell?_alloc_at _ _ _ _ rfl]
  rfl

namespace Pf
def delete (t : List UInt8) (l : List Fi) : List Fi := without (fun p => within p t) l
def withoutAround (t : List UInt8) (l : List Fi) : List Fi := without (fun p => within p t || within t p) l
end Pf

set_option maxHeartbeats 800000 in
set_option maxRecDepth 100000 in
theorem delete_any (l : List Fi) (t : List UInt8) (v : Value) (w : World) (hF : Fs w v l) (hl : l.length ≤ 1000) :
    Calls Tryz.prog 344 #[v, .string ⟨t.toArray⟩] w fun e w' => (∃ v', e = .returned v' ∧ w'.ownsRow w.heap.size 114 3 v' (Pf.delete t l).length (cellsF (Pf.delete t l))) ∧ Kx (fun _ => False) w w' := by
  have hent := enters_of (P := Tryz.prog) Tryz.func375 (by kernel_rfl) rfl
  have hF1 := hF.kept ((Kx.refl (fun _ => False) w).alloc (.cells #[.string ⟨t.toArray⟩] 9)) (fun _ _ => id)
  have hc : (w.alloc (.cells #[.string ⟨t.toArray⟩] 9)).cell? ⟨w.heap.size, 0, none⟩ = some (.string ⟨t.toArray⟩) := cell_new1 _ _ _
  go_enter Tryz.func344, Tryz.ntmps344
  go_wp2_with fail
  refine (without_any l (fun p => Pf.within p t) 375 w.heap.size (.string ⟨t.toArray⟩) v _ hF1 hl hc hent (fun p w' h => del1_any p t _ w' h)).mono ?_
  rintro _ w2 ⟨⟨v2, rfl, ho2⟩, hk2⟩
  have hk3 : Kx (fun _ => False) w w2 := ((Kx.refl (fun _ => False) w).alloc _).trans hk2
  have ho3 : w2.ownsRow w.heap.size 114 3 v2 (Pf.delete t l).length (cellsF (Pf.delete t l)) := own_mono ho2 (by rw [World.size_alloc]; omega)
  clear ho2 hk2
  go_wp2
  go_ret
  exact ⟨⟨_, rfl, ho3⟩, hk3⟩

set_option maxHeartbeats 800000 in
set_option maxRecDepth 100000 in
theorem withoutAround_any (l : List Fi) (t : List UInt8) (v : Value) (w : World) (hF : Fs w v l) (hl : l.length ≤ 1000) :
    Calls Tryz.prog 359 #[v, .string ⟨t.toArray⟩] w fun e w' => (∃ v', e = .returned v' ∧ w'.ownsRow w.heap.size 114 3 v' (Pf.withoutAround t l).length (cellsF (Pf.withoutAround t l))) ∧ Kx (fun _ => False) w w' := by
  have hent := enters_of (P := Tryz.prog) Tryz.func381 (by kernel_rfl) rfl
  have hF1 := hF.kept ((Kx.refl (fun _ => False) w).alloc (.cells #[.string ⟨t.toArray⟩] 9)) (fun _ _ => id)
  have hc : (w.alloc (.cells #[.string ⟨t.toArray⟩] 9)).cell? ⟨w.heap.size, 0, none⟩ = some (.string ⟨t.toArray⟩) := cell_new1 _ _ _
  go_enter Tryz.func359, Tryz.ntmps359
  go_wp2_with fail
  refine (without_any l (fun p => Pf.within p t || Pf.within t p) 381 w.heap.size (.string ⟨t.toArray⟩) v _ hF1 hl hc hent (fun p w' h => around1_any p t _ w' h)).mono ?_
  rintro _ w2 ⟨⟨v2, rfl, ho2⟩, hk2⟩
  have hk3 : Kx (fun _ => False) w w2 := ((Kx.refl (fun _ => False) w).alloc _).trans hk2
  have ho3 : w2.ownsRow w.heap.size 114 3 v2 (Pf.withoutAround t l).length (cellsF (Pf.withoutAround t l)) := own_mono ho2 (by rw [World.size_alloc]; omega)
  clear ho2 hk2
  go_wp2
  go_ret
  exact ⟨⟨_, rfl, ho3⟩, hk3⟩

end Go.Proofs.YtepgoppgblfjbaaGreatDoor
