import Derived.Test.YtepgoppgblfjbaaGreatDoorTw02
import Derived.Test.YtepgoppgblfjbaaGreatDoorTw03
import Derived.Test.YtepgoppgblfjbaaGreatDoorTw01
import Derived.Maps.OwnSet
import Derived.Maps.RangeWalk
import Derived.Sort.KeysCollected
import Derived.Test.YtepgoppgblfjbaaGreatDoorTw06
import Derived.Maps.AppendAt
/- readOne leaves less; enough rounds of readAll are enough. -/
namespace Go.Proofs.YtepgoppgblfjbaaGreatDoor
namespace Pu

theorem exactly_lt (l s : List UInt8) (bad : Bool) (h : s ≠ []) : (exactly l s bad).1.length < s.length := by
  unfold exactly; exact Nat.lt_of_le_of_lt (need_len _ _ _) (line_lt s bad h)
theorem exactly_le (l s : List UInt8) (bad : Bool) : (exactly l s bad).1.length ≤ s.length := by
  unfold exactly; exact Nat.le_trans (need_len _ _ _) (line_le s bad)
theorem ref_lt (head s : List UInt8) (bad : Bool) (h : s ≠ []) : (ref head s bad).2.1.length < s.length := by
  unfold ref; exact Nat.lt_of_le_of_lt (need_len _ _ _) (after_lt head s bad h)
theorem rmark_le (s : List UInt8) (bad : Bool) : (rmark s bad).2.1.length ≤ s.length := by
  unfold rmark; exact Nat.le_trans (need_len _ _ _) (after_le _ s bad)
theorem which_le2 (head s : List UInt8) (bad : Bool) : (which head s bad).1.length ≤ s.length := Nat.le_trans (which_le head s bad) (after_le head s bad)
theorem author_le (s : List UInt8) (bad : Bool) : (author s bad).1.length ≤ s.length := by
  unfold author; exact Nat.le_trans (need_len _ _ _) (after_le _ s bad)
theorem data_le2 (s : List UInt8) (bad : Bool) : (data s bad).2.1.length ≤ s.length := Nat.le_trans (data_le s bad) (after_le _ s bad)
theorem fromOr_le (s : List UInt8) (bad : Bool) : (fromOr s bad).1.length ≤ s.length := by
  unfold fromOr; split
  · exact which_le2 _ _ _
  · exact Nat.le_refl _
theorem mergesF_le : ∀ (f : Nat) (s : List UInt8) (bad : Bool) (n : Nat), (mergesF f s bad n).2.1.length ≤ s.length := by
  intro f
  induction f with
  | zero => intro s bad n; exact Nat.le_refl _
  | succ f ih =>
    intro s bad n
    unfold mergesF
    split
    · exact Nat.le_trans (ih _ _ _) (which_le2 _ _ _)
    · exact Nat.le_refl _
theorem merges_le (s : List UInt8) (bad : Bool) : (merges s bad).1.length ≤ s.length := by
  unfold merges; exact Nat.le_trans (need_len _ _ _) (mergesF_le _ _ _ _)
theorem changesF_le : ∀ (f : Nat) (l s : List UInt8) (bad : Bool) (n : Nat), (changesF f l s bad n).2.1.length ≤ s.length := by
  intro f
  induction f with
  | zero => intro l s bad n; exact Nat.le_refl _
  | succ f ih =>
    intro l s bad n
    unfold changesF
    split
    · exact Nat.le_refl _
    · exact Nat.le_trans (ih _ _ _ _) (Nat.le_trans (line_le _ _) (change_le _ _ _))
theorem changes_le (s : List UInt8) (bad : Bool) : (changes s bad).1.length ≤ s.length := by
  unfold changes; exact Nat.le_trans (need_len _ _ _) (Nat.le_trans (changesF_le _ _ _ _ _) (line_le _ _))

theorem readCommit_lt (s : List UInt8) (bad : Bool) (h : s ≠ []) : (readCommit s bad).1.length < s.length := by
  have h0 := ref_lt sCommit1 s bad h
  unfold readCommit
  generalize (ref sCommit1 s bad).2 = x0 at *
  simp only [thn]
  have h1 := rmark_le x0.1 x0.2
  generalize (rmark x0.1 x0.2).2 = x1 at *
  have h2 := author_le x1.1 x1.2
  generalize author x1.1 x1.2 = x2 at *
  have h3 := data_le2 x2.1 x2.2
  generalize (data x2.1 x2.2).2 = x3 at *
  have h4 := fromOr_le x3.1 x3.2
  generalize fromOr x3.1 x3.2 = x4 at *
  have h5 := merges_le x4.1 x4.2
  generalize merges x4.1 x4.2 = x5 at *
  have h6 := changes_le x5.1 x5.2
  omega

theorem word_nil : word [] = [] := rfl

theorem readOne_nil (bad : Bool) : readOne [] bad = ([], true) := rfl

theorem readOne_lt (s : List UInt8) (bad : Bool) (h : s ≠ []) : (readOne s bad).1.length < s.length := by
  unfold readOne
  split
  · unfold readBlob
    exact Nat.lt_of_le_of_lt (Nat.le_trans (data_le2 _ _) (rmark_le _ _)) (exactly_lt _ _ _ h)
  · split
    · exact readCommit_lt s bad h
    · split
      · unfold readTag
        exact Nat.lt_of_le_of_lt (Nat.le_trans (data_le2 _ _) (which_le2 _ _ _)) (ref_lt _ _ _ h)
      · split
        · unfold readReset
          exact Nat.lt_of_le_of_lt (Nat.le_trans (exactly_le _ _ _) (fromOr_le _ _)) (ref_lt _ _ _ h)
        · exact List.length_pos_iff.2 h

theorem readOne_lt' (s : List UInt8) (bad : Bool) (h : (readOne s bad).2 = false) : (readOne s bad).1.length < s.length := by
  by_cases e : s = []
  · subst e; rw [readOne_nil] at h; cases h
  · exact readOne_lt s bad e

theorem readAllF_fuel : ∀ (f g : Nat) (s : List UInt8) (bad : Bool) (n : Nat), s.length < f → s.length < g → readAllF f s bad n = readAllF g s bad n := by
  intro f
  induction f with
  | zero => intro g s bad n h; omega
  | succ f ih =>
    intro g s bad n h hg
    cases g with
    | zero => omega
    | succ g =>
      unfold readAllF
      split
      · rfl
      · split
        · rfl
        · rename_i hb
          have := readOne_lt' s bad (by simpa using hb)
          exact ih g _ _ _ (by omega) (by omega)

theorem readAllF_step (s : List UInt8) (bad : Bool) (n : Nat) (h1 : (word s == sDone) = false) (h2 : (readOne s bad).2 = false) :
    readAllF (s.length + 1) s bad n = readAllF ((readOne s bad).1.length + 1) (readOne s bad).1 (readOne s bad).2 (n + 1) := by
  have hl := readOne_lt' s bad h2
  conv => lhs; unfold readAllF
  rw [h1, h2]
  simp only [Bool.false_eq_true, if_false]
  exact readAllF_fuel _ _ _ _ _ (by omega) (by omega)

theorem readAllF_done (f : Nat) (s : List UInt8) (bad : Bool) (n : Nat) (h1 : (word s == sDone) = true) :
    readAllF (f + 1) s bad n = (n, (exactly sDone s bad).1, (exactly sDone s bad).2) := by
  unfold readAllF; rw [h1]; rfl

theorem readAllF_bad (f : Nat) (s : List UInt8) (bad : Bool) (n : Nat) (h1 : (word s == sDone) = false) (h2 : (readOne s bad).2 = true) :
    readAllF (f + 1) s bad n = (n, (readOne s bad).1, (readOne s bad).2) := by
  unfold readAllF; rw [h1, h2]; rfl

end Pu
end Go.Proofs.YtepgoppgblfjbaaGreatDoor

/- The commands of a stream: plain facts. -/
namespace Go.Proofs.YtepgoppgblfjbaaGreatDoor
namespace Pu

theorem readAllV_fuel : ∀ (f g : Nat) (s : List UInt8) (bad : Bool), s.length < f → s.length < g → readAllV f s bad = readAllV g s bad := by
  intro f
  induction f with
  | zero => intro g s bad h; omega
  | succ f ih =>
    intro g s bad h hg
    cases g with
    | zero => omega
    | succ g =>
      unfold readAllV
      split
      · rfl
      · split
        · rfl
        · rename_i hb
          have := readOne_lt' s bad (by simpa using hb)
          rw [ih g _ _ (by omega) (by omega)]

theorem readAllV_step (s : List UInt8) (bad : Bool) (h1 : (word s == sDone) = false) (h2 : (readOne s bad).2 = false) :
    readAllV (s.length + 1) s bad = readOneV s bad :: readAllV ((readOne s bad).1.length + 1) (readOne s bad).1 (readOne s bad).2 := by
  have hl := readOne_lt' s bad h2
  conv => lhs; unfold readAllV
  rw [h1, h2]
  simp only [Bool.false_eq_true, if_false]
  rw [readAllV_fuel _ ((readOne s bad).1.length + 1) _ _ (by omega) (by omega)]

theorem readAllV_done (f : Nat) (s : List UInt8) (bad : Bool) (h1 : (word s == sDone) = true) : readAllV (f + 1) s bad = [] := by
  unfold readAllV; rw [h1]; rfl

theorem readAllV_bad (f : Nat) (s : List UInt8) (bad : Bool) (h1 : (word s == sDone) = false) (h2 : (readOne s bad).2 = true) : readAllV (f + 1) s bad = [] := by
  unfold readAllV; rw [h1, h2]; rfl

theorem readAllF_len : ∀ (f : Nat) (s : List UInt8) (bad : Bool) (n : Nat), (readAllF f s bad n).1 = n + (readAllV f s bad).length := by
  intro f
  induction f with
  | zero => intro s bad n; rfl
  | succ f ih =>
    intro s bad n
    unfold readAllF readAllV
    split
    · rfl
    · split
      · rfl
      · rw [ih]; simp; omega

theorem commands_len (s : List UInt8) : (readAll s).1 = (commands s).length := by
  unfold readAll commands
  rw [readAllF_len]; omega

end Pu
end Go.Proofs.YtepgoppgblfjbaaGreatDoor

/- Maps as functions from their keys. -/
namespace Go.Proofs.YtepgoppgblfjbaaGreatDoor
open Go.RowKit Go.Maps Go.WideMaps

/-- An element is held as it is. -/
def Rv (v : Value) : Option (DataW Value × List MemPlace) := some (.held v, [])

/-- What a key leads to, or else. -/
def heldOr (x : Option Value) (zd : DataW Value) : DataW Value := match x with | some v => .held v | none => zd

/-- Block b is a map of at most n entries, from texts. -/
def MapS (P : Program) (K : TypeId) (w : World) (b n : Nat) (f : List UInt8 → Option Value) : Prop :=
  ∃ D : DataW Value, w.ownsMap P K Rv b n D ∧ ∀ k zd, D.atKey (.string k) zd = heldOr (f k) zd

/-- Block b is a map of at most n entries, from numbers. -/
def MapI (P : Program) (K : TypeId) (w : World) (b n : Nat) (f : Int → Option Value) : Prop :=
  ∃ D : DataW Value, w.ownsMap P K Rv b n D ∧ ∀ k zd, D.atKey (.int .i64 k) zd = heldOr (f k) zd

/-- A function with one place turned. -/
def upd {α β : Type} [DecidableEq α] (f : α → Option β) (k : α) (v : Option β) : α → Option β := fun x => if x = k then v else f x

theorem upd_same {α β : Type} [DecidableEq α] (f : α → Option β) (k : α) (v : Option β) : upd f k v k = v := by simp [upd]
theorem upd_other {α β : Type} [DecidableEq α] (f : α → Option β) (k x : α) (v : Option β) (h : x ≠ k) : upd f k v x = f x := by simp [upd, h]

section
variable {P : Program} {K : TypeId} {w w' : World} {b n : Nat} {f : List UInt8 → Option Value} {g : Int → Option Value}

theorem MapS.lt (h : MapS P K w b n f) : b < w.heap.size := by obtain ⟨D, h, _⟩ := h; exact h.lt
theorem MapI.lt (h : MapI P K w b n g) : b < w.heap.size := by obtain ⟨D, h, _⟩ := h; exact h.lt
theorem MapS.mono (h : MapS P K w b n f) {m : Nat} (hm : n ≤ m) : MapS P K w b m f := by obtain ⟨D, h, ha⟩ := h; exact ⟨D, h.mono hm, ha⟩
theorem MapI.mono (h : MapI P K w b n g) {m : Nat} (hm : n ≤ m) : MapI P K w b m g := by obtain ⟨D, h, ha⟩ := h; exact ⟨D, h.mono hm, ha⟩

theorem ownsMap_kx {R : Value → Option (DataW Value × List MemPlace)} {D : DataW Value} {X : Nat → Prop} (h : w.ownsMap P K R b n D) (hk : Kx X w w') (hX : ¬ X b) : w'.ownsMap P K R b n D := by
  have hlt := h.lt
  obtain ⟨es, clock, hb, r⟩ := h
  exact ⟨es, clock, (hk.block b hlt hX).trans hb, r⟩

theorem MapS.kept {X : Nat → Prop} (h : MapS P K w b n f) (hk : Kx X w w') (hX : ¬ X b) : MapS P K w' b n f := by obtain ⟨D, h, ha⟩ := h; exact ⟨D, ownsMap_kx h hk hX, ha⟩
theorem MapI.kept {X : Nat → Prop} (h : MapI P K w b n g) (hk : Kx X w w') (hX : ¬ X b) : MapI P K w' b n g := by obtain ⟨D, h, ha⟩ := h; exact ⟨D, ownsMap_kx h hk hX, ha⟩

theorem MapS.made (w : World) : MapS P K (w.alloc (.map #[] 0)) w.heap.size 0 (fun _ => none) :=
  ⟨.map [], World.ownsMap_made w P K Rv, fun _ _ => rfl⟩
theorem MapI.made (w : World) : MapI P K (w.alloc (.map #[] 0)) w.heap.size 0 (fun _ => none) :=
  ⟨.map [], World.ownsMap_made w P K Rv, fun _ _ => rfl⟩

theorem has_of_heldOr {D : DataW Value} {kl : Lit} {x : Option Value} (h : ∀ zd, D.atKey kl zd = heldOr x zd) : has D kl = x.isSome := by
  cases x with
  | none => exact has_false_of_atKey h
  | some v => exact has_true_of_atKey h

theorem held_of {v : Value} {x : Option Value} {z : Value} {ps : List MemPlace} (h : Rv v = some (heldOr x (.held z), ps)) : v = x.getD z := by
  unfold Rv at h
  cases x with
  | none => simp [heldOr] at h; exact h.1
  | some u => simp [heldOr] at h; exact h.1

/-- The block alone may have turned. -/
theorem Kx.of_grown {row : Option Nat} (h : w.grownBy w' row) : Kx (fun k => some k = row) w w' := ⟨h.os, h.tape, h.output, h.size, fun k hk hx => h.block k hk hx⟩

section
variable {ops : Array Oper} {rest : List Oper} {o : Oper} {a : Act} {Q : Exit → Act → World → Prop}

/-- 'm[k]'. -/
theorem wpList_lookS (hg : o.guard = none) (m x : Operand) (t : TypeId) (hop : o.op = Op.lookup t m x false) (e : TypeId) (hK : P.underlying K = some .string) (ht : P.underlying t = some (.map K e)) (z : Value) (hz : (zeroValue e).run P w = .ok z w)
    (b n : Nat) (f : List UInt8 → Option Value) (hm : a.eval m = .map (some b)) (h : MapS P K w b n f) (k : List UInt8) (hx : a.eval x = .string ⟨k.toArray⟩) (hk : k.length ≤ maxLen)
    (hc : wpList P ops Q rest (a.put o.dst ((f k).getD z)) w) : wpList P ops Q (o :: rest) a w := by
  obtain ⟨D, hown, ha⟩ := h
  refine wpList_plain hg fun K' hK' => ?_
  obtain ⟨v, ps, hrun, hv⟩ := hown.lookup (string_keyed hK) ht hz (zd := .held z) (zp := []) rfl (keyOf_string_mk (s := ⟨k.toArray⟩) hK (by simpa [ByteArray.size] using hk))
  rw [show (⟨k.toArray⟩ : ByteArray).data.toList = k from rfl, ha] at hv
  obtain rfl := held_of hv
  unfold Oper.wp
  simp [execOp, hop, hm, hx, hrun, Result.andThen]
  exact hK' _ _ hc

/-- 'v, ok := m[k]'. -/
theorem wpList_lookOkS (hg : o.guard = none) (m x : Operand) (t : TypeId) (hop : o.op = Op.lookup t m x true) (e : TypeId) (hK : P.underlying K = some .string) (ht : P.underlying t = some (.map K e)) (z : Value) (hz : (zeroValue e).run P w = .ok z w)
    (b n : Nat) (f : List UInt8 → Option Value) (hm : a.eval m = .map (some b)) (h : MapS P K w b n f) (k : List UInt8) (hx : a.eval x = .string ⟨k.toArray⟩) (hk : k.length ≤ maxLen)
    (hc : wpList P ops Q rest (a.put o.dst (.tuple #[(f k).getD z, .bool (f k).isSome])) w) : wpList P ops Q (o :: rest) a w := by
  obtain ⟨D, hown, ha⟩ := h
  refine wpList_plain hg fun K' hK' => ?_
  obtain ⟨v, ps, hrun, hv⟩ := hown.look_ok (string_keyed hK) ht hz (zd := .held z) (zp := []) rfl (keyOf_string_mk (s := ⟨k.toArray⟩) hK (by simpa [ByteArray.size] using hk))
  rw [show (⟨k.toArray⟩ : ByteArray).data.toList = k from rfl] at hv hrun
  rw [ha] at hv
  obtain rfl := held_of hv
  rw [has_of_heldOr (ha k)] at hrun
  unfold Oper.wp
  simp [execOp, hop, hm, hx, hrun, Result.andThen]
  exact hK' _ _ hc

theorem MapS.put {D : DataW Value} {f : List UInt8 → Option Value} (hD : IsMap D) (ha : ∀ k zd, D.atKey (.string k) zd = heldOr (f k) zd) (k : List UInt8) (v : Value) :
    ∀ k' zd, (D.put (.string k) (.held v)).atKey (.string k') zd = heldOr (upd f k (some v) k') zd := by
  intro k' zd
  by_cases e : k' = k
  · subst e
    rw [upd_same, atKey_put_same hD (by exact trivial)]; rfl
  · rw [upd_other _ _ _ _ e, atKey_put_other (by simpa using e), ha]

theorem MapI.put {D : DataW Value} {f : Int → Option Value} (hD : IsMap D) (ha : ∀ k zd, D.atKey (.int .i64 k) zd = heldOr (f k) zd) (k : Int) (v : Value) :
    ∀ k' zd, (D.put (.int .i64 k) (.held v)).atKey (.int .i64 k') zd = heldOr (upd f k (some v) k') zd := by
  intro k' zd
  by_cases e : k' = k
  · subst e
    rw [upd_same, atKey_put_same hD (by exact trivial)]; rfl
  · rw [upd_other _ _ _ _ e, atKey_put_other (by simpa using e), ha]

theorem MapS.cut {D : DataW Value} {f : List UInt8 → Option Value} (ha : ∀ k zd, D.atKey (.string k) zd = heldOr (f k) zd) (k : List UInt8) :
    ∀ k' zd, (D.del (.string k)).atKey (.string k') zd = heldOr (upd f k none k') zd := by
  intro k' zd
  by_cases e : k' = k
  · subst e
    rw [upd_same, atKey_del_same]; rfl
  · rw [upd_other _ _ _ _ e, atKey_del_other (by simpa using e), ha]

/-- 'm[k] = v'. -/
theorem wpList_putS (hg : o.guard = none) (m x v : Operand) (t : TypeId) (hop : o.op = Op.mapUpdate t m x v) (e : TypeId) (hK : P.underlying K = some .string) (ht : P.underlying t = some (.map K e))
    (b n : Nat) (f : List UInt8 → Option Value) (hm : a.eval m = .map (some b)) (h : MapS P K w b n f) (hn : n < maxLen) (k : List UInt8) (hx : a.eval x = .string ⟨k.toArray⟩) (hk : k.length ≤ maxLen) (val : Value) (hv : a.eval v = val)
    (hc : ∀ w', MapS P K w' b (n + 1) (upd f k (some val)) → Kx (Only b) w w' → wpList P ops Q rest (a.put o.dst undef) w') : wpList P ops Q (o :: rest) a w := by
  obtain ⟨D, hown, ha⟩ := h
  refine wpList_mapUpdate_own w hg m x v t hop K e (string_keyed hK) ht Rv b n D hm hown hn (.string ⟨k.toArray⟩) val (.string k) hx hv (keyOf_string_mk (s := ⟨k.toArray⟩) hK (by simpa [ByteArray.size] using hk)) (.held val) [] rfl ?_
  intro w' ho hgr
  exact hc w' ⟨_, ho, MapS.put hown.isMap ha k val⟩ ((Kx.of_grown hgr).mono (fun j _ e => by unfold Only; exact Option.some.inj e))

/-- 'delete(m, k)'. -/
theorem wpList_cutS (hg : o.guard = none) (m x : Operand) (t : TypeId) (hop : o.op = Op.call { callee := Callee.builtin Builtin.delete, args := #[m, x], argTypes := #[t, K] }) (e : TypeId) (hK : P.underlying K = some .string) (ht : P.underlying t = some (.map K e))
    (b n : Nat) (f : List UInt8 → Option Value) (hm : a.eval m = .map (some b)) (h : MapS P K w b n f) (k : List UInt8) (hx : a.eval x = .string ⟨k.toArray⟩) (hk : k.length ≤ maxLen)
    (hc : ∀ w', MapS P K w' b n (upd f k none) → Kx (Only b) w w' → wpList P ops Q rest (a.put o.dst (.tuple #[])) w') : wpList P ops Q (o :: rest) a w := by
  obtain ⟨D, hown, ha⟩ := h
  refine wpList_plain hg fun K' hK' => ?_
  obtain ⟨w', hrun, ho, ht'⟩ := hown.drop (string_keyed hK) ht (keyOf_string_mk (s := ⟨k.toArray⟩) hK (by simpa [ByteArray.size] using hk)) o.type
  unfold Oper.wp
  simp [execOp, hop, resolve, invoke, builtin, hm, hx, hrun, Result.andThen]
  exact hK' _ _ (hc w' ⟨_, ho, MapS.cut ha k⟩ ((Kx.of_grown ht'.grown).mono (fun j _ e => by unfold Only; exact Option.some.inj e)))

theorem wf64 {k : Int} (h0 : -9223372036854775808 ≤ k) (h1 : k ≤ 9223372036854775807) : (Lit.int .i64 k).wf = true := WalkArith.wf_i64 ⟨h0, h1⟩

/-- 'm[k]', a number. -/
theorem wpList_lookI (hg : o.guard = none) (m x : Operand) (t : TypeId) (hop : o.op = Op.lookup t m x false) (e : TypeId) (hK : P.underlying K = some (.int .i64)) (ht : P.underlying t = some (.map K e)) (z : Value) (hz : (zeroValue e).run P w = .ok z w)
    (b n : Nat) (f : Int → Option Value) (hm : a.eval m = .map (some b)) (h : MapI P K w b n f) (k : Int) (hx : a.eval x = .int .i64 k) (hk0 : -9223372036854775808 ≤ k) (hk1 : k ≤ 9223372036854775807)
    (hc : wpList P ops Q rest (a.put o.dst ((f k).getD z)) w) : wpList P ops Q (o :: rest) a w := by
  obtain ⟨D, hown, ha⟩ := h
  refine wpList_plain hg fun K' hK' => ?_
  obtain ⟨v, ps, hrun, hv⟩ := hown.lookup (int_keyed hK) ht hz (zd := .held z) (zp := []) rfl (keyOf_int_mk hK (wf64 hk0 hk1))
  rw [ha] at hv
  obtain rfl := held_of hv
  unfold Oper.wp
  simp [execOp, hop, hm, hx, hrun, Result.andThen]
  exact hK' _ _ hc

/-- 'v, ok := m[k]', a number. -/
theorem wpList_lookOkI (hg : o.guard = none) (m x : Operand) (t : TypeId) (hop : o.op = Op.lookup t m x true) (e : TypeId) (hK : P.underlying K = some (.int .i64)) (ht : P.underlying t = some (.map K e)) (z : Value) (hz : (zeroValue e).run P w = .ok z w)
    (b n : Nat) (f : Int → Option Value) (hm : a.eval m = .map (some b)) (h : MapI P K w b n f) (k : Int) (hx : a.eval x = .int .i64 k) (hk0 : -9223372036854775808 ≤ k) (hk1 : k ≤ 9223372036854775807)
    (hc : wpList P ops Q rest (a.put o.dst (.tuple #[(f k).getD z, .bool (f k).isSome])) w) : wpList P ops Q (o :: rest) a w := by
  obtain ⟨D, hown, ha⟩ := h
  refine wpList_plain hg fun K' hK' => ?_
  obtain ⟨v, ps, hrun, hv⟩ := hown.look_ok (int_keyed hK) ht hz (zd := .held z) (zp := []) rfl (keyOf_int_mk hK (wf64 hk0 hk1))
  rw [ha] at hv
  obtain rfl := held_of hv
  rw [has_of_heldOr (ha k)] at hrun
  unfold Oper.wp
  simp [execOp, hop, hm, hx, hrun, Result.andThen]
  exact hK' _ _ hc

/-- 'm[k] = v', a number. -/
theorem wpList_putI (hg : o.guard = none) (m x v : Operand) (t : TypeId) (hop : o.op = Op.mapUpdate t m x v) (e : TypeId) (hK : P.underlying K = some (.int .i64)) (ht : P.underlying t = some (.map K e))
    (b n : Nat) (f : Int → Option Value) (hm : a.eval m = .map (some b)) (h : MapI P K w b n f) (hn : n < maxLen) (k : Int) (hx : a.eval x = .int .i64 k) (hk0 : -9223372036854775808 ≤ k) (hk1 : k ≤ 9223372036854775807) (val : Value) (hv : a.eval v = val)
    (hc : ∀ w', MapI P K w' b (n + 1) (upd f k (some val)) → Kx (Only b) w w' → wpList P ops Q rest (a.put o.dst undef) w') : wpList P ops Q (o :: rest) a w := by
  obtain ⟨D, hown, ha⟩ := h
  refine wpList_mapUpdate_own w hg m x v t hop K e (int_keyed hK) ht Rv b n D hm hown hn (.int .i64 k) val (.int .i64 k) hx hv (keyOf_int_mk hK (wf64 hk0 hk1)) (.held val) [] rfl ?_
  intro w' ho hgr
  exact hc w' ⟨_, ho, MapI.put hown.isMap ha k val⟩ ((Kx.of_grown hgr).mono (fun j _ e => by unfold Only; exact Option.some.inj e))

end
end
end Go.Proofs.YtepgoppgblfjbaaGreatDoor

/- readAll, Read, Check. -/
namespace Go.Proofs.YtepgoppgblfjbaaGreatDoor
open Go.RowKit

theorem Tryz.info158 : (Tryz.prog.info? 158).map (fun i => (i.zero, i.size, i.bytes)) = some (some (.agg #[.string ⟨#[]⟩, .string ⟨#[]⟩, .int .i64 0, .string ⟨#[]⟩, .string ⟨#[]⟩, .int .i64 0, .string ⟨#[]⟩, .int .i64 0, .string ⟨#[]⟩, .slice none 0 0, .slice none 0 0]), 11, 168) := by kernel_rfl

theorem own_slice {w : World} {base : Nat} {e : TypeId} {size : Nat} {v : Value} {n : Nat} {xs : List Value} (h : w.ownsRow base e size v n xs) : ∃ av cv, v = .slice av n cv := by
  rcases h.2 with ⟨rfl, rfl⟩ | ⟨g, cap, cur, rfl, _⟩
  · exact ⟨_, _, rfl⟩
  · exact ⟨_, _, rfl⟩

set_option maxHeartbeats 2000000 in
set_option maxRecDepth 100000 in
theorem readAll_any (b : Nat) (s : List UInt8) (w : World) (h : Rd b s false w) :
    Calls Tryz.prog 79 #[.pointer (some ⟨b, 0, none⟩)] w fun e w' => (∃ av cv, e = .returned (.slice av (Pu.readAll s).1 cv) ∧ CosAt w' w.heap.size (.slice av (Pu.readAll s).1 cv) (Pu.commands s)) ∧ Rd b (Pu.readAll s).2.1 (Pu.readAll s).2.2 w' ∧ (Pu.readAll s).1 ≤ 8000 ∧ Kx (Only b) w w' := by
  have hb := h.lt
  have hs := h.short
  obtain ⟨i0, hi, hz0, hz1, hz2⟩ := info_parts Tryz.info158
  obtain ⟨R, HR⟩ : ∃ R, Hid (Pu.readAll s = R) := ⟨_, rfl⟩
  obtain ⟨RV, HRV⟩ : ∃ RV, Hid (Pu.commands s = RV) := ⟨_, rfl⟩
  rw [HR.out, HRV.out]
  go_enter Tryz.func79, Tryz.ntmps79
  go_wp2
  go_loopw [3] (fun v w' => ∃ (n : Nat) (s' : List UInt8) (xs : List Value) (cs : List Pu.Co), n = cs.length ∧ CoRow w' w.heap.size v.ownBlock cs xs ∧ RV = cs ++ Pu.readAllV (s'.length + 1) s' false ∧ n + s'.length ≤ s.length ∧ Rd b s' false w' ∧ Kx (Only b) w w' ∧ w'.ownsRow w.heap.size 158 11 v n xs ∧ R = Pu.readAllF (s'.length + 1) s' false n) (fun _ w' => left b w')
  case atStart => exact ⟨0, s, [], [], rfl, rfl, HRV.out.symm, by omega, h, Kx.refl _ _, World.ownsRow_nil _ _ _ _, HR.out.symm⟩
  case round =>
    obtain ⟨n, s1, xs, cs, hncs, hrow, hV, hn, hr, hk, hown, hE⟩ := hrel
    have HN : Hid (n = cs.length) := hncs
    have HV : Hid (RV = cs ++ Pu.readAllV (s1.length + 1) s1 false) := hV
    clear hV hncs
    have HE : Hid (R = Pu.readAllF (s1.length + 1) s1 false n) := hE
    clear hE
    have hsz := hk.size
    obtain ⟨av, cv, rfl⟩ := own_slice hown
    have hsh := hr.short
    go_wp2_with fail
    refine (word_any b s1 false _ hr).mono ?_
    rintro e w1 ⟨rfl, q, rfl⟩
    cases hw : (Pu.word s1 == Pu.sDone)
    · have hwb : (Pu.word s1 == [100, 111, 110, 101]) = false := hw
      cases hbd : (Pu.readOne s1 false).2
      · have HE2 : Hid (R = Pu.readAllF ((Pu.readOne s1 false).1.length + 1) (Pu.readOne s1 false).1 false (n + 1)) := by
          show _ = _
          rw [HE.out, Pu.readAllF_step _ _ _ hw hbd, hbd]
        have HV2 : Hid (RV = (cs ++ [Pu.readOneV s1 false]) ++ Pu.readAllV ((Pu.readOne s1 false).1.length + 1) (Pu.readOne s1 false).1 false) := by
          show _ = _
          rw [HV.out, Pu.readAllV_step _ _ hw hbd, hbd, List.append_assoc, List.singleton_append]
        have hlt := Pu.readOne_lt' s1 false hbd
        have HB : Hid ((Pu.readOne s1 false).2 = false) := hbd
        clear HE hw hbd
        go_wp2_with fail
        refine (readOne_any b s1 false _ (hr.drewN q)).mono ?_
        rintro e w2 ⟨⟨v, rfl, vm, vc, hvv, hS2⟩, hr2, hk2⟩
        generalize Pu.readOneV s1 false = cc at *
        obtain ⟨qm, cm, hvm, _⟩ := id hS2.ms
        obtain ⟨qc, cc2, hvc, _⟩ := id hS2.cs
        subst hvm hvc hvv
        unfold coC
        rw [HB.out] at hr2
        generalize (Pu.readOne s1 false).1 = s2 at *
        have hown2 := own_kept (own_kept hown ((Kx.refl (Only b) _).drewN q) hb) hk2 hb
        have hr3 := hr2.alloc (.cells #[.string ⟨cc.word.toArray⟩, .string ⟨cc.ref.toArray⟩, .int .i64 cc.mark, .string ⟨cc.au.name.toArray⟩, .string ⟨cc.au.mail.toArray⟩, .int .i64 cc.au.time, .string ⟨cc.data.toArray⟩, .int .i64 cc.frm.mark, .string ⟨cc.frm.ref.toArray⟩, .slice qm cc.merges.length cm, .slice qc cc.changes.length cc2] 158)
        have hk3 := ((hk.drewN q).trans hk2).alloc (.cells #[.string ⟨cc.word.toArray⟩, .string ⟨cc.ref.toArray⟩, .int .i64 cc.mark, .string ⟨cc.au.name.toArray⟩, .string ⟨cc.au.mail.toArray⟩, .int .i64 cc.au.time, .string ⟨cc.data.toArray⟩, .int .i64 cc.frm.mark, .string ⟨cc.frm.ref.toArray⟩, .slice qm cc.merges.length cm, .slice qc cc.changes.length cc2] 158)
        have hz3 : (w2.alloc (.cells #[.string ⟨cc.word.toArray⟩, .string ⟨cc.ref.toArray⟩, .int .i64 cc.mark, .string ⟨cc.au.name.toArray⟩, .string ⟨cc.au.mail.toArray⟩, .int .i64 cc.au.time, .string ⟨cc.data.toArray⟩, .int .i64 cc.frm.mark, .string ⟨cc.frm.ref.toArray⟩, .slice qm cc.merges.length cm, .slice qc cc.changes.length cc2] 158)).heap.size = w2.heap.size + 1 := by simp
        have hw2 := hk2.size
        have hC := Cb.new #[.string ⟨cc.word.toArray⟩, .string ⟨cc.ref.toArray⟩, .int .i64 cc.mark, .string ⟨cc.au.name.toArray⟩, .string ⟨cc.au.mail.toArray⟩, .int .i64 cc.au.time, .string ⟨cc.data.toArray⟩, .int .i64 cc.frm.mark, .string ⟨cc.frm.ref.toArray⟩, .slice qm cc.merges.length cm, .slice qc cc.changes.length cc2] 158 w2
        obtain ⟨c0, c1, f0, f1, pos, ⟨m, hm⟩, short⟩ := hr3
        go_wp2_with (at_builtin; refine wpList_append_own_at _ rfl (.tmp 18) (.tmp 20) 90 rfl w.heap.size 158 i0 _ 11 168 Tryz.underlying90 hi hz0 hz1 hz2 rfl (by decide) _ _ _ rfl ((hown2.alloc _).alloc _) ⟨w2.heap.size + 1, 0, none⟩ 1 1 [.string ⟨cc.word.toArray⟩, .string ⟨cc.ref.toArray⟩, .int .i64 cc.mark, .string ⟨cc.au.name.toArray⟩, .string ⟨cc.au.mail.toArray⟩, .int .i64 cc.au.time, .string ⟨cc.data.toArray⟩, .int .i64 cc.frm.mark, .string ⟨cc.frm.ref.toArray⟩, .slice qm cc.merges.length cm, .slice qc cc.changes.length cc2] rfl rfl ?c1 ?c2 ?c3 ?c4 ?c5 ?_)
        case c1 =>
          have hcn := cells_new (w2.alloc (.cells #[.string ⟨cc.word.toArray⟩, .string ⟨cc.ref.toArray⟩, .int .i64 cc.mark, .string ⟨cc.au.name.toArray⟩, .string ⟨cc.au.mail.toArray⟩, .int .i64 cc.au.time, .string ⟨cc.data.toArray⟩, .int .i64 cc.frm.mark, .string ⟨cc.frm.ref.toArray⟩, .slice qm cc.merges.length cm, .slice qc cc.changes.length cc2] 158)) [.string ⟨cc.word.toArray⟩, .string ⟨cc.ref.toArray⟩, .int .i64 cc.mark, .string ⟨cc.au.name.toArray⟩, .string ⟨cc.au.mail.toArray⟩, .int .i64 cc.au.time, .string ⟨cc.data.toArray⟩, .int .i64 cc.frm.mark, .string ⟨cc.frm.ref.toArray⟩, .slice qm cc.merges.length cm, .slice qc cc.changes.length cc2] 158
          rw [World.size_alloc] at hcn
          exact hcn
        case c2 => simp [Value.oneCell']
        case c3 => unfold maxLen; omega
        case c4 => omega
        case c5 => simp at hw2 ⊢; omega
        intro v4 w4 hown4 hgrow4 _ hloc4
        have hk4 : Kx (Only b) w w4 := (hk3.alloc _).grown hgrow4 (fun k he => (hown2.lt k he).1)
        have hr4 : Rd b s2 false w4 := ((hr2.alloc _).alloc _).grown hgrow4 (fun k he => by have := (hown2.lt k he).1; omega)
        go_wp2
        go_roundw
        case rel =>
          have hrow1 : CoRow w2 w.heap.size (Value.slice av n cv).ownBlock cs xs := hrow.kept (((Kx.refl (Only b) _).drewN q).trans hk2) (fun k hk' _ _ e => by unfold Only at e; omega)
          have hvl : ∀ k, (Value.slice av n cv).ownBlock = some k → k < wr.heap.size := fun k e => (hown.lt k e).2
          have hS3 : CoS w2 wr.heap.size (.slice qm cc.merges.length cm) (.slice qc cc.changes.length cc2) cc := hS2
          have g1 : ∀ k, (Value.slice qm cc.merges.length cm).ownBlock = some k → (Value.slice av n cv).ownBlock ≠ some k := fun k e1 e2 => by have h1 := hvl k e2; have h2 := (hS3.mb k e1).1; omega
          have g2 : ∀ k, (Value.slice qc cc.changes.length cc2).ownBlock = some k → (Value.slice av n cv).ownBlock ≠ some k := fun k e1 e2 => by have h1 := hvl k e2; have h2 := (hS3.cb k e1).1; omega
          have hrow2 := CoRow.snoc (hS3.mono hsz) g1 g2 hrow1
          have hkg : Kx (fun k => (Value.slice av n cv).ownBlock = some k) w2 w4 := (((Kx.refl _ _).alloc _).alloc _).trans ((Kx.of_grown hgrow4).mono (fun k _ e => e.symm))
          have hrow5 := hrow2.step (G' := v4.ownBlock) hkg (fun k _ _ hne e => hne e) (fun k hk' hne e => by
            rcases hloc4 with h | h
            · exact hne (h ▸ e)
            · rw [h] at e
              have := Option.some.inj e
              omega)
          exact ⟨n + 1, s2, _, cs ++ [cc], by rw [HN.out]; simp, hrow5, HV2.out, by omega, hr4, hk4, hown4, HE2.out⟩
        case measure => rw [hr4.left, hr.left]; exact hlt
      · have HE2 : Hid (R = (n, (Pu.readOne s1 false).1, (Pu.readOne s1 false).2)) := by
          show _ = _
          rw [HE.out, Pu.readAllF_bad _ _ _ _ hw hbd]
        have HV2 : Hid (RV = cs) := by
          show _ = _
          rw [HV.out, Pu.readAllV_bad _ _ _ hw hbd, List.append_nil]
        have HB : Hid ((Pu.readOne s1 false).2 = true) := hbd
        clear HE hw hbd
        go_wp2_with fail
        refine (readOne_any b s1 false _ (hr.drewN q)).mono ?_
        rintro e w2 ⟨⟨v, rfl, vm, vc, hvv, hS2⟩, hr2, hk2⟩
        generalize Pu.readOneV s1 false = cc at *
        obtain ⟨qm, cm, hvm, _⟩ := id hS2.ms
        obtain ⟨qc, cc2, hvc, _⟩ := id hS2.cs
        subst hvm hvc hvv
        unfold coC
        rw [HB.out] at hr2 HE2
        generalize (Pu.readOne s1 false).1 = s2 at *
        have hr3 := hr2.alloc (.cells #[.string ⟨cc.word.toArray⟩, .string ⟨cc.ref.toArray⟩, .int .i64 cc.mark, .string ⟨cc.au.name.toArray⟩, .string ⟨cc.au.mail.toArray⟩, .int .i64 cc.au.time, .string ⟨cc.data.toArray⟩, .int .i64 cc.frm.mark, .string ⟨cc.frm.ref.toArray⟩, .slice qm cc.merges.length cm, .slice qc cc.changes.length cc2] 158)
        have hr4 := hr3
        have hk3 := ((hk.drewN q).trans hk2).alloc (.cells #[.string ⟨cc.word.toArray⟩, .string ⟨cc.ref.toArray⟩, .int .i64 cc.mark, .string ⟨cc.au.name.toArray⟩, .string ⟨cc.au.mail.toArray⟩, .int .i64 cc.au.time, .string ⟨cc.data.toArray⟩, .int .i64 cc.frm.mark, .string ⟨cc.frm.ref.toArray⟩, .slice qm cc.merges.length cm, .slice qc cc.changes.length cc2] 158)
        obtain ⟨c0, c1, f0, f1, pos, ⟨m, hm⟩, short⟩ := hr3
        go_wp2
        go_ret
        refine ⟨⟨av, cv, ?_, ?_⟩, ?_, ?_, hk3⟩
        · rw [HE2.out]; rfl
        · rw [HE2.out, HV2.out]
          have hown2 := own_kept (own_kept hown ((Kx.refl (Only b) _).drewN q) hb) hk2 hb
          have hrow1 := hrow.kept (((Kx.refl (Only b) _).drewN q).trans hk2) (fun k hk' _ _ e => by unfold Only at e; omega)
          have hN := HN.out
          subst hN
          exact CosAt.of_own (hown2.alloc _) (hrow1.kept (X := fun _ => False) ((Kx.refl _ _).alloc _) (fun _ _ _ _ => id)) (Nat.le_refl _)
        · rw [HE2.out]; exact hr4
        · rw [HE2.out]; show n ≤ 8000; omega
    · have hwb : Pu.word s1 = [100, 111, 110, 101] := beq_iff_eq.1 hw
      have HE2 : Hid (R = (n, (Pu.exactly Pu.sDone s1 false).1, (Pu.exactly Pu.sDone s1 false).2)) := by
        show _ = _
        rw [HE.out, Pu.readAllF_done _ _ _ _ hw]
      have HV2 : Hid (RV = cs) := by
        show _ = _
        rw [HV.out, Pu.readAllV_done _ _ _ hw, List.append_nil]
      clear HE hw
      rw [hwb]
      clear hwb
      go_wp2_with fail
      refine (exactly_any b s1 false Pu.sDone _ (hr.drewN q)).mono ?_
      rintro e w2 ⟨rfl, hr2, hk2⟩
      generalize Pu.exactly Pu.sDone s1 false = st at *
      obtain ⟨s2, bad2⟩ := st
      go_wp2
      go_ret
      refine ⟨⟨av, cv, ?_, ?_⟩, ?_, ?_, (hk.drewN q).trans hk2⟩
      · rw [HE2.out]; rfl
      · rw [HE2.out, HV2.out]
        have hown2 := own_kept (own_kept hown ((Kx.refl (Only b) _).drewN q) hb) hk2 hb
        have hrow1 := hrow.kept (((Kx.refl (Only b) _).drewN q).trans hk2) (fun k hk' _ _ e => by unfold Only at e; omega)
        have hN := HN.out
        subst hN
        exact CosAt.of_own hown2 hrow1 (Nat.le_refl _)
      · rw [HE2.out]; exact hr2
      · rw [HE2.out]; show n ≤ 8000; omega

end Go.Proofs.YtepgoppgblfjbaaGreatDoor

/- command.Read and braid.Check: for every string, what they answer. -/
namespace Go.Proofs.YtepgoppgblfjbaaGreatDoor
open Go.RowKit

theorem Rd.new (s : List UInt8) (m : Int) (w : World) (hz : 6 < w.heap.size) (hm : w.cell? ⟨1, 0, none⟩ = some (.int .i64 m)) (hs : s.length ≤ 8000) : Rd w.heap.size s false (w.alloc (.cells #[.string ⟨s.toArray⟩, .bool false] 144)) := by
  have h0 := lt_of_cell hm
  have hC := Cb.new #[.string ⟨s.toArray⟩, .bool false] 144 w
  refine ⟨hC.cell 0, hC.cell 1, hC.frozen 0, hC.frozen 1, hz, ⟨m, ?_⟩, hs⟩
  have hk := (Kx.refl (fun _ => False) w).alloc (.cells #[.string ⟨s.toArray⟩, .bool false] 144)
  rw [hk.cell (p := ⟨1, 0, none⟩) h0 id]; exact hm

theorem new_only {w w' : World} {o : Obj} (h : Kx (Only w.heap.size) (w.alloc o) w') : Kx (fun _ => False) w w' :=
  ((Kx.refl (fun _ => False) w).alloc o).trans' h (fun j hj e => by unfold Only at e; omega)

set_option maxHeartbeats 400000 in
theorem clone_any (s : List UInt8) (w : World) (hs : s.length ≤ 281474976710656) :
    Calls Tryz.prog 78 #[.string ⟨s.toArray⟩] w fun e w' => e = .returned (.string ⟨s.toArray⟩) ∧ Kx (fun _ => False) w w' := by
  go_enter Tryz.func78, Tryz.ntmps78
  go_wp2_with fail
  refine (Tryz.stringslite_Clone ⟨s.toArray⟩ _ (by simpa [ByteArray.size] using hs)).mono ?_
  rintro e w1 ⟨rfl, hb⟩
  go_wp2
  go_ret
  exact ⟨rfl, Kx.of_below hb⟩

set_option maxHeartbeats 800000 in
theorem read_any (s : List UInt8) (m : Int) (w : World) (hz : 6 < w.heap.size) (hm : w.cell? ⟨1, 0, none⟩ = some (.int .i64 m)) (hmax : s.length ≤ maxLen) :
    Calls Tryz.prog 49 #[.string ⟨s.toArray⟩] w fun e w' => (∃ a n c, e = .returned (.tuple #[.slice a n c, .int .i64 (Pu.check s).1, .int .i64 (Pu.check s).2]) ∧ ((Pu.check s).2 = 0 → CosAt w' w.heap.size (.slice a n c) (Pu.commands s))) ∧ Kx (fun _ => False) w w' := by
  unfold maxLen at hmax
  by_cases hl : 8000 < s.length
  · have HE : Hid (Pu.check s = (0, 2)) := by show _ = _; unfold Pu.check; rw [if_pos hl]
    have hl2 : (8000 : Int) < (s.length : Int) := by omega
    go_enter Tryz.func49, Tryz.ntmps49
    go_wp2
    go_ret3
    exact ⟨⟨none, 0, 0, by rw [HE.out]; rfl, fun h => by rw [HE.out] at h; cases h⟩, Kx.refl _ _⟩
  · have hs : s.length ≤ 8000 := by omega
    have hl2 : ¬ (8000 : Int) < (s.length : Int) := by omega
    have HE : Hid (Pu.check s = if (Pu.readAll s).2.2 then (((Pu.readAll s).1 : Int) + 1, 1)
        else if (Pu.readAll s).2.1 != [] then (((Pu.readAll s).1 : Int) + 2, 1)
        else if 60 < (Pu.readAll s).1 then (0, 2) else ((Pu.readAll s).1, 0)) := by show _ = _; unfold Pu.check; rw [if_neg hl]
    go_enter Tryz.func49, Tryz.ntmps49
    go_wp2_with fail
    refine (clone_any s _ (by omega)).mono ?_
    rintro e w0 ⟨rfl, hk0⟩
    have hz0 : 6 < w0.heap.size := Nat.lt_of_lt_of_le hz hk0.size
    have hm0 : w0.cell? ⟨1, 0, none⟩ = some (.int .i64 m) := by rw [hk0.cell (p := ⟨1, 0, none⟩) (lt_of_cell hm) id]; exact hm
    have hr0 := Rd.new s m w0 hz0 hm0 hs
    have hw0 := hk0.size
    go_wp2_with fail
    refine (readAll_any w0.heap.size s _ hr0).mono ?_
    rintro e w1 ⟨⟨av, cv, rfl, hcos⟩, hr, hn, hk⟩
    have hcos1 : CosAt w1 w.heap.size (.slice av (Pu.readAll s).1 cv) (Pu.commands s) := hcos.mono (by rw [World.size_alloc]; omega)
    generalize Pu.readAll s = R at *
    obtain ⟨n, s1, bad1⟩ := R
    have hbel : Kx (fun _ => False) w w1 := hk0.trans (new_only hk)
    obtain ⟨c0, c1, f0, f1, pos, ⟨m1, hm1⟩, short⟩ := hr
    have HC : Hid (CosAt w1 w.heap.size (.slice av n cv) (Pu.commands s)) := hcos1
    clear hk hr0 hcos hcos1
    cases bad1
    · by_cases h0 : s1 = []
      · subst h0
        by_cases h60 : 60 < n
        · have HE2 : Hid (Pu.check s = (0, 2)) := by show _ = _; rw [HE.out]; simp [h60]
          have h61 : (60 : Int) < (n : Int) := by omega
          clear HE
          go_wp2
          go_ret3
          exact ⟨⟨none, 0, 0, by rw [HE2.out]; rfl, fun h => by rw [HE2.out] at h; cases h⟩, hbel⟩
        · have HE2 : Hid (Pu.check s = ((n : Int), 0)) := by show _ = _; rw [HE.out]; simp [h60]
          have h61 : ¬ (60 : Int) < (n : Int) := by omega
          clear HE
          go_wp2
          go_ret3
          exact ⟨⟨av, n, cv, by rw [HE2.out]; rfl, fun _ => HC.out⟩, hbel⟩
      · have HE2 : Hid (Pu.check s = ((n : Int) + 2, 1)) := by show _ = _; rw [HE.out]; simp [h0]
        have hb : (s1 == []) = false := by simpa using h0
        have hb2 : s1.isEmpty = false := by simpa using h0
        clear HE
        go_wp2
        go_ret3
        exact ⟨⟨none, 0, 0, by rw [HE2.out]; rfl, fun h => by rw [HE2.out] at h; cases h⟩, hbel⟩
    · have HE2 : Hid (Pu.check s = ((n : Int) + 1, 1)) := by show _ = _; rw [HE.out]; simp
      clear HE
      go_wp2
      go_ret3
      exact ⟨⟨none, 0, 0, by rw [HE2.out]; rfl, fun h => by rw [HE2.out] at h; cases h⟩, hbel⟩

set_option maxHeartbeats 400000 in
theorem check_any (s : List UInt8) (m : Int) (w : World) (hz : 6 < w.heap.size) (hm : w.cell? ⟨1, 0, none⟩ = some (.int .i64 m)) (hmax : s.length ≤ maxLen) :
    Calls Tryz.prog 18 #[.string ⟨s.toArray⟩] w fun e w' => e = .returned (.tuple #[.int .i64 (Pu.check s).1, .int .i64 (Pu.check s).2]) ∧ Kx (fun _ => False) w w' := by
  go_enter Tryz.func18, Tryz.ntmps18
  go_wp2_with fail
  refine (read_any s m _ hz hm hmax).mono ?_
  rintro e w1 ⟨⟨a, n, c, rfl, _⟩, hbel⟩
  go_wp2
  go_ret2
  exact ⟨rfl, hbel⟩

/-- The variable that the library's search reads, and that there are all of them. -/
def Mx (m : Int) (w : World) : Prop := 6 < w.heap.size ∧ w.cell? ⟨1, 0, none⟩ = some (.int .i64 m)

theorem max_kept {w w' : World} {m : Int} (hm : Mx m w) (hk : ∀ X, Kx X w w') : Mx m w' := by
  refine ⟨Nat.lt_of_lt_of_le hm.1 (hk (fun _ => False)).size, ?_⟩
  rw [(hk (fun _ => False)).cell (p := ⟨1, 0, none⟩) (lt_of_cell hm.2) id]; exact hm.2

end Go.Proofs.YtepgoppgblfjbaaGreatDoor
