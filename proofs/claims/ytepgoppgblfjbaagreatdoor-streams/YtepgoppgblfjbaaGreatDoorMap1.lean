/- Maps as functions from their keys. -/
import Derived.Test.YtepgoppgblfjbaaGreatDoorBlock
import Derived.Maps.OwnSet
import Derived.Maps.RangeWalk
import Derived.Sort.KeysCollected
namespace Go.Proofs.YtepgoppgblfjbaaGreatDoor
open Go.RowKit Go.Maps Go.WideMaps

/-- An element is held as it is. -/
def Rv (v : Value) : Option (DataW Value × List MemPlace) := some (.held v, [])

/-- What a key leads to, or else. -/
def heldOr (x : Option Value) (zd : DataW Value) : DataW Value := match x with | some v => .held v | none => zd

/-- Block b is a map of at most n entries, from texts. -/
def MapS (P : Program) (K : TypeId) (w : World) (b n : Nat) (f : List UInt8 → Option Value) : Prop :=
  ∃ D : DataW Value, w.ownsMap P K Rv b n D ∧ ∀ k zd, D.atKey (.string k) zd = heldOr (f k) zd

/-- Block b is a map of at most n entries, from numbers. -/
def MapI (P : Program) (K : TypeId) (w : World) (b n : Nat) (f : Int → Option Value) : Prop :=
  ∃ D : DataW Value, w.ownsMap P K Rv b n D ∧ ∀ k zd, D.atKey (.int .i64 k) zd = heldOr (f k) zd

/-- A function with one place turned. -/
def upd {α β : Type} [DecidableEq α] (f : α → Option β) (k : α) (v : Option β) : α → Option β := fun x => if x = k then v else f x

theorem upd_same {α β : Type} [DecidableEq α] (f : α → Option β) (k : α) (v : Option β) : upd f k v k = v := by simp [upd]
theorem upd_other {α β : Type} [DecidableEq α] (f : α → Option β) (k x : α) (v : Option β) (h : x ≠ k) : upd f k v x = f x := by simp [upd, h]

section
variable {P : Program} {K : TypeId} {w w' : World} {b n : Nat} {f : List UInt8 → Option Value} {g : Int → Option Value}

theorem MapS.lt (h : MapS P K w b n f) : b < w.heap.size := by obtain ⟨D, h, _⟩ := h; exact h.lt
theorem MapI.lt (h : MapI P K w b n g) : b < w.heap.size := by obtain ⟨D, h, _⟩ := h; exact h.lt
theorem MapS.mono (h : MapS P K w b n f) {m : Nat} (hm : n ≤ m) : MapS P K w b m f := by obtain ⟨D, h, ha⟩ := h; exact ⟨D, h.mono hm, ha⟩
theorem MapI.mono (h : MapI P K w b n g) {m : Nat} (hm : n ≤ m) : MapI P K w b m g := by obtain ⟨D, h, ha⟩ := h; exact ⟨D, h.mono hm, ha⟩

theorem ownsMap_kx {R : Value → Option (DataW Value × List MemPlace)} {D : DataW Value} {X : Nat → Prop} (h : w.ownsMap P K R b n D) (hk : Kx X w w') (hX : ¬ X b) : w'.ownsMap P K R b n D := by
  have hlt := h.lt
  obtain ⟨es, clock, hb, r⟩ := h
  exact ⟨es, clock, (hk.block b hlt hX).trans hb, r⟩

theorem MapS.kept {X : Nat → Prop} (h : MapS P K w b n f) (hk : Kx X w w') (hX : ¬ X b) : MapS P K w' b n f := by obtain ⟨D, h, ha⟩ := h; exact ⟨D, ownsMap_kx h hk hX, ha⟩
theorem MapI.kept {X : Nat → Prop} (h : MapI P K w b n g) (hk : Kx X w w') (hX : ¬ X b) : MapI P K w' b n g := by obtain ⟨D, h, ha⟩ := h; exact ⟨D, ownsMap_kx h hk hX, ha⟩

theorem MapS.made (w : World) : MapS P K (w.alloc (.map #[] 0)) w.heap.size 0 (fun _ => none) :=
  ⟨.map [], World.ownsMap_made w P K Rv, fun _ _ => rfl⟩
theorem MapI.made (w : World) : MapI P K (w.alloc (.map #[] 0)) w.heap.size 0 (fun _ => none) :=
  ⟨.map [], World.ownsMap_made w P K Rv, fun _ _ => rfl⟩

theorem has_of_heldOr {D : DataW Value} {kl : Lit} {x : Option Value} (h : ∀ zd, D.atKey kl zd = heldOr x zd) : has D kl = x.isSome := by
  cases x with
  | none => exact has_false_of_atKey h
  | some v => exact has_true_of_atKey h

theorem held_of {v : Value} {x : Option Value} {z : Value} {ps : List MemPlace} (h : Rv v = some (heldOr x (.held z), ps)) : v = x.getD z := by
  unfold Rv at h
  cases x with
  | none => simp [heldOr] at h; exact h.1
  | some u => simp [heldOr] at h; exact h.1

/-- The block alone may have turned. -/
theorem Kx.of_grown {row : Option Nat} (h : w.grownBy w' row) : Kx (fun k => some k = row) w w' := ⟨h.os, h.tape, h.output, h.size, fun k hk hx => h.block k hk hx⟩

section
variable {ops : Array Oper} {rest : List Oper} {o : Oper} {a : Act} {Q : Exit → Act → World → Prop}

/-- 'm[k]'. -/
theorem wpList_lookS (hg : o.guard = none) (m x : Operand) (t : TypeId) (hop : o.op = Op.lookup t m x false) (e : TypeId) (hK : P.underlying K = some .string) (ht : P.underlying t = some (.map K e)) (z : Value) (hz : (zeroValue e).run P w = .ok z w)
    (b n : Nat) (f : List UInt8 → Option Value) (hm : a.eval m = .map (some b)) (h : MapS P K w b n f) (k : List UInt8) (hx : a.eval x = .string ⟨k.toArray⟩) (hk : k.length ≤ maxLen)
    (hc : wpList P ops Q rest (a.put o.dst ((f k).getD z)) w) : wpList P ops Q (o :: rest) a w := by
  obtain ⟨D, hown, ha⟩ := h
  refine wpList_plain hg fun K' hK' => ?_
  obtain ⟨v, ps, hrun, hv⟩ := hown.lookup (string_keyed hK) ht hz (zd := .held z) (zp := []) rfl (keyOf_string_mk (s := ⟨k.toArray⟩) hK (by simpa [ByteArray.size] using hk))
  rw [show (⟨k.toArray⟩ : ByteArray).data.toList = k from rfl, ha] at hv
  obtain rfl := held_of hv
  unfold Oper.wp
  simp [execOp, hop, hm, hx, hrun, Result.andThen]
  exact hK' _ _ hc

/-- 'v, ok := m[k]'. -/
theorem wpList_lookOkS (hg : o.guard = none) (m x : Operand) (t : TypeId) (hop : o.op = Op.lookup t m x true) (e : TypeId) (hK : P.underlying K = some .string) (ht : P.underlying t = some (.map K e)) (z : Value) (hz : (zeroValue e).run P w = .ok z w)
    (b n : Nat) (f : List UInt8 → Option Value) (hm : a.eval m = .map (some b)) (h : MapS P K w b n f) (k : List UInt8) (hx : a.eval x = .string ⟨k.toArray⟩) (hk : k.length ≤ maxLen)
    (hc : wpList P ops Q rest (a.put o.dst (.tuple #[(f k).getD z, .bool (f k).isSome])) w) : wpList P ops Q (o :: rest) a w := by
  obtain ⟨D, hown, ha⟩ := h
  refine wpList_plain hg fun K' hK' => ?_
  obtain ⟨v, ps, hrun, hv⟩ := hown.look_ok (string_keyed hK) ht hz (zd := .held z) (zp := []) rfl (keyOf_string_mk (s := ⟨k.toArray⟩) hK (by simpa [ByteArray.size] using hk))
  rw [show (⟨k.toArray⟩ : ByteArray).data.toList = k from rfl] at hv hrun
  rw [ha] at hv
  obtain rfl := held_of hv
  rw [has_of_heldOr (ha k)] at hrun
  unfold Oper.wp
  simp [execOp, hop, hm, hx, hrun, Result.andThen]
  exact hK' _ _ hc

theorem MapS.put {D : DataW Value} {f : List UInt8 → Option Value} (hD : IsMap D) (ha : ∀ k zd, D.atKey (.string k) zd = heldOr (f k) zd) (k : List UInt8) (v : Value) :
    ∀ k' zd, (D.put (.string k) (.held v)).atKey (.string k') zd = heldOr (upd f k (some v) k') zd := by
  intro k' zd
  by_cases e : k' = k
  · subst e
    rw [upd_same, atKey_put_same hD (by exact trivial)]; rfl
  · rw [upd_other _ _ _ _ e, atKey_put_other (by simpa using e), ha]

theorem MapI.put {D : DataW Value} {f : Int → Option Value} (hD : IsMap D) (ha : ∀ k zd, D.atKey (.int .i64 k) zd = heldOr (f k) zd) (k : Int) (v : Value) :
    ∀ k' zd, (D.put (.int .i64 k) (.held v)).atKey (.int .i64 k') zd = heldOr (upd f k (some v) k') zd := by
  intro k' zd
  by_cases e : k' = k
  · subst e
    rw [upd_same, atKey_put_same hD (by exact trivial)]; rfl
  · rw [upd_other _ _ _ _ e, atKey_put_other (by simpa using e), ha]

theorem MapS.cut {D : DataW Value} {f : List UInt8 → Option Value} (ha : ∀ k zd, D.atKey (.string k) zd = heldOr (f k) zd) (k : List UInt8) :
    ∀ k' zd, (D.del (.string k)).atKey (.string k') zd = heldOr (upd f k none k') zd := by
  intro k' zd
  by_cases e : k' = k
  · subst e
    rw [upd_same, atKey_del_same]; rfl
  · rw [upd_other _ _ _ _ e, atKey_del_other (by simpa using e), ha]

/-- 'm[k] = v'. -/
theorem wpList_putS (hg : o.guard = none) (m x v : Operand) (t : TypeId) (hop : o.op = Op.mapUpdate t m x v) (e : TypeId) (hK : P.underlying K = some .string) (ht : P.underlying t = some (.map K e))
    (b n : Nat) (f : List UInt8 → Option Value) (hm : a.eval m = .map (some b)) (h : MapS P K w b n f) (hn : n < maxLen) (k : List UInt8) (hx : a.eval x = .string ⟨k.toArray⟩) (hk : k.length ≤ maxLen) (val : Value) (hv : a.eval v = val)
    (hc : ∀ w', MapS P K w' b (n + 1) (upd f k (some val)) → Kx (Only b) w w' → wpList P ops Q rest (a.put o.dst undef) w') : wpList P ops Q (o :: rest) a w := by
  obtain ⟨D, hown, ha⟩ := h
  refine wpList_mapUpdate_own w hg m x v t hop K e (string_keyed hK) ht Rv b n D hm hown hn (.string ⟨k.toArray⟩) val (.string k) hx hv (keyOf_string_mk (s := ⟨k.toArray⟩) hK (by simpa [ByteArray.size] using hk)) (.held val) [] rfl ?_
  intro w' ho hgr
  exact hc w' ⟨_, ho, MapS.put hown.isMap ha k val⟩ ((Kx.of_grown hgr).mono (fun j _ e => by unfold Only; exact Option.some.inj e))

/-- 'delete(m, k)'. -/
theorem wpList_cutS (hg : o.guard = none) (m x : Operand) (t : TypeId) (hop : o.op = Op.call { callee := Callee.builtin Builtin.delete, args := #[m, x], argTypes := #[t, K] }) (e : TypeId) (hK : P.underlying K = some .string) (ht : P.underlying t = some (.map K e))
    (b n : Nat) (f : List UInt8 → Option Value) (hm : a.eval m = .map (some b)) (h : MapS P K w b n f) (k : List UInt8) (hx : a.eval x = .string ⟨k.toArray⟩) (hk : k.length ≤ maxLen)
    (hc : ∀ w', MapS P K w' b n (upd f k none) → Kx (Only b) w w' → wpList P ops Q rest (a.put o.dst (.tuple #[])) w') : wpList P ops Q (o :: rest) a w := by
  obtain ⟨D, hown, ha⟩ := h
  refine wpList_plain hg fun K' hK' => ?_
  obtain ⟨w', hrun, ho, ht'⟩ := hown.drop (string_keyed hK) ht (keyOf_string_mk (s := ⟨k.toArray⟩) hK (by simpa [ByteArray.size] using hk)) o.type
  unfold Oper.wp
  simp [execOp, hop, resolve, invoke, builtin, hm, hx, hrun, Result.andThen]
  exact hK' _ _ (hc w' ⟨_, ho, MapS.cut ha k⟩ ((Kx.of_grown ht'.grown).mono (fun j _ e => by unfold Only; exact Option.some.inj e)))

theorem wf64 {k : Int} (h0 : -9223372036854775808 ≤ k) (h1 : k ≤ 9223372036854775807) : (Lit.int .i64 k).wf = true := WalkArith.wf_i64 ⟨h0, h1⟩

/-- 'm[k]', a number. -/
theorem wpList_lookI (hg : o.guard = none) (m x : Operand) (t : TypeId) (hop : o.op = Op.lookup t m x false) (e : TypeId) (hK : P.underlying K = some (.int .i64)) (ht : P.underlying t = some (.map K e)) (z : Value) (hz : (zeroValue e).run P w = .ok z w)
    (b n : Nat) (f : Int → Option Value) (hm : a.eval m = .map (some b)) (h : MapI P K w b n f) (k : Int) (hx : a.eval x = .int .i64 k) (hk0 : -9223372036854775808 ≤ k) (hk1 : k ≤ 9223372036854775807)
    (hc : wpList P ops Q rest (a.put o.dst ((f k).getD z)) w) : wpList P ops Q (o :: rest) a w := by
  obtain ⟨D, hown, ha⟩ := h
  refine wpList_plain hg fun K' hK' => ?_
  obtain ⟨v, ps, hrun, hv⟩ := hown.lookup (int_keyed hK) ht hz (zd := .held z) (zp := []) rfl (keyOf_int_mk hK (wf64 hk0 hk1))
  rw [ha] at hv
  obtain rfl := held_of hv
  unfold Oper.wp
  simp [execOp, hop, hm, hx, hrun, Result.andThen]
  exact hK' _ _ hc

/-- 'v, ok := m[k]', a number. -/
theorem wpList_lookOkI (hg : o.guard = none) (m x : Operand) (t : TypeId) (hop : o.op = Op.lookup t m x true) (e : TypeId) (hK : P.underlying K = some (.int .i64)) (ht : P.underlying t = some (.map K e)) (z : Value) (hz : (zeroValue e).run P w = .ok z w)
    (b n : Nat) (f : Int → Option Value) (hm : a.eval m = .map (some b)) (h : MapI P K w b n f) (k : Int) (hx : a.eval x = .int .i64 k) (hk0 : -9223372036854775808 ≤ k) (hk1 : k ≤ 9223372036854775807)
    (hc : wpList P ops Q rest (a.put o.dst (.tuple #[(f k).getD z, .bool (f k).isSome])) w) : wpList P ops Q (o :: rest) a w := by
  obtain ⟨D, hown, ha⟩ := h
  refine wpList_plain hg fun K' hK' => ?_
  obtain ⟨v, ps, hrun, hv⟩ := hown.look_ok (int_keyed hK) ht hz (zd := .held z) (zp := []) rfl (keyOf_int_mk hK (wf64 hk0 hk1))
  rw [ha] at hv
  obtain rfl := held_of hv
  rw [has_of_heldOr (ha k)] at hrun
  unfold Oper.wp
  simp [execOp, hop, hm, hx, hrun, Result.andThen]
  exact hK' _ _ hc

/-- 'm[k] = v', a number. -/
theorem wpList_putI (hg : o.guard = none) (m x v : Operand) (t : TypeId) (hop : o.op = Op.mapUpdate t m x v) (e : TypeId) (hK : P.underlying K = some (.int .i64)) (ht : P.underlying t = some (.map K e))
    (b n : Nat) (f : Int → Option Value) (hm : a.eval m = .map (some b)) (h : MapI P K w b n f) (hn : n < maxLen) (k : Int) (hx : a.eval x = .int .i64 k) (hk0 : -9223372036854775808 ≤ k) (hk1 : k ≤ 9223372036854775807) (val : Value) (hv : a.eval v = val)
    (hc : ∀ w', MapI P K w' b (n + 1) (upd f k (some val)) → Kx (Only b) w w' → wpList P ops Q rest (a.put o.dst undef) w') : wpList P ops Q (o :: rest) a w := by
  obtain ⟨D, hown, ha⟩ := h
  refine wpList_mapUpdate_own w hg m x v t hop K e (int_keyed hK) ht Rv b n D hm hown hn (.int .i64 k) val (.int .i64 k) hx hv (keyOf_int_mk hK (wf64 hk0 hk1)) (.held val) [] rfl ?_
  intro w' ho hgr
  exact hc w' ⟨_, ho, MapI.put hown.isMap ha k val⟩ ((Kx.of_grown hgr).mono (fun j _ e => by unfold Only; exact Option.some.inj e))

end
end
end Go.Proofs.YtepgoppgblfjbaaGreatDoor
