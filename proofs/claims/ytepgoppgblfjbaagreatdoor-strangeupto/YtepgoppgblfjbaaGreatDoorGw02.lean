import Derived.Test.YtepgoppgblfjbaaGreatDoorProg
import Derived.WalkSpells
import Derived.WalkLawsBesides
import Derived.Deep.WholeRow
import Derived.Deep.MidRow
namespace Go.Proofs.YtepgoppgblfjbaaGreatDoor
open Go.RowKit

structure Kx (X : Nat → Prop) (w w' : World) : Prop where
  os : w'.os = w.os
  tape : w'.tape = w.tape
  output : w'.output = w.output
  size : w.heap.size ≤ w'.heap.size
  block : ∀ k, k < w.heap.size → ¬ X k → w'.heap[k]? = w.heap[k]?

theorem Kx.refl (X : Nat → Prop) (w : World) : Kx X w w := ⟨rfl, rfl, rfl, Nat.le_refl _, fun _ _ _ => rfl⟩

theorem Kx.trans {X : Nat → Prop} {a b c : World} (h : Kx X a b) (k : Kx X b c) : Kx X a c :=
  ⟨k.os.trans h.os, k.tape.trans h.tape, k.output.trans h.output, Nat.le_trans h.size k.size,
   fun i hi hx => (k.block i (Nat.lt_of_lt_of_le hi h.size) hx).trans (h.block i hi hx)⟩

theorem Kx.mono {X Y : Nat → Prop} {w w' : World} (h : Kx X w w') (hXY : ∀ k, k < w.heap.size → X k → Y k) : Kx Y w w' :=
  ⟨h.os, h.tape, h.output, h.size, fun i hi hy => h.block i hi (fun hx => hy (hXY i hi hx))⟩

theorem Kx.drew {X : Nat → Prop} {a w : World} (h : Kx X a w) : Kx X a w.drew := ⟨h.os, h.tape, h.output, h.size, h.block⟩

theorem Kx.drewN {X : Nat → Prop} {a w : World} (h : Kx X a w) (n : Nat) : Kx X a (w.drewN n) := ⟨h.os, h.tape, h.output, h.size, h.block⟩

theorem Kx.alloc {X : Nat → Prop} {a w : World} (h : Kx X a w) (o : Obj) : Kx X a (w.alloc o) :=
  h.trans ⟨rfl, rfl, rfl, by simp, fun k hk _ => Below.heap_alloc _ _ _ hk⟩

theorem Kx.setCell {X : Nat → Prop} {a w : World} (h : Kx X a w) {p : Addr} (hp : p.block < a.heap.size → X p.block) (u : Value) : Kx X a (w.setCell p u) :=
  ⟨h.os, h.tape, h.output, by simpa using h.size, fun k hk hx => by
    have hne : k ≠ p.block := by intro e; subst e; exact hx (hp hk)
    rw [Below.heap_setCell _ _ _ _ hne]; exact h.block k hk hx⟩

theorem Kx.cell {X : Nat → Prop} {w w' : World} (h : Kx X w w') {p : Addr} (hp : p.block < w.heap.size) (hx : ¬ X p.block) : w'.cell? p = w.cell? p :=
  World.cell?_of_block (w := w) (h.block p.block hp hx)

theorem Kx.frozen {X : Nat → Prop} {w w' : World} (h : Kx X w w') {p : Addr} (hp : p.block < w.heap.size) (hx : ¬ X p.block) : w'.frozen? p = w.frozen? p :=
  World.frozen?_of_block (w := w) (h.block p.block hp hx)

theorem Kx.of_below {X : Nat → Prop} {w w' : World} (h : Below w.heap.size w w') : Kx X w w' :=
  ⟨h.os, h.tape, h.output, h.size, fun k hk _ => h.block k hk⟩

theorem Kx.below {X : Nat → Prop} {B : Nat} {w w' : World} (h : Kx X w w') (hB : B ≤ w.heap.size) (hX : ∀ k, k < B → ¬ X k) : Below B w w' :=
  ⟨h.os, h.tape, h.output, h.size, fun k hk => h.block k (Nat.lt_of_lt_of_le hk hB) (hX k hk)⟩

theorem lt_of_cell {w : World} {p : Addr} {v : Value} (h : w.cell? p = some v) : p.block < w.heap.size := by
  unfold World.cell? at h
  by_cases hb : p.block < w.heap.size
  · exact hb
  · rw [Array.getElem?_eq_none (by omega)] at h; cases h

structure Rd (b : Nat) (s : List UInt8) (bad : Bool) (w : World) : Prop where
  c0 : w.cell? ⟨b, 0, none⟩ = some (.string ⟨s.toArray⟩)
  c1 : w.cell? ⟨b, 1, none⟩ = some (.bool bad)
  f0 : w.frozen? ⟨b, 0, none⟩ = false
  f1 : w.frozen? ⟨b, 1, none⟩ = false
  pos : 6 < b
  max : ∃ m, w.cell? ⟨1, 0, none⟩ = some (.int .i64 m)
  short : s.length ≤ 8000

theorem Rd.lt {b : Nat} {s : List UInt8} {bad : Bool} {w : World} (h : Rd b s bad w) : b < w.heap.size := lt_of_cell h.c0

theorem Rd.kept {b : Nat} {s : List UInt8} {bad : Bool} {X : Nat → Prop} {w w' : World} (h : Rd b s bad w) (k : Kx X w w') (h0 : ¬ X 1) (hb : ¬ X b) : Rd b s bad w' := by
  have hl := h.lt
  obtain ⟨m, hm⟩ := h.max
  have h00 := lt_of_cell hm
  refine ⟨?_, ?_, ?_, ?_, h.pos, ⟨m, ?_⟩, h.short⟩
  · rw [k.cell (p := ⟨b, 0, none⟩) hl hb]; exact h.c0
  · rw [k.cell (p := ⟨b, 1, none⟩) hl hb]; exact h.c1
  · rw [k.frozen (p := ⟨b, 0, none⟩) hl hb]; exact h.f0
  · rw [k.frozen (p := ⟨b, 1, none⟩) hl hb]; exact h.f1
  · rw [k.cell (p := ⟨1, 0, none⟩) h00 h0]; exact hm

theorem Rd.alloc {b : Nat} {s : List UInt8} {bad : Bool} {w : World} (h : Rd b s bad w) (o : Obj) : Rd b s bad (w.alloc o) :=
  h.kept (X := fun _ => False) ((Kx.refl _ _).alloc o) id id

theorem Rd.drewN {b : Nat} {s : List UInt8} {bad : Bool} {w : World} (h : Rd b s bad w) (n : Nat) : Rd b s bad (w.drewN n) :=
  h.kept (X := fun _ => False) ((Kx.refl _ _).drewN n) id id

def Only (b : Nat) : Nat → Prop := fun k => k = b

theorem Kx.setNew {X : Nat → Prop} {a w : World} (h : Kx X a w) {p : Addr} (hp : a.heap.size ≤ p.block) (u : Value) : Kx X a (w.setCell p u) :=
  h.setCell (fun hl => absurd hl (by omega)) u

theorem Kx.grown {X : Nat → Prop} {a w w' : World} {row : Option Nat} (h : Kx X a w) (hg : w.grownBy w' row) (hr : ∀ k, row = some k → a.heap.size ≤ k) : Kx X a w' :=
  ⟨hg.os.trans h.os, hg.tape.trans h.tape, hg.output.trans h.output, Nat.le_trans h.size hg.size,
   fun k hk hx => (hg.block k (Nat.lt_of_lt_of_le hk h.size) (fun e => by have := hr k e.symm; omega)).trans (h.block k hk hx)⟩

theorem new_cell {b : Nat} {w w1 : World} {c : Array Value} {t : TypeId} (hk : Kx (Only b) (w.alloc (.cells c t)) w1) (hb : b < w.heap.size) (o : Nat) :
    w1.cell? ⟨w.heap.size, o, none⟩ = c[o]? ∧ w1.frozen? ⟨w.heap.size, o, none⟩ = false := by
  have h : (w.alloc (.cells c t)).heap[w.heap.size]? = some (.cells c t) := by
    show (w.heap.push _)[w.heap.size]? = _
    simp
  have h1 := hk.block w.heap.size (by simp) (by unfold Only; omega)
  rw [h] at h1
  constructor
  · unfold World.cell?; rw [h1]; simp
  · unfold World.frozen?; rw [h1]; simp

theorem Rd.setOther {b : Nat} {s : List UInt8} {bad : Bool} {w : World} (h : Rd b s bad w) {p : Addr} (hp : p.block ≠ b) (h0 : p.block ≠ 1) (u : Value) : Rd b s bad (w.setCell p u) :=
  h.kept (X := Only p.block) ((Kx.refl (Only p.block) w).setCell (p := p) (fun _ => by simp [Only]) u) (fun e => h0 e.symm) (fun e => hp e.symm)

theorem Rd.setNew {b n o : Nat} {s : List UInt8} {bad : Bool} {w : World} (h : Rd b s bad w) (hn : b < n) (u : Value) : Rd b s bad (w.setCell ⟨n, o, none⟩ u) :=
  h.setOther (p := ⟨n, o, none⟩) (by show n ≠ b; omega) (by have := h.pos; show n ≠ 1; omega) u

theorem sI {α : Type} (l : List α) (i : Nat) (x : α) : l.toArray.setIfInBounds i x = (l.set i x).toArray := List.setIfInBounds_toArray ..
theorem sS {α : Type} (a : α) (l : List α) (n : Nat) (x : α) : (a :: l).set (n + 1) x = a :: l.set n x := rfl
theorem sZ {α : Type} (a : α) (l : List α) (x : α) : (a :: l).set 0 x = x :: l := rfl

def Cb (k : Nat) (cs : Array Value) (t : TypeId) (w : World) : Prop := w.heap[k]? = some (.cells cs t (0, 0))

theorem Cb.lt {k : Nat} {cs : Array Value} {t : TypeId} {w : World} (h : Cb k cs t w) : k < w.heap.size := (Array.getElem?_eq_some_iff.1 h).1

theorem Cb.cell {k : Nat} {cs : Array Value} {t : TypeId} {w : World} (h : Cb k cs t w) (j : Nat) : w.cell? ⟨k, j, none⟩ = cs[j]? := by
  unfold World.cell?; rw [h]; simp

theorem Cb.frozen {k : Nat} {cs : Array Value} {t : TypeId} {w : World} (h : Cb k cs t w) (j : Nat) : w.frozen? ⟨k, j, none⟩ = false := by
  unfold World.frozen?; rw [h]; simp

theorem Cb.new (cs : Array Value) (t : TypeId) (w : World) : Cb w.heap.size cs t (w.alloc (.cells cs t)) := by
  show (w.heap.push _)[w.heap.size]? = _
  simp

theorem Cb.alloc {k : Nat} {cs : Array Value} {t : TypeId} {w : World} (h : Cb k cs t w) (o : Obj) : Cb k cs t (w.alloc o) :=
  (Below.heap_alloc _ _ _ h.lt).trans h

theorem Cb.kept {k : Nat} {cs : Array Value} {t : TypeId} {X : Nat → Prop} {w w' : World} (h : Cb k cs t w) (hk : Kx X w w') (hx : ¬ X k) : Cb k cs t w' :=
  (hk.block k h.lt hx).trans h

theorem Cb.only {k b : Nat} {cs : Array Value} {t : TypeId} {w w' : World} (h : Cb k cs t w) (hk : Kx (Only b) w w') (hx : b < k) : Cb k cs t w' :=
  h.kept hk (by unfold Only; omega)

theorem Cb.setOther {k : Nat} {cs : Array Value} {t : TypeId} {w : World} (h : Cb k cs t w) {p : Addr} (hp : k ≠ p.block) (u : Value) : Cb k cs t (w.setCell p u) :=
  (Below.heap_setCell w p u k hp).trans h

theorem Cb.set {k : Nat} {cs : Array Value} {t : TypeId} {w : World} (h : Cb k cs t w) (j : Nat) (u : Value) : Cb k (cs.setIfInBounds j u) t (w.setCell ⟨k, j, none⟩ u) := by
  unfold Cb World.setCell
  simp only [Array.getElem?_modify]
  rw [if_pos trivial, h]; simp

theorem Cb.row {k : Nat} {cs : Array Value} {t : TypeId} {w : World} (h : Cb k cs t w) (cs' : Array Value) : Cb k cs' t (w.setRow k cs') := setRow_heap w k cs cs' t (0, 0) h

theorem Cb.rowOther {k g : Nat} {cs : Array Value} {t : TypeId} {w : World} (h : Cb k cs t w) (hne : k ≠ g) (cs' : Array Value) : Cb k cs t (w.setRow g cs') :=
  (setRow_other w g k cs' hne).trans h

theorem Kx.setRow {X : Nat → Prop} {a w : World} (h : Kx X a w) {g : Nat} (hg : g < a.heap.size → X g) (cs : Array Value) : Kx X a (w.setRow g cs) :=
  ⟨h.os, h.tape, h.output, by simpa using h.size, fun k hk hx => by
    have hne : k ≠ g := by intro e; subst e; exact hx (hg hk)
    rw [setRow_other _ _ _ _ hne]; exact h.block k hk hx⟩

def aggD : TypeDesc → Bool
  | .struct _ | .array _ _ => true
  | _ => false

theorem results_cell {fn : Func} {p : Tmp} {ty : TypeId} (h : fn.results = #[.cell p ty]) (tmps : Array Value) (P : Program) (w : World) :
    (results fn tmps).run P w = ((asAddr (tmps.getD p undef)).run P w).andThen fun a w₁ => (loadVar ty a).run P w₁ := by
  simp only [results, h]
  simp [Sem.run_bind, Result.andThen]

theorem results_arr {fn : Func} {p : Tmp} {ty : TypeId} (h : fn.results = #[.cell p ty]) {tmps : Array Value} {P : Program} {w : World} {k : Nat} {cs : Array Value} {d : TypeDesc} {bt : TypeId}
    (hp : tmps.getD p undef = .pointer (some ⟨k, 0, none⟩)) (hb : Cb k cs bt w) (hu : P.underlying ty = some d) (hd : aggD d = true) (hi : (P.info? ty).map (·.size) = some cs.size) :
    (results fn tmps).run P w = .ok (.agg cs) w := by
  rw [results_cell h, hp]
  exact run_loadVar_row _ _ bt ty cs (0, 0) _ hb hu (by cases d <;> first | rfl | cases hd) hi

theorem wpList_loadAll {P : Program} (w : World) {ops : Array Oper} {rest : List Oper} {o : Oper} {a : Act} {Q : Exit → Act → World → Prop} (hg : o.guard = none) (t : TypeId) (p : Operand) (hop : o.op = Op.load t p)
    {k : Nat} {cs : Array Value} {bt : TypeId} (hp : a.eval p = .pointer (some ⟨k, 0, none⟩)) (hb : Cb k cs bt w) {d : TypeDesc} (hu : P.underlying t = some d) (hd : aggD d = true) (hi : (P.info? t).map (·.size) = some cs.size)
    (hK : wpList P ops Q rest (a.put o.dst (.agg cs)) w) : wpList P ops Q (o :: rest) a w := by
  refine wpList_plain hg fun K' hK' => ?_
  have hrun : (Instr.loadAt t (.pointer (some ⟨k, 0, none⟩))).run P w = .ok (.agg cs) w := by
    simp only [Instr.loadAt, Instr.sureAddr, Sem.run_bind, Sem.run_pure, Result.andThen]
    exact run_loadVar_row _ _ bt t cs (0, 0) _ hb hu (by cases d <;> first | rfl | cases hd) hi
  unfold Oper.wp
  simp [execOp, hop, hp, hrun, Result.andThen]
  exact hK' _ _ hK

theorem exec_loadAt {P : Program} {w : World} {o : Oper} {a : Act} (t : TypeId) (p : Operand) (hop : o.op = Op.load t p)
    {k f : Nat} {cs : Array Value} (hp : a.eval p = .pointer (some ⟨k, f, none⟩)) (hr : w.rangeAt k f cs.toList) {d : TypeDesc} (hu : P.underlying t = some d) (hd : aggD d = true) (hi : (P.info? t).map (·.size) = some cs.size) :
    (execOp a.eval o).run P w = .ok (.value (.agg cs)) w := by
  have hrun := run_loadAt_mid (P := P) w k f t cs.toList d hr hu (by cases d <;> first | rfl | cases hd) (by rw [Array.length_toList]; exact hi)
  rw [Array.toArray_toList] at hrun
  simp [execOp, hop, hp, hrun, Result.andThen]

theorem wpList_loadAt {P : Program} (w : World) {ops : Array Oper} {rest : List Oper} {o : Oper} {a : Act} {Q : Exit → Act → World → Prop} (hg : o.guard = none) (t : TypeId) (p : Operand) (hop : o.op = Op.load t p)
    {k f : Nat} {cs : Array Value} (hp : a.eval p = .pointer (some ⟨k, f, none⟩)) (hr : w.rangeAt k f cs.toList) {d : TypeDesc} (hu : P.underlying t = some d) (hd : aggD d = true) (hi : (P.info? t).map (·.size) = some cs.size)
    (hK : wpList P ops Q rest (a.put o.dst (.agg cs)) w) : wpList P ops Q (o :: rest) a w := by
  refine wpList_plain hg fun K' hK' => ?_
  unfold Oper.wp
  rw [exec_loadAt t p hop hp hr hu hd hi]
  exact hK' _ _ hK

theorem wpList_storeAll {P : Program} (w : World) {ops : Array Oper} {rest : List Oper} {o : Oper} {a : Act} {Q : Exit → Act → World → Prop} (hg : o.guard = none) (t : TypeId) (p v : Operand) (hop : o.op = Op.store t p v)
    {k : Nat} {cs c' : Array Value} {bt : TypeId} (hp : a.eval p = .pointer (some ⟨k, 0, none⟩)) (hv : a.eval v = .agg c') (hb : Cb k cs bt w) (hi : (P.info? t).map (·.size) = some c'.size) (ho : cs.size = c'.size) (h1 : c'.all (·.oneCell') = true)
    (hK : wpList P ops Q rest (a.put o.dst undef) (w.setRow k c')) : wpList P ops Q (o :: rest) a w := by
  refine wpList_plain hg fun K' hK' => ?_
  have hrun : (Instr.storeAt t (.pointer (some ⟨k, 0, none⟩)) (.agg c')).run P w = .ok () (w.setRow k c') := by
    simp only [Instr.storeAt, Instr.sureAddr, Sem.run_bind, Sem.run_pure, Result.andThen]
    exact run_storeVar_row _ _ bt t cs c' hb hi ho h1
  unfold Oper.wp
  simp [execOp, hop, hp, hv, hrun, Result.andThen]
  exact hK' _ _ hK

def A32 (l : List Int) : Array Value := (l.map (Value.int .u32)).toArray

theorem A32_get (l : List Int) (k : Nat) (h : k < l.length) : (A32 l)[k]? = some (.int .u32 (l.getD k 0)) := by
  simp [A32, List.getD, h]

theorem A32_size (l : List Int) : (A32 l).size = l.length := by simp [A32]

theorem A32_range (l : List Int) (k f n : Nat) (bt : TypeId) (w : World) (h : Cb k (A32 l) bt w) (hn : f + n ≤ l.length) : w.rangeAt k f (A32 ((l.drop f).take n)).toList := by
  intro j v hv
  have hj : j < n := by have := (List.getElem?_eq_some_iff.1 hv).1; simp [A32] at this; omega
  rw [h.cell, A32_get _ _ (by omega), ← hv]
  simp [A32, List.getD, hj, List.getElem?_eq_getElem (show f + j < l.length by omega)]

theorem A32_one (l : List Int) : ∀ v ∈ (A32 l).toList, v.oneCell' = true := by
  intro v hv
  simp [A32] at hv
  obtain ⟨x, _, rfl⟩ := hv
  rfl

theorem A32_all (l : List Int) : (A32 l).all (·.oneCell') = true := by
  rw [Array.all_eq_true']
  intro v hv
  exact A32_one l v (by simpa using hv)

theorem Kx.only_set {b o : Nat} {a w : World} (h : Kx (Only b) a w) (u : Value) : Kx (Only b) a (w.setCell ⟨b, o, none⟩ u) :=
  h.setCell (p := ⟨b, o, none⟩) (fun _ => by simp [Only]) u

theorem Kx.join {X : Nat → Prop} {a b c : World} (h : Kx X a b) {Y : Nat → Prop} (k : Kx Y b c) (hY : ∀ j, j < a.heap.size → Y j → X j) : Kx X a c :=
  ⟨k.os.trans h.os, k.tape.trans h.tape, k.output.trans h.output, Nat.le_trans h.size k.size,
   fun i hi hx => (k.block i (Nat.lt_of_lt_of_le hi h.size) (fun hy => hx (hY i hi hy))).trans (h.block i hi hx)⟩

def OwnB (w : World) (base : Nat) (e : TypeId) (v : Value) (xs : List Value) : Prop :=
  (v = .slice none 0 0 ∧ xs = []) ∨
  ∃ g cap cur fz, v = .slice (some ⟨g, 0, none⟩) xs.length cap ∧ base ≤ g ∧ w.heap[g]? = some (.cells cur e fz) ∧ (fz.2 = 0 ∨ cur.size ≤ fz.1) ∧ xs.length ≤ cap ∧ cap ≤ maxLen ∧ cur.size = cap ∧ cur.toList.take xs.length = xs

theorem OwnB.slice {w : World} {base : Nat} {e : TypeId} {v : Value} {xs : List Value} (h : OwnB w base e v xs) : ∃ a c, v = .slice a xs.length c := by
  rcases h with ⟨rfl, rfl⟩ | ⟨g, cap, cur, fz, rfl, _⟩
  · exact ⟨_, _, rfl⟩
  · exact ⟨_, _, rfl⟩

theorem OwnB.lt {w : World} {base : Nat} {e : TypeId} {v : Value} {xs : List Value} (h : OwnB w base e v xs) : ∀ k, v.ownBlock = some k → base ≤ k ∧ k < w.heap.size := by
  intro k hk
  rcases h with ⟨rfl, _⟩ | ⟨g, cap, cur, fz, rfl, hb, hg, _⟩
  · simp [Value.ownBlock] at hk
  · simp [Value.ownBlock] at hk
    subst hk
    exact ⟨hb, (Array.getElem?_eq_some_iff.1 hg).1⟩

theorem OwnB.kept {w w' : World} {base : Nat} {e : TypeId} {v : Value} {xs : List Value} {X : Nat → Prop} (h : OwnB w base e v xs) (hk : Kx X w w') (hX : ∀ k, k < w.heap.size → v.ownBlock = some k → ¬ X k) : OwnB w' base e v xs := by
  rcases h with hn | ⟨g, cap, cur, fz, rfl, hbg, hgg, rest⟩
  · exact .inl hn
  · refine .inr ⟨g, cap, cur, fz, rfl, hbg, ?_, rest⟩
    have hl := (Array.getElem?_eq_some_iff.1 hgg).1
    rw [hk.block g hl (hX g hl rfl)]
    exact hgg

theorem OwnB.alloc {w : World} {base : Nat} {e : TypeId} {v : Value} {xs : List Value} (h : OwnB w base e v xs) (o : Obj) : OwnB (w.alloc o) base e v xs :=
  h.kept (X := fun _ => False) ((Kx.refl _ _).alloc o) (fun _ _ _ => id)

theorem OwnB.cell {w : World} {base : Nat} {e : TypeId} {v : Value} {xs : List Value} (h : OwnB w base e v xs) (hn : xs ≠ []) :
    ∃ g cap, v = .slice (some ⟨g, 0, none⟩) xs.length cap ∧ base ≤ g ∧ g < w.heap.size ∧ xs.length ≤ cap ∧ ∀ k x, xs[k]? = some x → w.cell? ⟨g, k, none⟩ = some x := by
  rcases h with ⟨_, rfl⟩ | ⟨g, cap, cur, fz, rfl, hb, hg, hz, hc, hm, hs, ht⟩
  · exact absurd rfl hn
  · refine ⟨g, cap, rfl, hb, (Array.getElem?_eq_some_iff.1 hg).1, hc, fun k x hx => ?_⟩
    have hk : k < xs.length := (List.getElem?_eq_some_iff.1 hx).1
    rw [← ht, List.getElem?_take_of_lt hk] at hx
    unfold World.cell?
    rw [hg]
    simpa using hx

theorem storeCells_B (P : Program) (g o : Nat) (t : TypeId) (fz : Nat × Nat) : ∀ (vs : List Value) (i : Nat) (cur : Array Value) (w : World), w.heap[g]? = some (.cells cur t fz) → (fz.2 = 0 ∨ cur.size ≤ fz.1) → o + i + vs.length ≤ cur.size → (∀ v ∈ vs, v.oneCell' = true) →
    (storeCells ⟨g, o, none⟩ vs i).run P w = .ok () (w.setRow g (cur.toList.take (o + i) ++ vs ++ cur.toList.drop (o + i + vs.length)).toArray)
  | [], i, cur, w, hg, _, _, _ => by
    simp only [storeCells, List.append_nil, List.length_nil, Nat.add_zero, List.take_append_drop, Array.toArray_toList]
    rw [setRow_self w g cur t fz hg]
    rfl
  | v :: rest, i, cur, w, hg, hz, hl, h1 => by
    have hi : o + i < cur.size := by simp at hl; omega
    have hadd : (⟨g, o, none⟩ : Addr).add i = ⟨g, o + i, none⟩ := by unfold Addr.add; split <;> simp_all
    have hcell : w.cell? ⟨g, o + i, none⟩ = some cur[o + i] := by simp [World.cell?, hg, hi]
    have hfro : w.frozen? ⟨g, o + i, none⟩ = false := by
      obtain ⟨lo, hi'⟩ := fz
      simp [World.frozen?, hg]
      intro h
      rcases hz with hz | hz <;> simp at hz <;> omega
    have hst : (store ((⟨g, o, none⟩ : Addr).add i) v).run P w = .ok () (w.setRow g (cur.setIfInBounds (o + i) v)) := by
      rw [hadd, run_store P w _ v _ (h1 v (by simp)), hcell]
      simp [hfro, setCell_eq_setRow w g (o + i) cur t fz v hg]
    have ih := storeCells_B P g o t fz rest (i + 1) (cur.setIfInBounds (o + i) v) (w.setRow g (cur.setIfInBounds (o + i) v)) (setRow_heap w g cur _ t _ hg) (by simpa using hz) (by simp at hl ⊢; omega) (fun x hx => h1 x (by simp [hx]))
    simp only [storeCells, Sem.run_bind, hst, Result.andThen_ok, ih, setRow_setRow]
    congr 3
    have e := list_seg_step cur.toList (o + i) v rest (by simp at hl ⊢; omega)
    simpa [Array.toList_setIfInBounds, Nat.add_assoc] using e

theorem run_append_B {P : Program} (w : World) (base : Nat) (t ty e : TypeId) (i : TypeInfo) (z : Value) (bytes : Nat) (ht : P.underlying t = some (.slice e)) (hi : P.info? e = some i) (hz : i.zero = some z)
    (hsize : i.size = 1) (hby : i.bytes = bytes) (hzs : z.cells.size = 1)
    (v : Value) (xs : List Value) (hown : OwnB w base e v xs)
    (a : Addr) (m c : Nat) (news : List Value) (hl : news.length = m) (hm0 : 0 < m) (hnews : ∀ j u, news[j]? = some u → w.cell? (a.add j) = some u) (h1 : ∀ u ∈ news, u.oneCell' = true)
    (h63 : xs.length + m ≤ maxLen) (hbytes : (xs.length + m) * bytes ≤ 140737488355328) (hbase : base ≤ w.heap.size) :
    ∃ v' w', (Builtin.append_ #[t, t] ty #[v, .slice (some a) m c]).run P w = .ok v' w' ∧ OwnB w' base e v' (xs ++ news) ∧ w.grownBy w' v.ownBlock ∧ (v'.ownBlock = v.ownBlock ∨ v'.ownBlock = some w.heap.size) := by
  subst hby
  have hsmall : xs.length + m ≤ 9223372036854775807 := by simp only [maxLen] at h63; omega
  have hlen : (xs ++ news).length = xs.length + m := by rw [List.length_append, hl]
  have grown : ∀ (old : Nat), old < xs.length + m → ∀ (row : Option Nat),
      OwnB (w.drew.alloc (.cells (xs.toArray ++ news.toArray ++ Builtin.zeroCells z.cells (grownCap w (xs.length + m) old e - (xs.length + m))) e)) base e
        (.slice (some ⟨w.heap.size, 0, none⟩) (xs.length + m) (grownCap w (xs.length + m) old e)) (xs ++ news) ∧
      w.grownBy (w.drew.alloc (.cells (xs.toArray ++ news.toArray ++ Builtin.zeroCells z.cells (grownCap w (xs.length + m) old e - (xs.length + m))) e)) row := by
    intro old ho row
    have hge := grownCap_ge w (xs.length + m) old e
    have hcm : grownCap w (xs.length + m) old e ≤ maxLen := grownCap_le_maxLen w (xs.length + m) old e h63
    refine ⟨.inr ⟨w.heap.size, _, _, (0, 0), by rw [hlen], hbase, heap_alloc_new w.drew _, .inl rfl, by rw [hlen]; exact hge, hcm, ?_, ?_⟩, ⟨rfl, rfl, rfl, by simp, fun k hk _ => Below.heap_alloc w.drew _ k hk⟩⟩
    · simp only [Array.size_append, List.size_toArray, size_zeroCells, hzs, hl, Nat.mul_one]
      omega
    · simp only [Array.toList_append, List.append_assoc]
      rw [← List.append_assoc]
      exact List.take_left
  rcases hown with ⟨rfl, rfl⟩ | ⟨g, cap, cur, fz, rfl, hbg, hg, hfz, hnc, hcm, hcs, htake⟩
  · have hr := run_append_nil (P := P) w t ty e i z ht hi hz a m c news (by rw [hl, hsize, Nat.mul_one]) hnews (by omega) (by simp at hsmall; omega) (by have hb := hbytes; simp only [List.length_nil, Nat.zero_add] at hb; omega)
    have hgr := grown 0 (by simp; omega) (Value.ownBlock (.slice none 0 0))
    simp only [List.length_nil, Nat.zero_add, List.nil_append, Array.empty_append] at hgr ⊢
    exact ⟨_, _, hr, hgr.1, hgr.2, .inr rfl⟩
  · by_cases hroom : xs.length + m ≤ cap
    · have hf := run_firstCells_some (P := P) w i.size m a m c news (by rw [hl, hsize, Nat.mul_one]) hnews
      have hst := storeCells_B P g xs.length e fz news 0 cur w hg hfz (by rw [hl, hcs]; omega) h1
      simp only [Nat.add_zero] at hst
      rw [hsize] at hf
      refine ⟨.slice (some ⟨g, 0, none⟩) (xs.length + m) cap, w.setRow g (cur.toList.take xs.length ++ news ++ cur.toList.drop (xs.length + news.length)).toArray, ?_, .inr ⟨g, cap, _, fz, by rw [hlen], hbg, setRow_heap w g cur _ e _ hg, ?_, by rw [hlen]; exact hroom, hcm, ?_, ?_⟩, ⟨rfl, rfl, rfl, by simp, fun k _ hk => setRow_other w g k _ (fun e => hk (by simp [Value.ownBlock, e]))⟩, .inl rfl⟩
      · simp [Builtin.append_, run_underlying ht, sizeOf, typeInfo, hi, Builtin.lenOf, hroom, hf, Addr.add_lit, hsize, hst]
      · rcases hfz with h | h
        · exact .inl h
        · refine .inr ?_
          simp only [List.size_toArray, List.length_append, List.length_take, List.length_drop, Array.length_toList]
          omega
      · simp only [List.size_toArray, List.length_append, List.length_take, List.length_drop, Array.length_toList]
        omega
      · rw [htake]
        simp only [List.append_assoc]
        rw [← List.append_assoc]
        exact List.take_left
    · have holds : ∀ j u, xs[j]? = some u → w.cell? ((⟨g, 0, none⟩ : Addr).add j) = some u := by
        intro j u hu
        have hadd : (⟨g, 0, none⟩ : Addr).add j = ⟨g, j, none⟩ := by unfold Addr.add; split <;> simp_all
        have hj : j < xs.length := (List.getElem?_eq_some_iff.1 hu).1
        rw [← htake, List.getElem?_take_of_lt hj] at hu
        rw [hadd]
        unfold World.cell?
        rw [hg]
        simpa using hu
      have hr := run_append_grow (P := P) w t ty e i z ht hi hz ⟨g, 0, none⟩ xs.length cap xs (by rw [hsize, Nat.mul_one]) holds a m c news (by rw [hl, hsize, Nat.mul_one]) hnews (by omega) (by omega) (growslice_fits (by omega) hbytes)
      have hgr := grown cap (by omega) (Value.ownBlock (.slice (some ⟨g, 0, none⟩) xs.length cap))
      exact ⟨_, _, hr, hgr.1, hgr.2, .inr rfl⟩

theorem wpList_append_B {P : Program} (w : World) {ops : Array Oper} {rest : List Oper} {o : Oper} {a : Act} {Q : Exit → Act → World → Prop} (hgd : o.guard = none) (s x : Operand) (t : TypeId)
    (ho : o.op = .call { callee := .builtin .append, args := #[s, x], argTypes := #[t, t] })
    (base : Nat) (e : TypeId) (i : TypeInfo) (z : Value) (bytes : Nat) (ht : P.underlying t = some (.slice e)) (hi : P.info? e = some i) (hz : i.zero = some z)
    (hsize : i.size = 1) (hby : i.bytes = bytes) (hzs : z.cells.size = 1)
    (v : Value) (xs : List Value) (hs : a.eval s = v) (hown : OwnB w base e v xs)
    (ad : Addr) (m c : Nat) (news : List Value) (hx : a.eval x = .slice (some ad) m c) (hl : news.length = m) (hm0 : 0 < m) (hnews : ∀ j u, news[j]? = some u → w.cell? (ad.add j) = some u) (h1 : ∀ u ∈ news, u.oneCell' = true)
    (h63 : xs.length + m ≤ maxLen) (hbytes : (xs.length + m) * bytes ≤ 140737488355328) (hbase : base ≤ w.heap.size)
    (h : ∀ v' w', OwnB w' base e v' (xs ++ news) → w.grownBy w' v.ownBlock → (v'.ownBlock = v.ownBlock ∨ v'.ownBlock = some w.heap.size) → wpList P ops Q rest (a.put o.dst v') w') : wpList P ops Q (o :: rest) a w := by
  refine wpList_plain hgd fun K' hK' => ?_
  obtain ⟨v', w', hr, h2, h3, h4⟩ := run_append_B (P := P) w base t o.type e i z bytes ht hi hz hsize hby hzs v xs hown ad m c news hl hm0 hnews h1 h63 hbytes hbase
  unfold Oper.wp execOp
  simp only [ho, resolve, invoke, builtin, Sem.run_bind, Sem.run_pure, Result.andThen_ok, List.map_toArray, List.map_cons, List.map_nil, hs, hx, hr]
  exact hK' _ _ (h v' w' h2 h3 h4)

def A8 (l : List UInt8) : List Value := l.map fun b => .int .u8 (b.toNat : Int)

theorem A8_len (l : List UInt8) : (A8 l).length = l.length := by simp [A8]

theorem strCells_A8 (l : List UInt8) : Lib.strCells ⟨l.toArray⟩ = A8 l := rfl

theorem A8_one (l : List UInt8) : ∀ v ∈ A8 l, v.oneCell' = true := by
  intro v hv
  simp [A8] at hv
  obtain ⟨x, _, rfl⟩ := hv
  rfl

theorem A8_app (a b : List UInt8) : A8 (a ++ b) = A8 a ++ A8 b := by simp [A8]

theorem run_append_Bs {P : Program} (w : World) (base : Nat) (t u ty e : TypeId) (i : TypeInfo) (ht : P.underlying t = some (.slice e)) (hu : P.underlying u = some .string) (hi : P.info? e = some i) (hz : i.zero = some (.int .u8 0))
    (hsize : i.size = 1) (hby : i.bytes = 1)
    (v : Value) (xs : List Value) (hown : OwnB w base e v xs) (s : List UInt8) (hs0 : 0 < s.length)
    (h63 : xs.length + s.length ≤ maxLen) (hbytes : (xs.length + s.length) * 1 ≤ 140737488355328) (hbase : base ≤ w.heap.size) :
    ∃ v' w', (Builtin.append_ #[t, u] ty #[v, .string ⟨s.toArray⟩]).run P w = .ok v' w' ∧ OwnB w' base e v' (xs ++ A8 s) ∧ w.grownBy w' v.ownBlock ∧ (v'.ownBlock = v.ownBlock ∨ v'.ownBlock = some w.heap.size) := by
  have hsz : (⟨s.toArray⟩ : ByteArray).size = s.length := by simp [ByteArray.size]
  have hsmall : xs.length + s.length ≤ 9223372036854775807 := by simp only [maxLen] at h63; omega
  have hlen : (xs ++ A8 s).length = xs.length + s.length := by rw [List.length_append, A8_len]
  have grown : ∀ (old : Nat), old < xs.length + s.length → ∀ (row : Option Nat),
      OwnB (w.drew.alloc (.cells (xs.toArray ++ (A8 s).toArray ++ Builtin.zeroCells (Value.int .u8 0).cells (grownCap w (xs.length + s.length) old e - (xs.length + s.length))) e)) base e
        (.slice (some ⟨w.heap.size, 0, none⟩) (xs.length + s.length) (grownCap w (xs.length + s.length) old e)) (xs ++ A8 s) ∧
      w.grownBy (w.drew.alloc (.cells (xs.toArray ++ (A8 s).toArray ++ Builtin.zeroCells (Value.int .u8 0).cells (grownCap w (xs.length + s.length) old e - (xs.length + s.length))) e)) row := by
    intro old ho row
    have hge := grownCap_ge w (xs.length + s.length) old e
    have hcm : grownCap w (xs.length + s.length) old e ≤ maxLen := grownCap_le_maxLen w (xs.length + s.length) old e h63
    have hz1 : (Value.int IntKind.u8 0).cells.size = 1 := rfl
    refine ⟨.inr ⟨w.heap.size, _, _, (0, 0), by rw [hlen], hbase, heap_alloc_new w.drew _, .inl rfl, by rw [hlen]; exact hge, hcm, ?_, ?_⟩, ⟨rfl, rfl, rfl, by simp, fun k hk _ => Below.heap_alloc w.drew _ k hk⟩⟩
    · simp only [Array.size_append, List.size_toArray, size_zeroCells, hz1, A8_len, Nat.mul_one]
      omega
    · simp only [Array.toList_append, List.append_assoc]
      rw [← List.append_assoc]
      exact List.take_left
  rcases hown with ⟨rfl, rfl⟩ | ⟨g, cap, cur, fz, rfl, hbg, hg, hfz, hnc, hcm, hcs, htake⟩
  · have hr := run_append_nil_string (P := P) w t u ty e i (.int .u8 0) ht hu hi hz ⟨s.toArray⟩ (by rw [hsz]; omega) (by rw [hsz]; simp at hsmall; omega) (by rw [hby, hsz]; simp at hbytes; omega)
    have hgr := grown 0 (by simp; omega) (Value.ownBlock (.slice none 0 0))
    have e1 : ((⟨s.toArray⟩ : ByteArray).data.map fun b => Value.int .u8 b.toNat) = (A8 s).toArray := by
      apply Array.ext'
      simp [A8]
    rw [e1, hsz] at hr
    simp only [List.length_nil, Nat.zero_add, List.nil_append, Array.empty_append] at hgr ⊢
    exact ⟨_, _, hr, hgr.1, hgr.2, .inr rfl⟩
  · by_cases hroom : xs.length + s.length ≤ cap
    · have hf := Lib.run_firstCells_string (P := P) w 1 ⟨s.toArray⟩
      rw [hsz, strCells_A8] at hf
      have hst := storeCells_B P g xs.length e fz (A8 s) 0 cur w hg hfz (by rw [A8_len, hcs]; omega) (A8_one s)
      simp only [Nat.add_zero] at hst
      refine ⟨.slice (some ⟨g, 0, none⟩) (xs.length + s.length) cap, w.setRow g (cur.toList.take xs.length ++ A8 s ++ cur.toList.drop (xs.length + (A8 s).length)).toArray, ?_, .inr ⟨g, cap, _, fz, by rw [hlen], hbg, setRow_heap w g cur _ e _ hg, ?_, by rw [hlen]; exact hroom, hcm, ?_, ?_⟩, ⟨rfl, rfl, rfl, by simp, fun k _ hk => setRow_other w g k _ (fun e => hk (by simp [Value.ownBlock, e]))⟩, .inl rfl⟩
      · simp [Builtin.append_, run_underlying ht, run_underlying hu, sizeOf, typeInfo, hi, hsize, Builtin.lenOf, hsz, hroom, hf, Addr.add_lit, hst]
      · rcases hfz with h | h
        · exact .inl h
        · refine .inr ?_
          simp only [List.size_toArray, List.length_append, List.length_take, List.length_drop, Array.length_toList, A8_len]
          omega
      · simp only [List.size_toArray, List.length_append, List.length_take, List.length_drop, Array.length_toList, A8_len]
        omega
      · rw [htake]
        simp only [List.append_assoc]
        rw [← List.append_assoc]
        exact List.take_left
    · have holds : ∀ j u, xs[j]? = some u → w.cell? ((⟨g, 0, none⟩ : Addr).add j) = some u := by
        intro j u hu
        have hadd : (⟨g, 0, none⟩ : Addr).add j = ⟨g, j, none⟩ := by unfold Addr.add; split <;> simp_all
        have hj : j < xs.length := (List.getElem?_eq_some_iff.1 hu).1
        rw [← htake, List.getElem?_take_of_lt hj] at hu
        rw [hadd]
        unfold World.cell?
        rw [hg]
        simpa using hu
      have hr := Lib.run_append_grow_string (P := P) w t u ty e i (.int .u8 0) ht hu hi hz ⟨g, 0, none⟩ xs.length cap xs (by rw [hsize, Nat.mul_one]) holds ⟨s.toArray⟩ (by rw [hsz]; omega) (by rw [hsz]; omega) (by rw [hsz, hby]; exact growslice_fits (by omega) hbytes)
      rw [hsz, strCells_A8] at hr
      have hgr := grown cap (by omega) (Value.ownBlock (.slice (some ⟨g, 0, none⟩) xs.length cap))
      exact ⟨_, _, hr, hgr.1, hgr.2, .inr rfl⟩

theorem wpList_append_Bs {P : Program} (w : World) {ops : Array Oper} {rest : List Oper} {o : Oper} {a : Act} {Q : Exit → Act → World → Prop} (hgd : o.guard = none) (sl x : Operand) (t u : TypeId)
    (ho : o.op = .call { callee := .builtin .append, args := #[sl, x], argTypes := #[t, u] })
    (base : Nat) (e : TypeId) (i : TypeInfo) (ht : P.underlying t = some (.slice e)) (hu : P.underlying u = some .string) (hi : P.info? e = some i) (hz : i.zero = some (.int .u8 0))
    (hsize : i.size = 1) (hby : i.bytes = 1)
    (v : Value) (xs : List Value) (hv : a.eval sl = v) (hown : OwnB w base e v xs) (s : List UInt8) (hx : a.eval x = .string ⟨s.toArray⟩) (hs0 : 0 < s.length)
    (h63 : xs.length + s.length ≤ maxLen) (hbytes : (xs.length + s.length) * 1 ≤ 140737488355328) (hbase : base ≤ w.heap.size)
    (h : ∀ v' w', OwnB w' base e v' (xs ++ A8 s) → w.grownBy w' v.ownBlock → (v'.ownBlock = v.ownBlock ∨ v'.ownBlock = some w.heap.size) → wpList P ops Q rest (a.put o.dst v') w') : wpList P ops Q (o :: rest) a w := by
  refine wpList_plain hgd fun K' hK' => ?_
  obtain ⟨v', w', hr, h2, h3, h4⟩ := run_append_Bs (P := P) w base t u o.type e i ht hu hi hz hsize hby v xs hown s hs0 h63 hbytes hbase
  unfold Oper.wp execOp
  simp only [ho, resolve, invoke, builtin, Sem.run_bind, Sem.run_pure, Result.andThen_ok, List.map_toArray, List.map_cons, List.map_nil, hv, hx, hr]
  exact hK' _ _ (h v' w' h2 h3 h4)

theorem wpList_bytesOf {P : Program} (w : World) {ops : Array Oper} {rest : List Oper} {o : Oper} {a : Act} {Q : Exit → Act → World → Prop} (hgd : o.guard = none) (src dst e : TypeId) (x : Operand) (ho : o.op = .convert src dst x)
    (hsrc : P.underlying src = some .string) (hd : P.underlying dst = some (.slice e)) (he : P.underlying e = some (.int .u8)) (l : List UInt8) (hx : a.eval x = .string ⟨l.toArray⟩) (hm : l.length ≤ maxLen)
    (h : ∀ v' w', OwnB w' w.heap.size e v' (A8 l) → Kx (fun _ => False) w w' → wpList P ops Q rest (a.put o.dst v') w') : wpList P ops Q (o :: rest) a w := by
  refine wpList_plain hgd fun K' hK' => ?_
  have hr := run_bytes_of_string (P := P) w src dst e ⟨l.toArray⟩ hsrc hd he
  have hsz : (⟨l.toArray⟩ : ByteArray).size = l.length := by simp [ByteArray.size]
  have hge := grownCap_ge w l.length 0 e
  have hcm : grownCap w l.length 0 e ≤ maxLen := grownCap_le_maxLen w l.length 0 e hm
  rw [hsz] at hr
  have hbr : (bytesRow ⟨l.toArray⟩ (grownCap w l.length 0 e)).size = grownCap w l.length 0 e := by
    simp [bytesRow, hsz]; omega
  have htk : (bytesRow ⟨l.toArray⟩ (grownCap w l.length 0 e)).toList.take (A8 l).length = A8 l := by
    simp [bytesRow, A8]
  unfold Oper.wp execOp
  simp only [ho, hx, Sem.run_bind, hr, Sem.run_pure, Result.andThen]
  refine hK' _ _ (h _ _ (.inr ⟨w.heap.size, grownCap w l.length 0 e, bytesRow ⟨l.toArray⟩ (grownCap w l.length 0 e), _, by rw [A8_len], Nat.le_refl _, heap_alloc_new w.drew _, .inr (Nat.le_refl _), by rw [A8_len]; exact hge, hcm, hbr, htk⟩) ((Kx.refl _ _).drew.alloc _))

namespace Sh
def mulHi (x y : Int) : Int :=
  let x0 := bits .and .u64 x 4294967295
  let x1 := x / 4294967296
  let y0 := bits .and .u64 y 4294967295
  let y1 := y / 4294967296
  let w0 := IntKind.u64.wrap (x0 * y0)
  let t := IntKind.u64.wrap (IntKind.u64.wrap (x1 * y0) + w0 / 4294967296)
  let w1 := IntKind.u64.wrap (bits .and .u64 t 4294967295 + IntKind.u64.wrap (x0 * y1))
  IntKind.u64.wrap (IntKind.u64.wrap (IntKind.u64.wrap (x1 * y1) + t / 4294967296) + w1 / 4294967296)

def pow (n : Int) : Nat → Int × Int
  | 0 => (0, 1)
  | k + 1 => (IntKind.u64.wrap (IntKind.u64.wrap ((pow n k).1 * n) + mulHi (pow n k).2 n), IntKind.u64.wrap ((pow n k).2 * n))

def fits (goal : Int) (p : Int × Int) : Bool := p.1 < goal || (p.1 == goal && p.2 == 0)

def root (goal : Int) (d : Nat) : Nat → Int
  | 0 => 0
  | k + 1 =>
    let r := bits .or .u64 (root goal d k) (68719476736 / 2 ^ k)
    if fits goal (pow r d) then r else root goal d k

def goal (n : Int) (d : Nat) : Int := IntKind.u64.wrap (n * 2 ^ (32 * d - 64))

def frac (n : Int) (d : Nat) : Int := root (goal n d) d 37 % 4294967296
end Sh

set_option maxHeartbeats 400000 in
theorem mul64_any (x y : Int) (w : World) :
    Calls Tryz.prog 242 #[.int .u64 x, .int .u64 y] w fun e w' => e = .returned (.tuple #[.int .u64 (Sh.mulHi x y), .int .u64 (IntKind.u64.wrap (x * y))]) ∧ w' = w := by
  go_enter Tryz.func242, Tryz.ntmps242
  go_wp2
  go_ret2
  exact ⟨rfl, rfl⟩

set_option maxHeartbeats 400000 in
theorem power_any (n : Int) (d : Nat) (hd : d ≤ 3) (w : World) :
    Calls Tryz.prog 177 #[.int .u64 n, .int .i64 (d : Int)] w fun e w' => e = .returned (.tuple #[.int .u64 (Sh.pow n d).1, .int .u64 (Sh.pow n d).2]) ∧ w' = w := by
  go_enter Tryz.func177, Tryz.ntmps177
  go_wp2
  go_loop [9, 4, 5] (fun i h l => ∃ k : Nat, k ≤ d ∧ i = .int .i64 k ∧ h = .int .u64 (Sh.pow n k).1 ∧ l = .int .u64 (Sh.pow n k).2) (fun i _ _ => d - (intOf i).toNat)
  case atStart => exact ⟨0, Nat.zero_le _, rfl, rfl, rfl⟩
  case round =>
    obtain ⟨k, hk, rfl, rfl, rfl⟩ := hrel
    have HP : Hid (Sh.pow n (k + 1) = (IntKind.u64.wrap (IntKind.u64.wrap ((Sh.pow n k).1 * n) + Sh.mulHi (Sh.pow n k).2 n), IntKind.u64.wrap ((Sh.pow n k).2 * n))) := rfl
    by_cases hlt : k < d
    · generalize (Sh.pow n k).1 = x at *
      generalize (Sh.pow n k).2 = y at *
      have hlt2 : (k : Int) < (d : Int) := by omega
      go_wp2_with fail
      refine (mul64_any y n _).mono ?_
      rintro _ _ ⟨rfl, rfl⟩
      go_wp2
      go_round
      case rel => exact ⟨k + 1, by omega, by go_num, by rw [HP.out], by rw [HP.out]⟩
      case measure => simp [intOf]; omega
    · obtain rfl : k = d := by omega
      go_wp2
      go_ret2
      exact ⟨rfl, rfl⟩

theorem halves (k : Nat) (hk : k < 37) : (68719476736 : Int) / 2 ^ k / 2 = 68719476736 / 2 ^ (k + 1) ∧ (0 : Int) < 68719476736 / 2 ^ k := by
  have h : ∀ k : Fin 37, (68719476736 : Int) / 2 ^ k.val / 2 = 68719476736 / 2 ^ (k.val + 1) ∧ (0 : Int) < 68719476736 / 2 ^ k.val := by decide +kernel
  exact h ⟨k, hk⟩

set_option maxHeartbeats 400000 in
theorem fraction_any (n : Int) (d : Nat) (i : Int) (hi : (d : Int) = i) (hd : 2 ≤ d ∧ d ≤ 3) (w : World) :
    Calls Tryz.prog 128 #[.int .u64 n, .int .i64 i] w fun e w' => e = .returned (.int .u32 (Sh.frac n d)) ∧ w' = w := by
  subst hi
  have hs : (0 : Int) ≤ 32 * (d : Int) - 64 := by omega
  have ht : (32 * (d : Int) - 64).toNat = 32 * d - 64 := by omega
  have hm : min (32 * d - 64) 64 = 32 * d - 64 := by omega
  have HG : Hid (Sh.goal n d = IntKind.u64.wrap (n * 2 ^ (32 * d - 64))) := rfl
  have HF : Hid (Sh.frac n d = Sh.root (Sh.goal n d) d 37 % 4294967296) := rfl
  go_enter Tryz.func128, Tryz.ntmps128
  go_wp2
  rw [← HG.out]
  generalize Sh.goal n d = g at *
  go_loop [6, 7] (fun r b => ∃ k : Nat, k ≤ 37 ∧ r = .int .u64 (Sh.root g d k) ∧ b = .int .u64 (68719476736 / 2 ^ k)) (fun _ b => (intOf b).toNat)
  case atStart => exact ⟨0, Nat.zero_le _, rfl, rfl⟩
  case round =>
    obtain ⟨k, hk, rfl, rfl⟩ := hrel
    by_cases hlt : k < 37
    · obtain ⟨q1, q2⟩ := halves k hlt
      have HR : Hid (Sh.root g d (k + 1) = if Sh.fits g (Sh.pow (bits .or .u64 (Sh.root g d k) (68719476736 / 2 ^ k)) d) then bits .or .u64 (Sh.root g d k) (68719476736 / 2 ^ k) else Sh.root g d k) := rfl
      have HQ : Hid ((68719476736 : Int) / 2 ^ k / 2 = 68719476736 / 2 ^ (k + 1)) := q1
      clear q1
      generalize Sh.root g d k = r at *
      generalize (68719476736 : Int) / 2 ^ k = b at *
      go_wp2_with fail
      refine (power_any (bits .or .u64 r b) d hd.2 _).mono ?_
      rintro _ _ ⟨rfl, rfl⟩
      generalize Sh.pow (bits .or .u64 r b) d = P at *
      obtain ⟨h, l⟩ := P
      have HX : Hid (Sh.fits g (h, l) = (decide (h < g) || (h == g && l == 0))) := rfl
      by_cases h1 : h < g
      · have HY : Hid (Sh.fits g (h, l) = true) := by show _ = _; rw [HX.out, decide_eq_true h1]; rfl
        clear HX
        go_wp2
        go_round
        case rel => exact ⟨k + 1, by omega, by rw [HR.out, HY.out]; rfl, by rw [← HQ.out]⟩
        case measure => simp [intOf]; omega
      · have h1' : decide (h < g) = false := by simpa using h1
        by_cases h2 : h = g
        · subst h2
          by_cases h3 : l = 0
          · subst h3
            have HY : Hid (Sh.fits h (h, 0) = true) := by show _ = _; rw [HX.out]; simp
            clear HX
            go_wp2
            go_round
            case rel => exact ⟨k + 1, by omega, by rw [HR.out, HY.out]; rfl, by rw [← HQ.out]⟩
            case measure => simp [intOf]; omega
          · have h3' : (l == 0) = false := by simpa using h3
            have HY : Hid (Sh.fits h (h, l) = false) := by show _ = _; rw [HX.out]; simp [h3]
            clear HX
            go_wp2
            go_round
            case rel => exact ⟨k + 1, by omega, by rw [HR.out, HY.out]; rfl, by rw [← HQ.out]⟩
            case measure => simp [intOf]; omega
        · have h2' : (h == g) = false := by simpa using h2
          have HY : Hid (Sh.fits g (h, l) = false) := by show _ = _; rw [HX.out, h1', h2']; rfl
          clear HX
          go_wp2
          go_round
          case rel => exact ⟨k + 1, by omega, by rw [HR.out, HY.out]; rfl, by rw [← HQ.out]⟩
          case measure => simp [intOf]; omega
    · obtain rfl : k = 37 := by omega
      have e0 : (68719476736 : Int) / 2 ^ 37 = 0 := by decide
      rw [e0]
      go_wp2
      go_ret
      exact ⟨by rw [HF.out]; rfl, rfl⟩

def Sh.divided (n : Int) (l : List Int) : Bool := l.any fun d => n % d == 0

def A64 (l : List Int) : List Value := l.map (Value.int .u64)

theorem own_kept' {base : Nat} {e : TypeId} {size : Nat} {v : Value} {n : Nat} {xs : List Value} {X : Nat → Prop} {w w' : World} (h : w.ownsRow base e size v n xs) (hk : Kx X w w') (hX : ∀ k, k < w.heap.size → base ≤ k → ¬ X k) : w'.ownsRow base e size v n xs := by
  refine ⟨h.1, ?_⟩
  rcases h.2 with hn | ⟨g, cap, cur, rfl, hbg, hgg, rest⟩
  · exact .inl hn
  · refine .inr ⟨g, cap, cur, rfl, hbg, ?_, rest⟩
    have hl := (Array.getElem?_eq_some_iff.1 hgg).1
    rw [hk.block g hl (hX g hl hbg)]
    exact hgg

theorem cells_new (w : World) (cs : List Value) (t : TypeId) : ∀ (j : Nat) (u : Value), cs[j]? = some u → (w.alloc (.cells cs.toArray t)).cell? ((⟨w.heap.size, 0, none⟩ : Addr).add j) = some u := by
  intro j u hu
  have e : (⟨w.heap.size, 0, none⟩ : Addr).add j = ⟨w.heap.size, j, none⟩ := by unfold Addr.add; split <;> simp_all
  rw [e, (Cb.new cs.toArray t w).cell j]
  simpa using hu

end Go.Proofs.YtepgoppgblfjbaaGreatDoor
