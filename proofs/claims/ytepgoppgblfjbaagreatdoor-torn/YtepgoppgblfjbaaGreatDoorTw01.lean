import Derived.Test.YtepgoppgblfjbaaGreatDoorProg
import Derived.WalkKit
import Derived.WalkSpells
import Derived.WalkLawsBesides
import Derived.Deep.WholeRow
import Derived.Laws.CopyRow
import Derived.Deep.MidRow
import Derived.Lib.IndexMore
import Derived.Lib.Strings
import Derived.Lib.Split
import Derived.Lib.IndexAny
/- What is kept by a call that writes certain blocks alone (Kx), and what a reader's block holds (Rd): plain facts on worlds. -/
namespace Go.Proofs.YtepgoppgblfjbaaGreatDoor
open Go.RowKit

/-- Of what was there only blocks in X may have turned. -/
structure Kx (X : Nat → Prop) (w w' : World) : Prop where
  os : w'.os = w.os
  tape : w'.tape = w.tape
  output : w'.output = w.output
  size : w.heap.size ≤ w'.heap.size
  block : ∀ k, k < w.heap.size → ¬ X k → w'.heap[k]? = w.heap[k]?

theorem Kx.refl (X : Nat → Prop) (w : World) : Kx X w w := ⟨rfl, rfl, rfl, Nat.le_refl _, fun _ _ _ => rfl⟩

theorem Kx.trans {X : Nat → Prop} {a b c : World} (h : Kx X a b) (k : Kx X b c) : Kx X a c :=
  ⟨k.os.trans h.os, k.tape.trans h.tape, k.output.trans h.output, Nat.le_trans h.size k.size,
   fun i hi hx => (k.block i (Nat.lt_of_lt_of_le hi h.size) hx).trans (h.block i hi hx)⟩

theorem Kx.mono {X Y : Nat → Prop} {w w' : World} (h : Kx X w w') (hXY : ∀ k, k < w.heap.size → X k → Y k) : Kx Y w w' :=
  ⟨h.os, h.tape, h.output, h.size, fun i hi hy => h.block i hi (fun hx => hy (hXY i hi hx))⟩

theorem Kx.drew {X : Nat → Prop} {a w : World} (h : Kx X a w) : Kx X a w.drew := ⟨h.os, h.tape, h.output, h.size, h.block⟩

theorem Kx.drewN {X : Nat → Prop} {a w : World} (h : Kx X a w) (n : Nat) : Kx X a (w.drewN n) := ⟨h.os, h.tape, h.output, h.size, h.block⟩

theorem Kx.alloc {X : Nat → Prop} {a w : World} (h : Kx X a w) (o : Obj) : Kx X a (w.alloc o) :=
  h.trans ⟨rfl, rfl, rfl, by simp, fun k hk _ => Below.heap_alloc _ _ _ hk⟩

theorem Kx.setCell {X : Nat → Prop} {a w : World} (h : Kx X a w) {p : Addr} (hp : p.block < a.heap.size → X p.block) (u : Value) : Kx X a (w.setCell p u) :=
  ⟨h.os, h.tape, h.output, by simpa using h.size, fun k hk hx => by
    have hne : k ≠ p.block := by intro e; subst e; exact hx (hp hk)
    rw [Below.heap_setCell _ _ _ _ hne]; exact h.block k hk hx⟩

theorem Kx.cell {X : Nat → Prop} {w w' : World} (h : Kx X w w') {p : Addr} (hp : p.block < w.heap.size) (hx : ¬ X p.block) : w'.cell? p = w.cell? p :=
  World.cell?_of_block (w := w) (h.block p.block hp hx)

theorem Kx.frozen {X : Nat → Prop} {w w' : World} (h : Kx X w w') {p : Addr} (hp : p.block < w.heap.size) (hx : ¬ X p.block) : w'.frozen? p = w.frozen? p :=
  World.frozen?_of_block (w := w) (h.block p.block hp hx)

theorem Kx.of_below {X : Nat → Prop} {w w' : World} (h : Below w.heap.size w w') : Kx X w w' :=
  ⟨h.os, h.tape, h.output, h.size, fun k hk _ => h.block k hk⟩

theorem Kx.below {X : Nat → Prop} {B : Nat} {w w' : World} (h : Kx X w w') (hB : B ≤ w.heap.size) (hX : ∀ k, k < B → ¬ X k) : Below B w w' :=
  ⟨h.os, h.tape, h.output, h.size, fun k hk => h.block k (Nat.lt_of_lt_of_le hk hB) (hX k hk)⟩

theorem lt_of_cell {w : World} {p : Addr} {v : Value} (h : w.cell? p = some v) : p.block < w.heap.size := by
  unfold World.cell? at h
  by_cases hb : p.block < w.heap.size
  · exact hb
  · rw [Array.getElem?_eq_none (by omega)] at h; cases h

/-- The reader at block b: what is left to be read; is it wrong? And the variable that the library's search reads. -/
structure Rd (b : Nat) (s : List UInt8) (bad : Bool) (w : World) : Prop where
  c0 : w.cell? ⟨b, 0, none⟩ = some (.string ⟨s.toArray⟩)
  c1 : w.cell? ⟨b, 1, none⟩ = some (.bool bad)
  f0 : w.frozen? ⟨b, 0, none⟩ = false
  f1 : w.frozen? ⟨b, 1, none⟩ = false
  pos : 6 < b
  max : ∃ m, w.cell? ⟨1, 0, none⟩ = some (.int .i64 m)
  short : s.length ≤ 8000

theorem Rd.lt {b : Nat} {s : List UInt8} {bad : Bool} {w : World} (h : Rd b s bad w) : b < w.heap.size := lt_of_cell h.c0

theorem Rd.kept {b : Nat} {s : List UInt8} {bad : Bool} {X : Nat → Prop} {w w' : World} (h : Rd b s bad w) (k : Kx X w w') (h0 : ¬ X 1) (hb : ¬ X b) : Rd b s bad w' := by
  have hl := h.lt
  obtain ⟨m, hm⟩ := h.max
  have h00 := lt_of_cell hm
  refine ⟨?_, ?_, ?_, ?_, h.pos, ⟨m, ?_⟩, h.short⟩
  · rw [k.cell (p := ⟨b, 0, none⟩) hl hb]; exact h.c0
  · rw [k.cell (p := ⟨b, 1, none⟩) hl hb]; exact h.c1
  · rw [k.frozen (p := ⟨b, 0, none⟩) hl hb]; exact h.f0
  · rw [k.frozen (p := ⟨b, 1, none⟩) hl hb]; exact h.f1
  · rw [k.cell (p := ⟨1, 0, none⟩) h00 h0]; exact hm

theorem Rd.alloc {b : Nat} {s : List UInt8} {bad : Bool} {w : World} (h : Rd b s bad w) (o : Obj) : Rd b s bad (w.alloc o) :=
  h.kept (X := fun _ => False) ((Kx.refl _ _).alloc o) id id

theorem Rd.drewN {b : Nat} {s : List UInt8} {bad : Bool} {w : World} (h : Rd b s bad w) (n : Nat) : Rd b s bad (w.drewN n) :=
  h.kept (X := fun _ => False) ((Kx.refl _ _).drewN n) id id

/-- Only the reader's block. -/
def Only (b : Nat) : Nat → Prop := fun k => k = b

theorem Kx.setNew {X : Nat → Prop} {a w : World} (h : Kx X a w) {p : Addr} (hp : a.heap.size ≤ p.block) (u : Value) : Kx X a (w.setCell p u) :=
  h.setCell (fun hl => absurd hl (by omega)) u

theorem Kx.grown {X : Nat → Prop} {a w w' : World} {row : Option Nat} (h : Kx X a w) (hg : w.grownBy w' row) (hr : ∀ k, row = some k → a.heap.size ≤ k) : Kx X a w' :=
  ⟨hg.os.trans h.os, hg.tape.trans h.tape, hg.output.trans h.output, Nat.le_trans h.size hg.size,
   fun k hk hx => (hg.block k (Nat.lt_of_lt_of_le hk h.size) (fun e => by have := hr k e.symm; omega)).trans (h.block k hk hx)⟩

/-- A block that was made ahead of what keeps all but the reader's. -/
theorem new_cell {b : Nat} {w w1 : World} {c : Array Value} {t : TypeId} (hk : Kx (Only b) (w.alloc (.cells c t)) w1) (hb : b < w.heap.size) (o : Nat) :
    w1.cell? ⟨w.heap.size, o, none⟩ = c[o]? ∧ w1.frozen? ⟨w.heap.size, o, none⟩ = false := by
  have h : (w.alloc (.cells c t)).heap[w.heap.size]? = some (.cells c t) := by
    show (w.heap.push _)[w.heap.size]? = _
    simp
  have h1 := hk.block w.heap.size (by simp) (by unfold Only; omega)
  rw [h] at h1
  constructor
  · unfold World.cell?; rw [h1]; simp
  · unfold World.frozen?; rw [h1]; simp

theorem Rd.setOther {b : Nat} {s : List UInt8} {bad : Bool} {w : World} (h : Rd b s bad w) {p : Addr} (hp : p.block ≠ b) (h0 : p.block ≠ 1) (u : Value) : Rd b s bad (w.setCell p u) :=
  h.kept (X := Only p.block) ((Kx.refl (Only p.block) w).setCell (p := p) (fun _ => by simp [Only]) u) (fun e => h0 e.symm) (fun e => hp e.symm)

theorem Rd.setNew {b n o : Nat} {s : List UInt8} {bad : Bool} {w : World} (h : Rd b s bad w) (hn : b < n) (u : Value) : Rd b s bad (w.setCell ⟨n, o, none⟩ u) :=
  h.setOther (p := ⟨n, o, none⟩) (by show n ≠ b; omega) (by have := h.pos; show n ≠ 1; omega) u

end Go.Proofs.YtepgoppgblfjbaaGreatDoor

/- A whole block of cells, and what keeps it. -/
namespace Go.Proofs.YtepgoppgblfjbaaGreatDoor
open Go.RowKit

/-- Block k holds these cells, and they may be written. -/
def Cb (k : Nat) (cs : Array Value) (t : TypeId) (w : World) : Prop := w.heap[k]? = some (.cells cs t (0, 0))

theorem Cb.lt {k : Nat} {cs : Array Value} {t : TypeId} {w : World} (h : Cb k cs t w) : k < w.heap.size := (Array.getElem?_eq_some_iff.1 h).1

theorem Cb.cell {k : Nat} {cs : Array Value} {t : TypeId} {w : World} (h : Cb k cs t w) (j : Nat) : w.cell? ⟨k, j, none⟩ = cs[j]? := by
  unfold World.cell?; rw [h]; simp

theorem Cb.frozen {k : Nat} {cs : Array Value} {t : TypeId} {w : World} (h : Cb k cs t w) (j : Nat) : w.frozen? ⟨k, j, none⟩ = false := by
  unfold World.frozen?; rw [h]; simp

theorem Cb.new (cs : Array Value) (t : TypeId) (w : World) : Cb w.heap.size cs t (w.alloc (.cells cs t)) := by
  show (w.heap.push _)[w.heap.size]? = _
  simp

theorem Cb.alloc {k : Nat} {cs : Array Value} {t : TypeId} {w : World} (h : Cb k cs t w) (o : Obj) : Cb k cs t (w.alloc o) :=
  (Below.heap_alloc _ _ _ h.lt).trans h

theorem Cb.kept {k : Nat} {cs : Array Value} {t : TypeId} {X : Nat → Prop} {w w' : World} (h : Cb k cs t w) (hk : Kx X w w') (hx : ¬ X k) : Cb k cs t w' :=
  (hk.block k h.lt hx).trans h

theorem Cb.only {k b : Nat} {cs : Array Value} {t : TypeId} {w w' : World} (h : Cb k cs t w) (hk : Kx (Only b) w w') (hx : b < k) : Cb k cs t w' :=
  h.kept hk (by unfold Only; omega)

theorem Cb.setOther {k : Nat} {cs : Array Value} {t : TypeId} {w : World} (h : Cb k cs t w) {p : Addr} (hp : k ≠ p.block) (u : Value) : Cb k cs t (w.setCell p u) :=
  (Below.heap_setCell w p u k hp).trans h

theorem Cb.set {k : Nat} {cs : Array Value} {t : TypeId} {w : World} (h : Cb k cs t w) (j : Nat) (u : Value) : Cb k (cs.setIfInBounds j u) t (w.setCell ⟨k, j, none⟩ u) := by
  unfold Cb World.setCell
  simp only [Array.getElem?_modify]
  rw [if_pos trivial, h]; simp

end Go.Proofs.YtepgoppgblfjbaaGreatDoor

/- Arrays by value: a whole block read, written, handed back. -/
namespace Go.Proofs.YtepgoppgblfjbaaGreatDoor
open Go.RowKit

theorem Cb.row {k : Nat} {cs : Array Value} {t : TypeId} {w : World} (h : Cb k cs t w) (cs' : Array Value) : Cb k cs' t (w.setRow k cs') := setRow_heap w k cs cs' t (0, 0) h

theorem Cb.rowOther {k g : Nat} {cs : Array Value} {t : TypeId} {w : World} (h : Cb k cs t w) (hne : k ≠ g) (cs' : Array Value) : Cb k cs t (w.setRow g cs') :=
  (setRow_other w g k cs' hne).trans h

theorem Kx.setRow {X : Nat → Prop} {a w : World} (h : Kx X a w) {g : Nat} (hg : g < a.heap.size → X g) (cs : Array Value) : Kx X a (w.setRow g cs) :=
  ⟨h.os, h.tape, h.output, by simpa using h.size, fun k hk hx => by
    have hne : k ≠ g := by intro e; subst e; exact hx (hg hk)
    rw [setRow_other _ _ _ _ hne]; exact h.block k hk hx⟩

theorem Cb.loadAll {P : Program} {k : Nat} {cs : Array Value} {t : TypeId} {w : World} (h : Cb k cs t w) (n : Nat) (hn : cs.size = n) :
    Sem.run P (loadCellsFrom ⟨k, 0, none⟩ 0 n #[]) w = .ok cs w := by
  subst hn
  have := run_loadCells_list (P := P) w ⟨k, 0, none⟩ cs.toList (fun j v hv => by
    have hadd : (⟨k, 0, none⟩ : Addr).add j = ⟨k, j, none⟩ := by unfold Addr.add; split <;> simp_all
    rw [hadd, h.cell]
    simpa using hv)
  simpa [loadCells] using this

theorem Cb.storeAll {P : Program} {k : Nat} {cs : Array Value} {t : TypeId} {w : World} (h : Cb k cs t w) (c' : Array Value) (ho : cs.size = c'.size) (h1 : ∀ v ∈ c'.toList, v.oneCell' = true) :
    Sem.run P (storeCells ⟨k, 0, none⟩ c'.toList 0) w = .ok () (w.setRow k c') := by
  have := run_storeCells_from (P := P) k t c'.toList 0 cs w h (by simp [ho]) h1
  simpa using this

def aggD : TypeDesc → Bool
  | .struct _ | .array _ _ => true
  | _ => false

theorem results_cell {fn : Func} {p : Tmp} {ty : TypeId} (h : fn.results = #[.cell p ty]) (tmps : Array Value) (P : Program) (w : World) :
    (results fn tmps).run P w = ((asAddr (tmps.getD p undef)).run P w).andThen fun a w₁ => (loadVar ty a).run P w₁ := by
  simp only [results, h]
  simp [Sem.run_bind, Result.andThen]

/-- An array that lies whole in a block, handed back. -/
theorem results_arr {fn : Func} {p : Tmp} {ty : TypeId} (h : fn.results = #[.cell p ty]) {tmps : Array Value} {P : Program} {w : World} {k : Nat} {cs : Array Value} {d : TypeDesc} {bt : TypeId}
    (hp : tmps.getD p undef = .pointer (some ⟨k, 0, none⟩)) (hb : Cb k cs bt w) (hu : P.underlying ty = some d) (hd : aggD d = true) (hi : (P.info? ty).map (·.size) = some cs.size) :
    (results fn tmps).run P w = .ok (.agg cs) w := by
  rw [results_cell h, hp]
  exact run_loadVar_row _ _ bt ty cs (0, 0) _ hb hu (by cases d <;> first | rfl | cases hd) hi

/-- A whole array is read: at the operation. -/
theorem wpList_loadAll {P : Program} (w : World) {ops : Array Oper} {rest : List Oper} {o : Oper} {a : Act} {Q : Exit → Act → World → Prop} (hg : o.guard = none) (t : TypeId) (p : Operand) (hop : o.op = Op.load t p)
    {k : Nat} {cs : Array Value} {bt : TypeId} (hp : a.eval p = .pointer (some ⟨k, 0, none⟩)) (hb : Cb k cs bt w) {d : TypeDesc} (hu : P.underlying t = some d) (hd : aggD d = true) (hi : (P.info? t).map (·.size) = some cs.size)
    (hK : wpList P ops Q rest (a.put o.dst (.agg cs)) w) : wpList P ops Q (o :: rest) a w := by
  refine wpList_plain hg fun K' hK' => ?_
  have hrun : (Instr.loadAt t (.pointer (some ⟨k, 0, none⟩))).run P w = .ok (.agg cs) w := by
    simp only [Instr.loadAt, Instr.sureAddr, Sem.run_bind, Sem.run_pure, Result.andThen]
    exact run_loadVar_row _ _ bt t cs (0, 0) _ hb hu (by cases d <;> first | rfl | cases hd) hi
  unfold Oper.wp
  simp [execOp, hop, hp, hrun, Result.andThen]
  exact hK' _ _ hK

theorem exec_loadAt {P : Program} {w : World} {o : Oper} {a : Act} (t : TypeId) (p : Operand) (hop : o.op = Op.load t p)
    {k f : Nat} {cs : Array Value} (hp : a.eval p = .pointer (some ⟨k, f, none⟩)) (hr : w.rangeAt k f cs.toList) {d : TypeDesc} (hu : P.underlying t = some d) (hd : aggD d = true) (hi : (P.info? t).map (·.size) = some cs.size) :
    (execOp a.eval o).run P w = .ok (.value (.agg cs)) w := by
  have hrun := run_loadAt_mid (P := P) w k f t cs.toList d hr hu (by cases d <;> first | rfl | cases hd) (by rw [Array.length_toList]; exact hi)
  rw [Array.toArray_toList] at hrun
  simp [execOp, hop, hp, hrun, Result.andThen]

/-- An array that lies within a block is read: at the operation. -/
theorem wpList_loadAt {P : Program} (w : World) {ops : Array Oper} {rest : List Oper} {o : Oper} {a : Act} {Q : Exit → Act → World → Prop} (hg : o.guard = none) (t : TypeId) (p : Operand) (hop : o.op = Op.load t p)
    {k f : Nat} {cs : Array Value} (hp : a.eval p = .pointer (some ⟨k, f, none⟩)) (hr : w.rangeAt k f cs.toList) {d : TypeDesc} (hu : P.underlying t = some d) (hd : aggD d = true) (hi : (P.info? t).map (·.size) = some cs.size)
    (hK : wpList P ops Q rest (a.put o.dst (.agg cs)) w) : wpList P ops Q (o :: rest) a w := by
  refine wpList_plain hg fun K' hK' => ?_
  unfold Oper.wp
  rw [exec_loadAt t p hop hp hr hu hd hi]
  exact hK' _ _ hK

/-- A whole array is written: at the operation. -/
theorem wpList_storeAll {P : Program} (w : World) {ops : Array Oper} {rest : List Oper} {o : Oper} {a : Act} {Q : Exit → Act → World → Prop} (hg : o.guard = none) (t : TypeId) (p v : Operand) (hop : o.op = Op.store t p v)
    {k : Nat} {cs c' : Array Value} {bt : TypeId} (hp : a.eval p = .pointer (some ⟨k, 0, none⟩)) (hv : a.eval v = .agg c') (hb : Cb k cs bt w) (hi : (P.info? t).map (·.size) = some c'.size) (ho : cs.size = c'.size) (h1 : c'.all (·.oneCell') = true)
    (hK : wpList P ops Q rest (a.put o.dst undef) (w.setRow k c')) : wpList P ops Q (o :: rest) a w := by
  refine wpList_plain hg fun K' hK' => ?_
  have hrun : (Instr.storeAt t (.pointer (some ⟨k, 0, none⟩)) (.agg c')).run P w = .ok () (w.setRow k c') := by
    simp only [Instr.storeAt, Instr.sureAddr, Sem.run_bind, Sem.run_pure, Result.andThen]
    exact run_storeVar_row _ _ bt t cs c' hb hi ho h1
  unfold Oper.wp
  simp [execOp, hop, hp, hv, hrun, Result.andThen]
  exact hK' _ _ hK

/-- Words as an array's cells. -/
def A32 (l : List Int) : Array Value := (l.map (Value.int .u32)).toArray

theorem A32_get (l : List Int) (k : Nat) (h : k < l.length) : (A32 l)[k]? = some (.int .u32 (l.getD k 0)) := by
  simp [A32, List.getD, h]

theorem A32_size (l : List Int) : (A32 l).size = l.length := by simp [A32]

theorem A32_range (l : List Int) (k f n : Nat) (bt : TypeId) (w : World) (h : Cb k (A32 l) bt w) (hn : f + n ≤ l.length) : w.rangeAt k f (A32 ((l.drop f).take n)).toList := by
  intro j v hv
  have hj : j < n := by have := (List.getElem?_eq_some_iff.1 hv).1; simp [A32] at this; omega
  rw [h.cell, A32_get _ _ (by omega), ← hv]
  simp [A32, List.getD, hj, List.getElem?_eq_getElem (show f + j < l.length by omega)]

theorem A32_one (l : List Int) : ∀ v ∈ (A32 l).toList, v.oneCell' = true := by
  intro v hv
  simp [A32] at hv
  obtain ⟨x, _, rfl⟩ := hv
  rfl

theorem A32_all (l : List Int) : (A32 l).all (·.oneCell') = true := by
  rw [Array.all_eq_true']
  intro v hv
  exact A32_one l v (by simpa using hv)

theorem Kx.only_set {b o : Nat} {a w : World} (h : Kx (Only b) a w) (u : Value) : Kx (Only b) a (w.setCell ⟨b, o, none⟩ u) :=
  h.setCell (p := ⟨b, o, none⟩) (fun _ => by simp [Only]) u

/-- What has turned blocks that were not there ahead of it, has turned nothing. -/
theorem Kx.join {X : Nat → Prop} {a b c : World} (h : Kx X a b) {Y : Nat → Prop} (k : Kx Y b c) (hY : ∀ j, j < a.heap.size → Y j → X j) : Kx X a c :=
  ⟨k.os.trans h.os, k.tape.trans h.tape, k.output.trans h.output, Nat.le_trans h.size k.size,
   fun i hi hx => (k.block i (Nat.lt_of_lt_of_le hi h.size) (fun hy => hx (hY i hi hy))).trans (h.block i hi hx)⟩

end Go.Proofs.YtepgoppgblfjbaaGreatDoor

/- What the reader's methods compute, as plain functions on lists of bytes. -/
namespace Go.Proofs.YtepgoppgblfjbaaGreatDoor
namespace Pu

/-- need. -/
def need (ok : Bool) (s : List UInt8) (bad : Bool) : List UInt8 × Bool := if ok then (s, bad) else ([], true)
/-- line: what it gives; what is left; is it wrong? -/
def line (s : List UInt8) (bad : Bool) : List UInt8 × List UInt8 × Bool :=
  if (Lib.cut s [10]).2.2 then ((Lib.cut s [10]).1, (Lib.cut s [10]).2.1, bad) else ([], [], true)
def exactly (l s : List UInt8) (bad : Bool) : List UInt8 × Bool := need ((line s bad).1 == l) (line s bad).2.1 (line s bad).2.2
def after (head s : List UInt8) (bad : Bool) : List UInt8 × List UInt8 × Bool :=
  (Lib.trimPrefix (line s bad).1 head, need (Lib.hasPrefix (line s bad).1 head) (line s bad).2.1 (line s bad).2.2)

theorem cut_lens (s sep : List UInt8) : (Lib.cut s sep).1.length ≤ s.length ∧ (Lib.cut s sep).2.1.length ≤ s.length := by
  unfold Lib.cut
  split <;> simp <;> omega

theorem need_len (ok : Bool) (s : List UInt8) (bad : Bool) : (need ok s bad).1.length ≤ s.length := by
  unfold need; split <;> simp

theorem line_lens (s : List UInt8) (bad : Bool) : (line s bad).1.length ≤ s.length ∧ (line s bad).2.1.length ≤ s.length := by
  have := cut_lens s [10]
  unfold line; split <;> simp <;> omega

/-- words.madeOf -/
def madeOf (t set : List UInt8) (most : Int) : Bool := (!t.isEmpty && decide ((t.length : Int) ≤ most)) && t.all (fun c => decide (0 ≤ Lib.indexByte set c))
def hasAtEnds (t : List UInt8) (c : UInt8) : Bool := t.head? == some c || t.getLast? == some c
def refSet : List UInt8 := [97, 98, 99, 100, 101, 102, 103, 104, 105, 106, 107, 108, 109, 110, 111, 112, 113, 114, 115, 116, 117, 118, 119, 120, 121, 122, 48, 49, 50, 51, 52, 53, 54, 55, 56, 57, 45, 47]
def partSet : List UInt8 := [97, 98, 99, 100, 101, 102, 103, 104, 105, 106, 107, 108, 109, 110, 111, 112, 113, 114, 115, 116, 117, 118, 119, 120, 121, 122, 65, 66, 67, 68, 69, 70, 71, 72, 73, 74, 75, 76, 77, 78, 79, 80, 81, 82, 83, 84, 85, 86, 87, 88, 89, 90, 48, 49, 50, 51, 52, 53, 54, 55, 56, 57, 46, 45, 95]
def nameSet : List UInt8 := [97, 98, 99, 100, 101, 102, 103, 104, 105, 106, 107, 108, 109, 110, 111, 112, 113, 114, 115, 116, 117, 118, 119, 120, 121, 122, 65, 66, 67, 68, 69, 70, 71, 72, 73, 74, 75, 76, 77, 78, 79, 80, 81, 82, 83, 84, 85, 86, 87, 88, 89, 90, 48, 49, 50, 51, 52, 53, 54, 55, 56, 57, 32]
def mailSet : List UInt8 := [97, 98, 99, 100, 101, 102, 103, 104, 105, 106, 107, 108, 109, 110, 111, 112, 113, 114, 115, 116, 117, 118, 119, 120, 121, 122, 65, 66, 67, 68, 69, 70, 71, 72, 73, 74, 75, 76, 77, 78, 79, 80, 81, 82, 83, 84, 85, 86, 87, 88, 89, 90, 48, 49, 50, 51, 52, 53, 54, 55, 56, 57, 46, 45, 64]
def digitSet : List UInt8 := [48, 49, 50, 51, 52, 53, 54, 55, 56, 57]
def isRef (t : List UInt8) : Bool := madeOf t refSet 20 && !hasAtEnds t 47 && !Lib.contains t [47, 47]
def isPart (t : List UInt8) : Bool := madeOf t partSet 12 && t != [46] && t != [46, 46]
def isName (t : List UInt8) : Bool := madeOf t nameSet 20 && !hasAtEnds t 32
def isMail (t : List UInt8) : Bool := madeOf t mailSet 20
/-- The number that decimal digits write. -/
def val (t : List UInt8) : Int := t.foldl (fun n c => n * 10 + ((c.toNat : Int) - 48)) 0
def number (t : List UInt8) (lo hi : Int) : Int × Bool :=
  if !madeOf t digitSet 18 || (t.head? == some 48 && decide (1 < t.length)) then (0, false)
  else if val t < lo ∨ hi < val t then (0, false) else (val t, true)
def mark (t : List UInt8) : Int × Bool := if Lib.hasPrefix t [58] then number (Lib.trimPrefix t [58]) 1 999 else (0, false)
def isPath (t : List UInt8) : Bool := decide (t.length ≤ 60) && (Lib.split t [47]).all isPart && decide ((Lib.split t [47]).length ≤ 6)

theorem madeOf_empty (set : List UInt8) (most : Int) : madeOf [] set most = false := rfl
theorem madeOf_long (t set : List UInt8) (most : Int) (h : most < (t.length : Int)) : madeOf t set most = false := by
  unfold madeOf; rw [decide_eq_false (by omega)]; simp

theorem val_snoc (l : List UInt8) (c : UInt8) : val (l ++ [c]) = val l * 10 + ((c.toNat : Int) - 48) := by
  simp [val, List.foldl_append]

theorem digit_of {c : UInt8} (h : 0 ≤ Lib.indexByte digitSet c) : 48 ≤ c.toNat ∧ c.toNat ≤ 57 := by
  have h1 : digitSet.contains c = true := by rw [Lib.contains_iff_indexByte]; simpa using h
  simp only [digitSet, List.contains_cons, List.contains_nil, Bool.or_false, Bool.or_eq_true, beq_iff_eq] at h1
  rcases h1 with h | h | h | h | h | h | h | h | h | h <;> subst h <;> decide

theorem madeOf_at {t set : List UInt8} {most : Int} (h : madeOf t set most = true) (k : Nat) (hk : k < t.length) : 0 ≤ Lib.indexByte set t[k] := by
  unfold madeOf at h
  simp only [Bool.and_eq_true, List.all_eq_true, decide_eq_true_eq] at h
  exact h.2 _ (List.getElem_mem hk)

theorem val_take (t : List UInt8) (h : ∀ k (hk : k < t.length), 48 ≤ t[k].toNat ∧ t[k].toNat ≤ 57) : ∀ k, k ≤ t.length → 0 ≤ val (t.take k) ∧ val (t.take k) < 10 ^ k
  | 0, _ => by simp [val]
  | k + 1, hk => by
    have ih := val_take t h k (by omega)
    have hd := h k (by omega)
    rw [List.take_succ_eq_append_getElem (by omega), val_snoc]
    have e : (10 : Int) ^ (k + 1) = 10 ^ k * 10 := Int.pow_succ _ _
    rw [e]
    omega

theorem pow_le : ∀ k : Nat, k ≤ 17 → (10 : Int) ^ k ≤ 100000000000000000 := by
  intro k hk
  have : k = 0 ∨ k = 1 ∨ k = 2 ∨ k = 3 ∨ k = 4 ∨ k = 5 ∨ k = 6 ∨ k = 7 ∨ k = 8 ∨ k = 9 ∨ k = 10 ∨ k = 11 ∨ k = 12 ∨ k = 13 ∨ k = 14 ∨ k = 15 ∨ k = 16 ∨ k = 17 := by omega
  rcases this with h | h | h | h | h | h | h | h | h | h | h | h | h | h | h | h | h | h <;> subst h <;> decide

/- The reader's methods, each: what is left, is it wrong? (and what it gives, where that counts). -/
def sMark : List UInt8 := [109, 97, 114, 107, 32]
def sData : List UInt8 := [100, 97, 116, 97, 32]
def sAuthor : List UInt8 := [97, 117, 116, 104, 111, 114, 32]
def sFrom : List UInt8 := [102, 114, 111, 109, 32]
def sMerge : List UInt8 := [109, 101, 114, 103, 101, 32]
def sDone : List UInt8 := [100, 111, 110, 101]
def sBlob : List UInt8 := [98, 108, 111, 98]
def sCommit : List UInt8 := [99, 111, 109, 109, 105, 116]
def sCommit1 : List UInt8 := [99, 111, 109, 109, 105, 116, 32]
def sTag : List UInt8 := [116, 97, 103]
def sTag1 : List UInt8 := [116, 97, 103, 32]
def sReset : List UInt8 := [114, 101, 115, 101, 116]
def sReset1 : List UInt8 := [114, 101, 115, 101, 116, 32]
def sInline : List UInt8 := [105, 110, 108, 105, 110, 101]
def s644 : List UInt8 := [49, 48, 48, 54, 52, 52]
def s755 : List UInt8 := [49, 48, 48, 55, 53, 53]
def sAll : List UInt8 := [100, 101, 108, 101, 116, 101, 97, 108, 108]

def ref (head s : List UInt8) (bad : Bool) : List UInt8 × List UInt8 × Bool :=
  ((after head s bad).1, need (isRef (after head s bad).1) (after head s bad).2.1 (after head s bad).2.2)
def rmark (s : List UInt8) (bad : Bool) : Int × List UInt8 × Bool :=
  ((mark (after sMark s bad).1).1, need (mark (after sMark s bad).1).2 (after sMark s bad).2.1 (after sMark s bad).2.2)
def which (head s : List UInt8) (bad : Bool) : List UInt8 × Bool :=
  if (mark (after head s bad).1).2 then (after head s bad).2 else need (isRef (after head s bad).1) (after head s bad).2.1 (after head s bad).2.2
/-- Is it an author's line, behind its word? -/
def isAuthor (t : List UInt8) : Bool :=
  (Lib.cut t [32, 60]).2.2 && (Lib.cut (Lib.cut t [32, 60]).2.1 [62, 32]).2.2 && (number (Lib.cut (Lib.cut t [32, 60]).2.1 [62, 32]).2.1 0 9999999999).2
    && isName (Lib.cut t [32, 60]).1 && isMail (Lib.cut (Lib.cut t [32, 60]).2.1 [62, 32]).1
def author (s : List UInt8) (bad : Bool) : List UInt8 × Bool :=
  need (isAuthor (after sAuthor s bad).1) (after sAuthor s bad).2.1 (after sAuthor s bad).2.2
/-- Behind the number of bytes: the bytes and the byte 10. -/
def bytes (n : Int) (s : List UInt8) (bad : Bool) : List UInt8 × List UInt8 × Bool :=
  if s[n.toNat]? = some 10 then (s.take n.toNat, s.drop (n.toNat + 1), bad) else ([], [], true)
def data (s : List UInt8) (bad : Bool) : List UInt8 × List UInt8 × Bool :=
  bytes (number (after sData s bad).1 0 200).1
    (need (number (after sData s bad).1 0 200).2 (after sData s bad).2.1 (after sData s bad).2.2).1
    (need (number (after sData s bad).1 0 200).2 (after sData s bad).2.1 (after sData s bad).2.2).2
def fromOr (s : List UInt8) (bad : Bool) : List UInt8 × Bool := if Lib.hasPrefix s sFrom then which sFrom s bad else (s, bad)
def mergesF : Nat → List UInt8 → Bool → Nat → Nat × List UInt8 × Bool
  | 0, s, bad, n => (n, s, bad)
  | f + 1, s, bad, n => if Lib.hasPrefix s sMerge then mergesF f (which sMerge s bad).1 (which sMerge s bad).2 (n + 1) else (n, s, bad)
def merges (s : List UInt8) (bad : Bool) : List UInt8 × Bool :=
  need (decide ((mergesF s.length s bad 0).1 < 4)) (mergesF s.length s bad 0).2.1 (mergesF s.length s bad 0).2.2
def content (f s : List UInt8) (bad : Bool) : List UInt8 × Bool := if f == sInline then (data s bad).2 else need (mark f).2 s bad
def changeM (f1 f2 f3 s : List UInt8) (bad : Bool) : List UInt8 × Bool :=
  content f2 (need (isPath f3) (need (f1 == s644 || f1 == s755) s bad).1 (need (f1 == s644 || f1 == s755) s bad).2).1
    (need (isPath f3) (need (f1 == s644 || f1 == s755) s bad).1 (need (f1 == s644 || f1 == s755) s bad).2).2
def change (l s : List UInt8) (bad : Bool) : List UInt8 × Bool :=
  match Lib.split l [32] with
  | [f0, f1, f2, f3] => if f0 == [77] then changeM f1 f2 f3 s bad else need (l == sAll) s bad
  | [f0, f1] => if f0 == [68] then need (isPath f1) s bad else need (l == sAll) s bad
  | [f0, f1, f2] => if f0 == [67] || f0 == [82] then need (isPath f2) (need (isPath f1) s bad).1 (need (isPath f1) s bad).2 else need (l == sAll) s bad
  | _ => need (l == sAll) s bad
def changesF : Nat → List UInt8 → List UInt8 → Bool → Nat → Nat × List UInt8 × Bool
  | 0, _, s, bad, n => (n, s, bad)
  | f + 1, l, s, bad, n =>
    if l == [] then (n, s, bad)
    else changesF f (line (change l s bad).1 (change l s bad).2).1 (line (change l s bad).1 (change l s bad).2).2.1 (line (change l s bad).1 (change l s bad).2).2.2 (n + 1)
def changes (s : List UInt8) (bad : Bool) : List UInt8 × Bool :=
  need (decide ((changesF (s.length + 2) (line s bad).1 (line s bad).2.1 (line s bad).2.2 0).1 ≤ 30))
    (changesF (s.length + 2) (line s bad).1 (line s bad).2.1 (line s bad).2.2 0).2.1 (changesF (s.length + 2) (line s bad).1 (line s bad).2.1 (line s bad).2.2 0).2.2
def word (s : List UInt8) : List UInt8 := (Lib.cut (Lib.cut s [10]).1 [32]).1
def readBlob (s : List UInt8) (bad : Bool) : List UInt8 × Bool :=
  (data (rmark (exactly sBlob s bad).1 (exactly sBlob s bad).2).2.1 (rmark (exactly sBlob s bad).1 (exactly sBlob s bad).2).2.2).2
def readTag (s : List UInt8) (bad : Bool) : List UInt8 × Bool :=
  (data (which sFrom (ref sTag1 s bad).2.1 (ref sTag1 s bad).2.2).1 (which sFrom (ref sTag1 s bad).2.1 (ref sTag1 s bad).2.2).2).2
def readReset (s : List UInt8) (bad : Bool) : List UInt8 × Bool :=
  exactly [] (fromOr (ref sReset1 s bad).2.1 (ref sReset1 s bad).2.2).1 (fromOr (ref sReset1 s bad).2.1 (ref sReset1 s bad).2.2).2
/-- A state of the reader, for functions one behind the other. -/
def thn (x : List UInt8 × Bool) (f : List UInt8 → Bool → List UInt8 × Bool) : List UInt8 × Bool := f x.1 x.2
def readCommit (s : List UInt8) (bad : Bool) : List UInt8 × Bool :=
  thn (thn (thn (thn (thn (thn (ref sCommit1 s bad).2 (fun s b => (rmark s b).2)) author) (fun s b => (data s b).2)) fromOr) merges) changes
def readOne (s : List UInt8) (bad : Bool) : List UInt8 × Bool :=
  if word s == sBlob then readBlob s bad else if word s == sCommit then readCommit s bad
  else if word s == sTag then readTag s bad else if word s == sReset then readReset s bad else ([], true)
def readAllF : Nat → List UInt8 → Bool → Nat → Nat × List UInt8 × Bool
  | 0, s, bad, n => (n, s, bad)
  | f + 1, s, bad, n =>
    if word s == sDone then (n, (exactly sDone s bad).1, (exactly sDone s bad).2)
    else if (readOne s bad).2 then (n, (readOne s bad).1, (readOne s bad).2)
    else readAllF f (readOne s bad).1 (readOne s bad).2 (n + 1)
def readAll (s : List UInt8) : Nat × List UInt8 × Bool := readAllF (s.length + 1) s false 0
/-- Check: the number and the error. -/
def check (s : List UInt8) : Int × Int :=
  if 8000 < s.length then (0, 2)
  else if (readAll s).2.2 then (((readAll s).1 : Int) + 1, 1)
  else if (readAll s).2.1 != [] then (((readAll s).1 : Int) + 2, 1)
  else if 60 < (readAll s).1 then (0, 2) else ((readAll s).1, 0)

theorem after_len (head s : List UInt8) (bad : Bool) : (after head s bad).1.length ≤ s.length ∧ (after head s bad).2.1.length ≤ s.length := by
  have h1 := line_lens s bad
  have h2 := need_len (Lib.hasPrefix (line s bad).1 head) (line s bad).2.1 (line s bad).2.2
  unfold after
  refine ⟨?_, Nat.le_trans h2 h1.2⟩
  unfold Lib.trimPrefix; split <;> simp <;> omega

theorem number_bounds (t : List UInt8) : 0 ≤ (number t 0 200).1 ∧ (number t 0 200).1 ≤ 200 := by
  unfold number
  split
  · simp
  · split
    · simp
    · simp; omega

end Pu
end Go.Proofs.YtepgoppgblfjbaaGreatDoor
