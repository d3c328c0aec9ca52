/- Arrays by value: a whole block read, written, handed back. -/
import Derived.Test.YtepgoppgblfjbaaGreatDoorBlock
import Derived.Deep.WholeRow
import Derived.Laws.CopyRow
import Derived.Deep.MidRow
namespace Go.Proofs.YtepgoppgblfjbaaGreatDoor
open Go.RowKit

theorem Cb.row {k : Nat} {cs : Array Value} {t : TypeId} {w : World} (h : Cb k cs t w) (cs' : Array Value) : Cb k cs' t (w.setRow k cs') := setRow_heap w k cs cs' t (0, 0) h

theorem Cb.rowOther {k g : Nat} {cs : Array Value} {t : TypeId} {w : World} (h : Cb k cs t w) (hne : k ≠ g) (cs' : Array Value) : Cb k cs t (w.setRow g cs') :=
  (setRow_other w g k cs' hne).trans h

theorem Kx.setRow {X : Nat → Prop} {a w : World} (h : Kx X a w) {g : Nat} (hg : g < a.heap.size → X g) (cs : Array Value) : Kx X a (w.setRow g cs) :=
  ⟨h.os, h.tape, h.output, by simpa using h.size, fun k hk hx => by
    have hne : k ≠ g := by intro e; subst e; exact hx (hg hk)
    rw [setRow_other _ _ _ _ hne]; exact h.block k hk hx⟩

theorem Cb.loadAll {P : Program} {k : Nat} {cs : Array Value} {t : TypeId} {w : World} (h : Cb k cs t w) (n : Nat) (hn : cs.size = n) :
    Sem.run P (loadCellsFrom ⟨k, 0, none⟩ 0 n #[]) w = .ok cs w := by
  subst hn
  have := run_loadCells_list (P := P) w ⟨k, 0, none⟩ cs.toList (fun j v hv => by
    have hadd : (⟨k, 0, none⟩ : Addr).add j = ⟨k, j, none⟩ := by unfold Addr.add; split <;> simp_all
    rw [hadd, h.cell]
    simpa using hv)
  simpa [loadCells] using this

theorem Cb.storeAll {P : Program} {k : Nat} {cs : Array Value} {t : TypeId} {w : World} (h : Cb k cs t w) (c' : Array Value) (ho : cs.size = c'.size) (h1 : ∀ v ∈ c'.toList, v.oneCell' = true) :
    Sem.run P (storeCells ⟨k, 0, none⟩ c'.toList 0) w = .ok () (w.setRow k c') := by
  have := run_storeCells_from (P := P) k t c'.toList 0 cs w h (by simp [ho]) h1
  simpa using this

def aggD : TypeDesc → Bool
  | .struct _ | .array _ _ => true
  | _ => false

theorem results_cell {fn : Func} {p : Tmp} {ty : TypeId} (h : fn.results = #[.cell p ty]) (tmps : Array Value) (P : Program) (w : World) :
    (results fn tmps).run P w = ((asAddr (tmps.getD p undef)).run P w).andThen fun a w₁ => (loadVar ty a).run P w₁ := by
  simp only [results, h]
  simp [Sem.run_bind, Result.andThen]

/-- An array that lies whole in a block, handed back. -/
theorem results_arr {fn : Func} {p : Tmp} {ty : TypeId} (h : fn.results = #[.cell p ty]) {tmps : Array Value} {P : Program} {w : World} {k : Nat} {cs : Array Value} {d : TypeDesc} {bt : TypeId}
    (hp : tmps.getD p undef = .pointer (some ⟨k, 0, none⟩)) (hb : Cb k cs bt w) (hu : P.underlying ty = some d) (hd : aggD d = true) (hi : (P.info? ty).map (·.size) = some cs.size) :
    (results fn tmps).run P w = .ok (.agg cs) w := by
  rw [results_cell h, hp]
  exact run_loadVar_row _ _ bt ty cs (0, 0) _ hb hu (by cases d <;> first | rfl | cases hd) hi

/-- A whole array is read: at the operation. -/
theorem wpList_loadAll {P : Program} (w : World) {ops : Array Oper} {rest : List Oper} {o : Oper} {a : Act} {Q : Exit → Act → World → Prop} (hg : o.guard = none) (t : TypeId) (p : Operand) (hop : o.op = Op.load t p)
    {k : Nat} {cs : Array Value} {bt : TypeId} (hp : a.eval p = .pointer (some ⟨k, 0, none⟩)) (hb : Cb k cs bt w) {d : TypeDesc} (hu : P.underlying t = some d) (hd : aggD d = true) (hi : (P.info? t).map (·.size) = some cs.size)
    (hK : wpList P ops Q rest (a.put o.dst (.agg cs)) w) : wpList P ops Q (o :: rest) a w := by
  refine wpList_plain hg fun K' hK' => ?_
  have hrun : (Instr.loadAt t (.pointer (some ⟨k, 0, none⟩))).run P w = .ok (.agg cs) w := by
    simp only [Instr.loadAt, Instr.sureAddr, Sem.run_bind, Sem.run_pure, Result.andThen]
    exact run_loadVar_row _ _ bt t cs (0, 0) _ hb hu (by cases d <;> first | rfl | cases hd) hi
  unfold Oper.wp
  simp [execOp, hop, hp, hrun, Result.andThen]
  exact hK' _ _ hK

theorem exec_loadAt {P : Program} {w : World} {o : Oper} {a : Act} (t : TypeId) (p : Operand) (hop : o.op = Op.load t p)
    {k f : Nat} {cs : Array Value} (hp : a.eval p = .pointer (some ⟨k, f, none⟩)) (hr : w.rangeAt k f cs.toList) {d : TypeDesc} (hu : P.underlying t = some d) (hd : aggD d = true) (hi : (P.info? t).map (·.size) = some cs.size) :
    (execOp a.eval o).run P w = .ok (.value (.agg cs)) w := by
  have hrun := run_loadAt_mid (P := P) w k f t cs.toList d hr hu (by cases d <;> first | rfl | cases hd) (by rw [Array.length_toList]; exact hi)
  rw [Array.toArray_toList] at hrun
  simp [execOp, hop, hp, hrun, Result.andThen]

/-- An array that lies within a block is read: at the operation. -/
theorem wpList_loadAt {P : Program} (w : World) {ops : Array Oper} {rest : List Oper} {o : Oper} {a : Act} {Q : Exit → Act → World → Prop} (hg : o.guard = none) (t : TypeId) (p : Operand) (hop : o.op = Op.load t p)
    {k f : Nat} {cs : Array Value} (hp : a.eval p = .pointer (some ⟨k, f, none⟩)) (hr : w.rangeAt k f cs.toList) {d : TypeDesc} (hu : P.underlying t = some d) (hd : aggD d = true) (hi : (P.info? t).map (·.size) = some cs.size)
    (hK : wpList P ops Q rest (a.put o.dst (.agg cs)) w) : wpList P ops Q (o :: rest) a w := by
  refine wpList_plain hg fun K' hK' => ?_
  unfold Oper.wp
  rw [exec_loadAt t p hop hp hr hu hd hi]
  exact hK' _ _ hK

/-- A whole array is written: at the operation. -/
theorem wpList_storeAll {P : Program} (w : World) {ops : Array Oper} {rest : List Oper} {o : Oper} {a : Act} {Q : Exit → Act → World → Prop} (hg : o.guard = none) (t : TypeId) (p v : Operand) (hop : o.op = Op.store t p v)
    {k : Nat} {cs c' : Array Value} {bt : TypeId} (hp : a.eval p = .pointer (some ⟨k, 0, none⟩)) (hv : a.eval v = .agg c') (hb : Cb k cs bt w) (hi : (P.info? t).map (·.size) = some c'.size) (ho : cs.size = c'.size) (h1 : c'.all (·.oneCell') = true)
    (hK : wpList P ops Q rest (a.put o.dst undef) (w.setRow k c')) : wpList P ops Q (o :: rest) a w := by
  refine wpList_plain hg fun K' hK' => ?_
  have hrun : (Instr.storeAt t (.pointer (some ⟨k, 0, none⟩)) (.agg c')).run P w = .ok () (w.setRow k c') := by
    simp only [Instr.storeAt, Instr.sureAddr, Sem.run_bind, Sem.run_pure, Result.andThen]
    exact run_storeVar_row _ _ bt t cs c' hb hi ho h1
  unfold Oper.wp
  simp [execOp, hop, hp, hv, hrun, Result.andThen]
  exact hK' _ _ hK

/-- Words as an array's cells. -/
def A32 (l : List Int) : Array Value := (l.map (Value.int .u32)).toArray

theorem A32_get (l : List Int) (k : Nat) (h : k < l.length) : (A32 l)[k]? = some (.int .u32 (l.getD k 0)) := by
  simp [A32, List.getD, h]

theorem A32_size (l : List Int) : (A32 l).size = l.length := by simp [A32]

theorem A32_range (l : List Int) (k f n : Nat) (bt : TypeId) (w : World) (h : Cb k (A32 l) bt w) (hn : f + n ≤ l.length) : w.rangeAt k f (A32 ((l.drop f).take n)).toList := by
  intro j v hv
  have hj : j < n := by have := (List.getElem?_eq_some_iff.1 hv).1; simp [A32] at this; omega
  rw [h.cell, A32_get _ _ (by omega), ← hv]
  simp [A32, List.getD, hj, List.getElem?_eq_getElem (show f + j < l.length by omega)]

theorem A32_one (l : List Int) : ∀ v ∈ (A32 l).toList, v.oneCell' = true := by
  intro v hv
  simp [A32] at hv
  obtain ⟨x, _, rfl⟩ := hv
  rfl

theorem A32_all (l : List Int) : (A32 l).all (·.oneCell') = true := by
  rw [Array.all_eq_true']
  intro v hv
  exact A32_one l v (by simpa using hv)

theorem Kx.only_set {b o : Nat} {a w : World} (h : Kx (Only b) a w) (u : Value) : Kx (Only b) a (w.setCell ⟨b, o, none⟩ u) :=
  h.setCell (p := ⟨b, o, none⟩) (fun _ => by simp [Only]) u

/-- What has turned blocks that were not there ahead of it, has turned nothing. -/
theorem Kx.join {X : Nat → Prop} {a b c : World} (h : Kx X a b) {Y : Nat → Prop} (k : Kx Y b c) (hY : ∀ j, j < a.heap.size → Y j → X j) : Kx X a c :=
  ⟨k.os.trans h.os, k.tape.trans h.tape, k.output.trans h.output, Nat.le_trans h.size k.size,
   fun i hi hx => (k.block i (Nat.lt_of_lt_of_le hi h.size) (fun hy => hx (hY i hi hy))).trans (h.block i hi hx)⟩

end Go.Proofs.YtepgoppgblfjbaaGreatDoor
