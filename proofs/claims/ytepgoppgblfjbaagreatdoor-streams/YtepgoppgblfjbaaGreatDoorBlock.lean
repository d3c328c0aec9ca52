/- A whole block of cells, and what keeps it. -/
import Derived.Test.YtepgoppgblfjbaaGreatDoorBase
namespace Go.Proofs.YtepgoppgblfjbaaGreatDoor
open Go.RowKit

/-- Block k holds these cells, and they may be written. -/
def Cb (k : Nat) (cs : Array Value) (t : TypeId) (w : World) : Prop := w.heap[k]? = some (.cells cs t (0, 0))

theorem Cb.lt {k : Nat} {cs : Array Value} {t : TypeId} {w : World} (h : Cb k cs t w) : k < w.heap.size := (Array.getElem?_eq_some_iff.1 h).1

theorem Cb.cell {k : Nat} {cs : Array Value} {t : TypeId} {w : World} (h : Cb k cs t w) (j : Nat) : w.cell? ⟨k, j, none⟩ = cs[j]? := by
  unfold World.cell?; rw [h]; simp

theorem Cb.frozen {k : Nat} {cs : Array Value} {t : TypeId} {w : World} (h : Cb k cs t w) (j : Nat) : w.frozen? ⟨k, j, none⟩ = false := by
  unfold World.frozen?; rw [h]; simp

theorem Cb.new (cs : Array Value) (t : TypeId) (w : World) : Cb w.heap.size cs t (w.alloc (.cells cs t)) := by
  show (w.heap.push _)[w.heap.size]? = _
  simp

theorem Cb.alloc {k : Nat} {cs : Array Value} {t : TypeId} {w : World} (h : Cb k cs t w) (o : Obj) : Cb k cs t (w.alloc o) :=
  (Below.heap_alloc _ _ _ h.lt).trans h

theorem Cb.kept {k : Nat} {cs : Array Value} {t : TypeId} {X : Nat → Prop} {w w' : World} (h : Cb k cs t w) (hk : Kx X w w') (hx : ¬ X k) : Cb k cs t w' :=
  (hk.block k h.lt hx).trans h

theorem Cb.only {k b : Nat} {cs : Array Value} {t : TypeId} {w w' : World} (h : Cb k cs t w) (hk : Kx (Only b) w w') (hx : b < k) : Cb k cs t w' :=
  h.kept hk (by unfold Only; omega)

theorem Cb.setOther {k : Nat} {cs : Array Value} {t : TypeId} {w : World} (h : Cb k cs t w) {p : Addr} (hp : k ≠ p.block) (u : Value) : Cb k cs t (w.setCell p u) :=
  (Below.heap_setCell w p u k hp).trans h

theorem Cb.set {k : Nat} {cs : Array Value} {t : TypeId} {w : World} (h : Cb k cs t w) (j : Nat) (u : Value) : Cb k (cs.setIfInBounds j u) t (w.setCell ⟨k, j, none⟩ u) := by
  unfold Cb World.setCell
  simp only [Array.getElem?_modify]
  rw [if_pos trivial, h]; simp

end Go.Proofs.YtepgoppgblfjbaaGreatDoor
