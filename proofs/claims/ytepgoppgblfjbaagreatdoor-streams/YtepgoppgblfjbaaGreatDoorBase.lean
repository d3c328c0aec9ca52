/- What is kept by a call that writes certain blocks alone (Kx), and what a reader's block holds (Rd): plain facts on worlds. -/
import Derived.Test.YtepgoppgblfjbaaGreatDoorProg
import Derived.WalkKit
import Derived.WalkSpells
import Derived.WalkLawsBesides
namespace Go.Proofs.YtepgoppgblfjbaaGreatDoor
open Go.RowKit

/-- Of what was there only blocks in X may have turned. -/
structure Kx (X : Nat → Prop) (w w' : World) : Prop where
  os : w'.os = w.os
  tape : w'.tape = w.tape
  output : w'.output = w.output
  size : w.heap.size ≤ w'.heap.size
  block : ∀ k, k < w.heap.size → ¬ X k → w'.heap[k]? = w.heap[k]?

theorem Kx.refl (X : Nat → Prop) (w : World) : Kx X w w := ⟨rfl, rfl, rfl, Nat.le_refl _, fun _ _ _ => rfl⟩

theorem Kx.trans {X : Nat → Prop} {a b c : World} (h : Kx X a b) (k : Kx X b c) : Kx X a c :=
  ⟨k.os.trans h.os, k.tape.trans h.tape, k.output.trans h.output, Nat.le_trans h.size k.size,
   fun i hi hx => (k.block i (Nat.lt_of_lt_of_le hi h.size) hx).trans (h.block i hi hx)⟩

theorem Kx.mono {X Y : Nat → Prop} {w w' : World} (h : Kx X w w') (hXY : ∀ k, k < w.heap.size → X k → Y k) : Kx Y w w' :=
  ⟨h.os, h.tape, h.output, h.size, fun i hi hy => h.block i hi (fun hx => hy (hXY i hi hx))⟩

theorem Kx.drew {X : Nat → Prop} {a w : World} (h : Kx X a w) : Kx X a w.drew := ⟨h.os, h.tape, h.output, h.size, h.block⟩

theorem Kx.drewN {X : Nat → Prop} {a w : World} (h : Kx X a w) (n : Nat) : Kx X a (w.drewN n) := ⟨h.os, h.tape, h.output, h.size, h.block⟩

theorem Kx.alloc {X : Nat → Prop} {a w : World} (h : Kx X a w) (o : Obj) : Kx X a (w.alloc o) :=
  h.trans ⟨rfl, rfl, rfl, by simp, fun k hk _ => Below.heap_alloc _ _ _ hk⟩

theorem Kx.setCell {X : Nat → Prop} {a w : World} (h : Kx X a w) {p : Addr} (hp : p.block < a.heap.size → X p.block) (u : Value) : Kx X a (w.setCell p u) :=
  ⟨h.os, h.tape, h.output, by simpa using h.size, fun k hk hx => by
    have hne : k ≠ p.block := by intro e; subst e; exact hx (hp hk)
    rw [Below.heap_setCell _ _ _ _ hne]; exact h.block k hk hx⟩

theorem Kx.cell {X : Nat → Prop} {w w' : World} (h : Kx X w w') {p : Addr} (hp : p.block < w.heap.size) (hx : ¬ X p.block) : w'.cell? p = w.cell? p :=
  World.cell?_of_block (w := w) (h.block p.block hp hx)

theorem Kx.frozen {X : Nat → Prop} {w w' : World} (h : Kx X w w') {p : Addr} (hp : p.block < w.heap.size) (hx : ¬ X p.block) : w'.frozen? p = w.frozen? p :=
  World.frozen?_of_block (w := w) (h.block p.block hp hx)

theorem Kx.of_below {X : Nat → Prop} {w w' : World} (h : Below w.heap.size w w') : Kx X w w' :=
  ⟨h.os, h.tape, h.output, h.size, fun k hk _ => h.block k hk⟩

theorem Kx.below {X : Nat → Prop} {B : Nat} {w w' : World} (h : Kx X w w') (hB : B ≤ w.heap.size) (hX : ∀ k, k < B → ¬ X k) : Below B w w' :=
  ⟨h.os, h.tape, h.output, h.size, fun k hk => h.block k (Nat.lt_of_lt_of_le hk hB) (hX k hk)⟩

theorem lt_of_cell {w : World} {p : Addr} {v : Value} (h : w.cell? p = some v) : p.block < w.heap.size := by
  unfold World.cell? at h
  by_cases hb : p.block < w.heap.size
  · exact hb
  · rw [Array.getElem?_eq_none (by omega)] at h; cases h

/-- The reader at block b: what is left to be read; is it wrong? And the variable that the library's search reads. -/
structure Rd (b : Nat) (s : List UInt8) (bad : Bool) (w : World) : Prop where
  c0 : w.cell? ⟨b, 0, none⟩ = some (.string ⟨s.toArray⟩)
  c1 : w.cell? ⟨b, 1, none⟩ = some (.bool bad)
  f0 : w.frozen? ⟨b, 0, none⟩ = false
  f1 : w.frozen? ⟨b, 1, none⟩ = false
  pos : 6 < b
  max : ∃ m, w.cell? ⟨1, 0, none⟩ = some (.int .i64 m)
  short : s.length ≤ 8000

theorem Rd.lt {b : Nat} {s : List UInt8} {bad : Bool} {w : World} (h : Rd b s bad w) : b < w.heap.size := lt_of_cell h.c0

theorem Rd.kept {b : Nat} {s : List UInt8} {bad : Bool} {X : Nat → Prop} {w w' : World} (h : Rd b s bad w) (k : Kx X w w') (h0 : ¬ X 1) (hb : ¬ X b) : Rd b s bad w' := by
  have hl := h.lt
  obtain ⟨m, hm⟩ := h.max
  have h00 := lt_of_cell hm
  refine ⟨?_, ?_, ?_, ?_, h.pos, ⟨m, ?_⟩, h.short⟩
  · rw [k.cell (p := ⟨b, 0, none⟩) hl hb]; exact h.c0
  · rw [k.cell (p := ⟨b, 1, none⟩) hl hb]; exact h.c1
  · rw [k.frozen (p := ⟨b, 0, none⟩) hl hb]; exact h.f0
  · rw [k.frozen (p := ⟨b, 1, none⟩) hl hb]; exact h.f1
  · rw [k.cell (p := ⟨1, 0, none⟩) h00 h0]; exact hm

theorem Rd.alloc {b : Nat} {s : List UInt8} {bad : Bool} {w : World} (h : Rd b s bad w) (o : Obj) : Rd b s bad (w.alloc o) :=
  h.kept (X := fun _ => False) ((Kx.refl _ _).alloc o) id id

theorem Rd.drewN {b : Nat} {s : List UInt8} {bad : Bool} {w : World} (h : Rd b s bad w) (n : Nat) : Rd b s bad (w.drewN n) :=
  h.kept (X := fun _ => False) ((Kx.refl _ _).drewN n) id id

/-- Only the reader's block. -/
def Only (b : Nat) : Nat → Prop := fun k => k = b

theorem Kx.setNew {X : Nat → Prop} {a w : World} (h : Kx X a w) {p : Addr} (hp : a.heap.size ≤ p.block) (u : Value) : Kx X a (w.setCell p u) :=
  h.setCell (fun hl => absurd hl (by omega)) u

theorem Kx.grown {X : Nat → Prop} {a w w' : World} {row : Option Nat} (h : Kx X a w) (hg : w.grownBy w' row) (hr : ∀ k, row = some k → a.heap.size ≤ k) : Kx X a w' :=
  ⟨hg.os.trans h.os, hg.tape.trans h.tape, hg.output.trans h.output, Nat.le_trans h.size hg.size,
   fun k hk hx => (hg.block k (Nat.lt_of_lt_of_le hk h.size) (fun e => by have := hr k e.symm; omega)).trans (h.block k hk hx)⟩

/-- A block that was made ahead of what keeps all but the reader's. -/
theorem new_cell {b : Nat} {w w1 : World} {c : Array Value} {t : TypeId} (hk : Kx (Only b) (w.alloc (.cells c t)) w1) (hb : b < w.heap.size) (o : Nat) :
    w1.cell? ⟨w.heap.size, o, none⟩ = c[o]? ∧ w1.frozen? ⟨w.heap.size, o, none⟩ = false := by
  have h : (w.alloc (.cells c t)).heap[w.heap.size]? = some (.cells c t) := by
    show (w.heap.push _)[w.heap.size]? = _
    simp
  have h1 := hk.block w.heap.size (by simp) (by unfold Only; omega)
  rw [h] at h1
  constructor
  · unfold World.cell?; rw [h1]; simp
  · unfold World.frozen?; rw [h1]; simp

theorem Rd.setOther {b : Nat} {s : List UInt8} {bad : Bool} {w : World} (h : Rd b s bad w) {p : Addr} (hp : p.block ≠ b) (h0 : p.block ≠ 1) (u : Value) : Rd b s bad (w.setCell p u) :=
  h.kept (X := Only p.block) ((Kx.refl (Only p.block) w).setCell (p := p) (fun _ => by simp [Only]) u) (fun e => h0 e.symm) (fun e => hp e.symm)

theorem Rd.setNew {b n o : Nat} {s : List UInt8} {bad : Bool} {w : World} (h : Rd b s bad w) (hn : b < n) (u : Value) : Rd b s bad (w.setCell ⟨n, o, none⟩ u) :=
  h.setOther (p := ⟨n, o, none⟩) (by show n ≠ b; omega) (by have := h.pos; show n ≠ 1; omega) u

end Go.Proofs.YtepgoppgblfjbaaGreatDoor
