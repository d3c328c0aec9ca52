/- The document's reader: a commit; facts. -/
import Derived.Test.YtepgoppgblfjbaaGreatDoorRefChange
namespace Go.Proofs.YtepgoppgblfjbaaGreatDoor
open Go.RowKit

theorem Tryz.info302 : (Tryz.prog.info? 302).map (fun i => (i.zero, i.size, i.bytes)) = some (some (.agg #[.int .i64 0, .string ⟨#[]⟩]), 2, 24) := by kernel_rfl
theorem Tryz.info368 : (Tryz.prog.info? 368).map (fun i => (i.zero, i.size, i.bytes)) = some (some (.agg #[.int .u8 0, .string ⟨#[]⟩, .int .i64 0, .string ⟨#[]⟩, .string ⟨#[]⟩, .string ⟨#[]⟩]), 6, 80) := by kernel_rfl

namespace Rf

/-- How much there is to read, by the reader's cells: nothing where it is wrong. -/
def leftR (b len : Nat) (w : World) : Nat :=
  match w.cell? ⟨b, 2, none⟩ with
  | some (.bool true) => 0
  | _ => match w.cell? ⟨b, 1, none⟩ with
    | some (.int _ a) => len + 1 - a.toNat
    | _ => 0

theorem Rs.leftR {b : Nat} {s rest : List UInt8} {bad : Bool} {w : World} (h : Rs b s rest bad w) : leftR b s.length w = if bad then 0 else rest.length + 1 := by
  obtain ⟨a, h, e⟩ := h
  unfold Rf.leftR
  rw [h.c2, h.c1]
  cases bad
  · simp only [Bool.false_eq_true, if_false]
    rw [← e rfl]
    have := h.le
    simp; omega
  · rfl

theorem Rs.short8 {b : Nat} {s rest : List UInt8} {bad : Bool} {w : World} (h : Rs b s rest bad w) : s.length ≤ 8000 := by
  obtain ⟨a, h, _⟩ := h; exact h.short

theorem own_kept' {base : Nat} {e : TypeId} {size : Nat} {v : Value} {n : Nat} {xs : List Value} {X : Nat → Prop} {w w' : World} (h : w.ownsRow base e size v n xs) (hk : Kx X w w') (hX : ∀ k, k < w.heap.size → base ≤ k → ¬ X k) : w'.ownsRow base e size v n xs := by
  refine ⟨h.1, ?_⟩
  rcases h.2 with hn | ⟨g, cap, cur, rfl, hbg, hgg, rest⟩
  · exact .inl hn
  · refine .inr ⟨g, cap, cur, rfl, hbg, ?_, rest⟩
    have hl := (Array.getElem?_eq_some_iff.1 hgg).1
    rw [hk.block g hl (hX g hl hbg)]
    exact hgg

theorem own_slice {base : Nat} {e : TypeId} {size : Nat} {v : Value} {n : Nat} {xs : List Value} {w : World} (h : w.ownsRow base e size v n xs) : ∃ a c, v = .slice a n c := by
  rcases h.2 with ⟨rfl, rfl⟩ | ⟨g, cap, cur, rfl, _⟩
  · exact ⟨_, _, rfl⟩
  · exact ⟨_, _, rfl⟩

/-- Block k holds a command: its three lists. -/
def Cc (k : Nat) (v5 v6 v7 : Value) (w : World) : Prop := ∃ (a0 : Int) (a1 : ByteArray) (a2 : Int) (a3 a4 : ByteArray), Cb k #[.int .u8 a0, .string a1, .int .i64 a2, .string a3, .string a4, v5, v6, v7] 255 w

theorem Cc.frozen {k : Nat} {v5 v6 v7 : Value} {w : World} (h : Cc k v5 v6 v7 w) (j : Nat) : w.frozen? ⟨k, j, none⟩ = false := by
  obtain ⟨a0, a1, a2, a3, a4, h⟩ := h; exact h.frozen j
theorem Cc.lt {k : Nat} {v5 v6 v7 : Value} {w : World} (h : Cc k v5 v6 v7 w) : k < w.heap.size := by
  obtain ⟨a0, a1, a2, a3, a4, h⟩ := h; exact h.lt
theorem Cc.kept {k : Nat} {v5 v6 v7 : Value} {X : Nat → Prop} {w w' : World} (h : Cc k v5 v6 v7 w) (hk : Kx X w w') (hx : ¬ X k) : Cc k v5 v6 v7 w' := by
  obtain ⟨a0, a1, a2, a3, a4, h⟩ := h; exact ⟨_, _, _, _, _, h.kept hk hx⟩
theorem Cc.only {k b : Nat} {v5 v6 v7 : Value} {w w' : World} (h : Cc k v5 v6 v7 w) (hk : Kx (Only b) w w') (hx : b < k) : Cc k v5 v6 v7 w' := h.kept hk (by unfold Only; omega)
theorem Cc.set0 {k : Nat} {v5 v6 v7 : Value} {w : World} (h : Cc k v5 v6 v7 w) (x : Int) : Cc k v5 v6 v7 (w.setCell ⟨k, 0, none⟩ (.int .u8 x)) := by
  obtain ⟨a0, a1, a2, a3, a4, h⟩ := h; exact ⟨x, a1, a2, a3, a4, h.set 0 (.int .u8 x)⟩
theorem Cc.set1 {k : Nat} {v5 v6 v7 : Value} {w : World} (h : Cc k v5 v6 v7 w) (x : ByteArray) : Cc k v5 v6 v7 (w.setCell ⟨k, 1, none⟩ (.string x)) := by
  obtain ⟨a0, a1, a2, a3, a4, h⟩ := h; exact ⟨a0, x, a2, a3, a4, h.set 1 (.string x)⟩
theorem Cc.set2 {k : Nat} {v5 v6 v7 : Value} {w : World} (h : Cc k v5 v6 v7 w) (x : Int) : Cc k v5 v6 v7 (w.setCell ⟨k, 2, none⟩ (.int .i64 x)) := by
  obtain ⟨a0, a1, a2, a3, a4, h⟩ := h; exact ⟨a0, a1, x, a3, a4, h.set 2 (.int .i64 x)⟩
theorem Cc.set3 {k : Nat} {v5 v6 v7 : Value} {w : World} (h : Cc k v5 v6 v7 w) (x : ByteArray) : Cc k v5 v6 v7 (w.setCell ⟨k, 3, none⟩ (.string x)) := by
  obtain ⟨a0, a1, a2, a3, a4, h⟩ := h; exact ⟨a0, a1, a2, x, a4, h.set 3 (.string x)⟩
theorem Cc.set4 {k : Nat} {v5 v6 v7 : Value} {w : World} (h : Cc k v5 v6 v7 w) (x : ByteArray) : Cc k v5 v6 v7 (w.setCell ⟨k, 4, none⟩ (.string x)) := by
  obtain ⟨a0, a1, a2, a3, a4, h⟩ := h; exact ⟨a0, a1, a2, a3, x, h.set 4 (.string x)⟩
theorem Cc.set5 {k : Nat} {v5 v6 v7 : Value} {w : World} (h : Cc k v5 v6 v7 w) (x : Value) : Cc k x v6 v7 (w.setCell ⟨k, 5, none⟩ x) := by
  obtain ⟨a0, a1, a2, a3, a4, h⟩ := h; exact ⟨a0, a1, a2, a3, a4, h.set 5 x⟩
theorem Cc.set6 {k : Nat} {v5 v6 v7 : Value} {w : World} (h : Cc k v5 v6 v7 w) (x : Value) : Cc k v5 x v7 (w.setCell ⟨k, 6, none⟩ x) := by
  obtain ⟨a0, a1, a2, a3, a4, h⟩ := h; exact ⟨a0, a1, a2, a3, a4, h.set 6 x⟩
theorem Cc.set7 {k : Nat} {v5 v6 v7 : Value} {w : World} (h : Cc k v5 v6 v7 w) (x : Value) : Cc k v5 v6 x (w.setCell ⟨k, 7, none⟩ x) := by
  obtain ⟨a0, a1, a2, a3, a4, h⟩ := h; exact ⟨a0, a1, a2, a3, a4, h.set 7 x⟩
theorem Cc.setOther {k n o : Nat} {v5 v6 v7 : Value} {w : World} (h : Cc k v5 v6 v7 w) (hn : k ≠ n) (u : Value) : Cc k v5 v6 v7 (w.setCell ⟨n, o, none⟩ u) := by
  obtain ⟨a0, a1, a2, a3, a4, h⟩ := h; exact ⟨_, _, _, _, _, h.setOther (p := ⟨n, o, none⟩) hn u⟩
theorem Cc.cells {k : Nat} {v5 v6 v7 : Value} {w : World} (h : Cc k v5 v6 v7 w) : ∃ (a0 : Int) (a1 : ByteArray) (a2 : Int) (a3 a4 : ByteArray), w.cell? ⟨k, 0, none⟩ = some (.int .u8 a0) ∧ w.cell? ⟨k, 1, none⟩ = some (.string a1) ∧ w.cell? ⟨k, 2, none⟩ = some (.int .i64 a2) ∧ w.cell? ⟨k, 3, none⟩ = some (.string a3) ∧ w.cell? ⟨k, 4, none⟩ = some (.string a4) ∧ w.cell? ⟨k, 5, none⟩ = some v5 ∧ w.cell? ⟨k, 6, none⟩ = some v6 ∧ w.cell? ⟨k, 7, none⟩ = some v7 := by
  obtain ⟨a0, a1, a2, a3, a4, h⟩ := h
  exact ⟨a0, a1, a2, a3, a4, h.cell 0, h.cell 1, h.cell 2, h.cell 3, h.cell 4, h.cell 5, h.cell 6, h.cell 7⟩

/-- The value of a command. -/
def IsCmd (v v5 v6 v7 : Value) : Prop := ∃ (a0 : Int) (a1 : ByteArray) (a2 : Int) (a3 a4 : ByteArray), v = .agg #[.int .u8 a0, .string a1, .int .i64 a2, .string a3, .string a4, v5, v6, v7]

theorem Rs.grown {b : Nat} {s rest : List UInt8} {bad : Bool} {w w' : World} {row : Option Nat} (h : Rs b s rest bad w) (hg : w.grownBy w' row) (hr : ∀ k, row = some k → b < k) : Rs b s rest bad w' := by
  have hk : Kx (fun k => some k = row) w w' := ⟨hg.os, hg.tape, hg.output, hg.size, fun k hl hx => hg.block k hl hx⟩
  refine h.kept hk ?_
  intro e; have := hr b e.symm; omega

theorem Cc.grown {k : Nat} {v5 v6 v7 : Value} {w w' : World} {row : Option Nat} (h : Cc k v5 v6 v7 w) (hg : w.grownBy w' row) (hr : ∀ j, row = some j → k < j) : Cc k v5 v6 v7 w' := by
  have hk : Kx (fun k => some k = row) w w' := ⟨hg.os, hg.tape, hg.output, hg.size, fun k hl hx => hg.block k hl hx⟩
  refine h.kept hk ?_
  intro e; have := hr k e.symm; omega

theorem Rs.which {b : Nat} {s : List UInt8} {hd r v : List UInt8} {bad : Bool} {w : World} (hv : (Pu.after hd r bad).2.2 = false → v = (Pu.after hd r bad).1)
    (h : Rs b s (Pu.need (whichB v) (Pu.after hd r bad).2.1 (Pu.after hd r bad).2.2).1 (Pu.need (whichB v) (Pu.after hd r bad).2.1 (Pu.after hd r bad).2.2).2 w) : Rs b s (Pu.which hd r bad).1 (Pu.which hd r bad).2 w := by
  rw [which_eq]
  generalize Pu.after hd r bad = x at *
  obtain ⟨x0, x1, x2⟩ := x
  cases x2
  · have e : v = x0 := hv rfl
    subst e; exact h
  · simp only at h ⊢
    rw [Pu.need_bad] at h ⊢
    exact h.bad _

theorem Rs.noFrom {b : Nat} {s r : List UInt8} {bad : Bool} {w : World} (h : Rs b s r bad w) (hf : (!bad && Lib.hasPrefix r [102, 114, 111, 109, 32]) = false) : Rs b s (Pu.fromOr r bad).1 (Pu.fromOr r bad).2 w := by
  cases bad
  · have hp : Lib.hasPrefix r Pu.sFrom = false := hf
    unfold Pu.fromOr; rw [hp]; exact h
  · rw [Pu.fromOr_bad]; exact h.bad _

theorem fromOr_yes {r : List UInt8} {bad : Bool} (hf : (!bad && Lib.hasPrefix r [102, 114, 111, 109, 32]) = true) : Pu.fromOr r bad = Pu.which [102, 114, 111, 109, 32] r bad := by
  have hp : Lib.hasPrefix r Pu.sFrom = true := (Bool.and_eq_true_iff.1 hf).2
  unfold Pu.fromOr; rw [hp]; rfl

theorem cells_newN (w : World) (o : Obj) (cs : List Value) (t : TypeId) : ∀ (j : Nat) (u : Value), cs[j]? = some u → ((w.alloc o).alloc (.cells cs.toArray t)).cell? ((⟨w.heap.size + 1, 0, none⟩ : Addr).add j) = some u := by
  intro j u hu
  have := cells_new (w.alloc o) cs t j u hu
  have e : (w.alloc o).heap.size = w.heap.size + 1 := by simp
  rw [e] at this
  exact this

theorem dec4 (n : Nat) : decide ((n : Int) < 4) = decide (n < 4) := by congr 1; simp only [eq_iff_iff]; omega
theorem dec30 (n : Nat) : decide ((n : Int) ≤ 30) = decide (n ≤ 30) := by congr 1; simp only [eq_iff_iff]; omega

theorem line_nl (r : List UInt8) (h : Lib.hasPrefix r [10] = true) : Pu.line r false = ([], r.drop 1, false) := by
  cases r with
  | nil => unfold Lib.hasPrefix at h; simp [List.isPrefixOf] at h
  | cons a r =>
    have ha : (10 : UInt8) = a := by unfold Lib.hasPrefix at h; simpa [List.isPrefixOf] using h
    subst ha
    exact line_at (10 :: r) 0 0 (by omega) (by simp) rfl (by simp)

theorem line_cons (r : List UInt8) (h : Lib.hasPrefix r [10] = false) (hb : (Pu.line r false).2.2 = false) : ((Pu.line r false).1 == []) = false := by
  by_cases hm : 10 ∈ r
  · obtain ⟨p, q, rfl, hp⟩ : ∃ p q, r = p ++ 10 :: q ∧ ¬ 10 ∈ p := by
      obtain ⟨p, q, e, hp⟩ := List.eq_append_cons_of_mem hm
      exact ⟨p, q, e, hp⟩
    have e := line_at (p ++ 10 :: q) 0 p.length (by omega) (by simp) (by simp) (by simpa using hp)
    rw [List.drop_zero] at e
    rw [e]
    cases p with
    | nil => unfold Lib.hasPrefix at h; simp [List.isPrefixOf] at h
    | cons a p => simp
  · rw [line_none r false hm] at hb; cases hb

theorem rchange_true (r : List UInt8) (h : (Pu.line r false).2.2 = true) : rchange r false = ([], true) := by unfold rchange; rw [h]; rfl
theorem rchange_false (r : List UInt8) (h : (Pu.line r false).2.2 = false) : rchange r false = Pu.change (Pu.line r false).1 (Pu.line r false).2.1 false := by unfold rchange; rw [h]; rfl

/-- What the changes come to, of what is left to read. -/
def chR (r : List UInt8) (n : Nat) : Nat × List UInt8 × Bool := Pu.changesF ((Pu.line r false).2.1.length + 1) (Pu.line r false).1 (Pu.line r false).2.1 (Pu.line r false).2.2 n

theorem chR_stop (r : List UInt8) (n : Nat) (h : Lib.hasPrefix r [10] = true) : chR r n = (n, r.drop 1, false) := by
  unfold chR; rw [line_nl r h]; exact Pu.changesF_nil _ _ _ _

theorem chR_step (r : List UInt8) (n : Nat) (h : Lib.hasPrefix r [10] = false) :
    ((rchange r false).2 = true → (chR r n).2.2 = true) ∧ ((rchange r false).2 = false → chR r n = chR (rchange r false).1 (n + 1) ∧ (rchange r false).1.length < r.length) := by
  cases hb : (Pu.line r false).2.2
  · have hl := line_cons r h hb
    have hne : r ≠ [] := by intro e; subst e; exact absurd hb (by decide)
    have h1 := Pu.line_lt r false hne
    rw [rchange_false r hb]
    unfold chR
    rw [hb]
    generalize hy : (Pu.line r false).1 = l at *
    generalize hz : (Pu.line r false).2.1 = s at *
    rw [Pu.changesF_step _ _ _ _ hl]
    have h2 := Pu.change_le l s false
    constructor
    · intro e
      rw [e, Pu.line_bad]
      exact Pu.changesF_bad _ _ _ _
    · intro e
      rw [e]
      exact ⟨rfl, by omega⟩
  · have e : chR r n = (n, (Pu.line r false).2.1, true) := by
      unfold chR
      have hl : (Pu.line r false).1 = [] := by
        unfold Pu.line at hb ⊢
        split at hb
        · cases hb
        · rename_i hc; rw [if_neg hc]
      rw [hl, hb, Pu.changesF_nil]
    rw [rchange_true r hb, e]
    exact ⟨fun _ => rfl, fun e => by cases e⟩

theorem changes_chR (r : List UInt8) : Pu.changes r false = Pu.need (decide ((chR r 0).1 ≤ 30)) (chR r 0).2.1 (chR r 0).2.2 := by
  have hll := Pu.line_lens r false
  have hF := Pu.changesF_fuel (r.length + 2) ((Pu.line r false).2.1.length + 1) (Pu.line r false).1 (Pu.line r false).2.1 (Pu.line r false).2.2 0 (by omega) (by omega)
  unfold Pu.changes chR
  rw [hF]

theorem Rs.merges {b : Nat} {s s6 s' : List UInt8} {bad6 bad' : Bool} {n : Nat} {w : World} (hE : Pu.mergesF s6.length s6 bad6 0 = Pu.mergesF s'.length s' bad' n) (hm : (!bad' && Lib.hasPrefix s' [109, 101, 114, 103, 101, 32]) = false)
    (h : Rs b s (Pu.need (decide (n < 4)) s' bad').1 (Pu.need (decide (n < 4)) s' bad').2 w) : Rs b s (Pu.merges s6 bad6).1 (Pu.merges s6 bad6).2 w := by
  unfold Pu.merges
  rw [hE]
  cases bad'
  · have hp : Lib.hasPrefix s' Pu.sMerge = false := hm
    rw [Pu.mergesF_stop _ _ _ _ hp]
    exact h
  · rw [Pu.mergesF_bad, Pu.need_bad]
    rw [Pu.need_bad] at h
    exact h.bad _

theorem merges_step {s6 s' : List UInt8} {bad6 bad' : Bool} {n : Nat} (hE : Pu.mergesF s6.length s6 bad6 0 = Pu.mergesF s'.length s' bad' n) (hm : (!bad' && Lib.hasPrefix s' [109, 101, 114, 103, 101, 32]) = true) :
    bad' = false ∧ Pu.mergesF s6.length s6 bad6 0 = Pu.mergesF (Pu.which [109, 101, 114, 103, 101, 32] s' bad').1.length (Pu.which [109, 101, 114, 103, 101, 32] s' bad').1 (Pu.which [109, 101, 114, 103, 101, 32] s' bad').2 (n + 1) ∧ (Pu.which [109, 101, 114, 103, 101, 32] s' bad').1.length < s'.length := by
  have h2 := Bool.and_eq_true_iff.1 hm
  have hp : Lib.hasPrefix s' Pu.sMerge = true := h2.2
  refine ⟨by simpa using h2.1, ?_, ?_⟩
  · rw [hE, Pu.mergesF_step _ _ _ hp]; rfl
  · exact Pu.which_lt Pu.sMerge s' bad' (Pu.hasPrefix_ne hp (by decide))

/-- The loop over the changes: where it stands. -/
def CH (s8 : List UInt8) (bad8 : Bool) (s' : List UInt8) (bad' : Bool) (n : Nat) : Prop :=
  (bad8 = true ∧ bad' = true) ∨ (bad8 = false ∧ ((bad' = true ∧ (chR s8 0).2.2 = true) ∨ (bad' = false ∧ chR s8 0 = chR s' n)))

theorem CH.start (s8 : List UInt8) (bad8 : Bool) : CH s8 bad8 s8 bad8 0 := by
  cases bad8
  · exact Or.inr ⟨rfl, Or.inr ⟨rfl, rfl⟩⟩
  · exact Or.inl ⟨rfl, rfl⟩

theorem CH.step {s8 : List UInt8} {bad8 : Bool} {s' : List UInt8} {n : Nat} (h : CH s8 bad8 s' false n) (hp : Lib.hasPrefix s' [10] = false) :
    CH s8 bad8 (rchange s' false).1 (rchange s' false).2 (n + 1) ∧ (if (rchange s' false).2 then 0 else (rchange s' false).1.length + 1) < s'.length + 1 := by
  rcases h with ⟨_, h⟩ | ⟨h0, ⟨h, _⟩ | ⟨_, h⟩⟩
  · cases h
  · cases h
  · have hs := chR_step s' n hp
    cases hb : (rchange s' false).2
    · have := hs.2 hb
      exact ⟨Or.inr ⟨h0, Or.inr ⟨rfl, h.trans this.1⟩⟩, by simp; omega⟩
    · have := hs.1 hb
      exact ⟨Or.inr ⟨h0, Or.inl ⟨rfl, by rw [h]; exact this⟩⟩, by simp⟩

theorem Rs.changes {b : Nat} {s s8 s' : List UInt8} {bad8 bad' : Bool} {n : Nat} {w : World} (hc : CH s8 bad8 s' bad' n) (hm : bad' = true ∨ (bad' = false ∧ Lib.hasPrefix s' [10] = true))
    (h : Rs b s (Pu.line (Pu.need (decide (n ≤ 30)) s' bad').1 (Pu.need (decide (n ≤ 30)) s' bad').2).2.1 (Pu.line (Pu.need (decide (n ≤ 30)) s' bad').1 (Pu.need (decide (n ≤ 30)) s' bad').2).2.2 w) : Rs b s (Pu.changes s8 bad8).1 (Pu.changes s8 bad8).2 w := by
  rcases hm with rfl | ⟨rfl, hp⟩
  · have hb : (Pu.changes s8 bad8).2 = true := by
      rcases hc with ⟨rfl, _⟩ | ⟨rfl, ⟨_, h⟩ | ⟨h, _⟩⟩
      · exact Pu.changes_bad _
      · rw [changes_chR, h]; exact Pu.need_bad _ _
      · cases h
    rw [Pu.need_bad, Pu.line_bad] at h
    rw [hb]; exact h.bad _
  · rcases hc with ⟨_, h⟩ | ⟨rfl, ⟨h, _⟩ | ⟨_, hh⟩⟩
    · cases h
    · cases h
    · rw [changes_chR, hh, chR_stop s' n hp]
      by_cases hn : n ≤ 30
      · rw [decide_eq_true hn] at h ⊢
        have e : Pu.need true s' false = (s', false) := rfl
        rw [e, line_nl s' hp] at h
        exact h
      · rw [decide_eq_false hn] at h ⊢
        exact h

end Rf
end Go.Proofs.YtepgoppgblfjbaaGreatDoor
