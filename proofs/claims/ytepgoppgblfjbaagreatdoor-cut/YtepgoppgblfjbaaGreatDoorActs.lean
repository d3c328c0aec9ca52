/- Slices of acts that came in. -/
import Derived.Test.YtepgoppgblfjbaaGreatDoorStream
import Derived.Test.YtepgoppgblfjbaaGreatDoorStart
import Derived.OpenShut
import Derived.ChangeOld
import Derived.Deep.Slices
import Derived.Lib.LaidTab
namespace Go.Proofs.YtepgoppgblfjbaaGreatDoor
open Go.ChangeShapes Go.WideShapes Go.ChangeAt Go.RowKit Go.Deep

theorem cells33 : Tryz.prog.cellsOf 38 = 5 := by kernel_rfl
theorem cells3 : Tryz.prog.cellsOf 3 = 1 := by kernel_rfl

theorem i64_of {n : Int} (h : (Lit.int .i64 n).wf = true) : I64 n := by
  have h1 := bounds_i64 h
  unfold I64; omega

set_option maxRecDepth 100000 in
/-- An act's cells, off its reading. -/
theorem act_of {H : Type} {enc : TypeId × Value → H} {w : World} {base : Nat} {spare : Nat → Bool} {held : Bool} {fuel : Nat} {cs : List Value} {x : DataW H × List MemPlace}
    (h : DataW.trod enc Tryz.prog w base spare held fuel 38 cs = some x) :
    ∃ a : Ac, a.ok ∧ cs = [.int .i64 a.K, .int .i64 a.A, .int .i64 a.B, .int .i64 a.C, .int .i64 a.D] := by
  obtain ⟨xs, n, _, rfl, hl, hlen, hf⟩ := DataW.trod_struct Tryz.underlying38 h
  rw [cells33] at hl
  match xs, hlen, cs, hl with
  | [y0, y1, y2, y3, y4], _, [c0, c1, c2, c3, c4], _ =>
    have f0 : DataW.trod enc Tryz.prog w base spare held n 3 (([c0, c1, c2, c3, c4].drop 0).take (Tryz.prog.cellsOf 3)) = some y0 := hf 0 _ rfl
    have f1 : DataW.trod enc Tryz.prog w base spare held n 3 (([c0, c1, c2, c3, c4].drop 1).take (Tryz.prog.cellsOf 3)) = some y1 := hf 1 _ rfl
    have f2 : DataW.trod enc Tryz.prog w base spare held n 3 (([c0, c1, c2, c3, c4].drop 2).take (Tryz.prog.cellsOf 3)) = some y2 := hf 2 _ rfl
    have f3 : DataW.trod enc Tryz.prog w base spare held n 3 (([c0, c1, c2, c3, c4].drop 3).take (Tryz.prog.cellsOf 3)) = some y3 := hf 3 _ rfl
    have f4 : DataW.trod enc Tryz.prog w base spare held n 3 (([c0, c1, c2, c3, c4].drop 4).take (Tryz.prog.cellsOf 3)) = some y4 := hf 4 _ rfl
    rw [cells3] at f0 f1 f2 f3 f4
    obtain ⟨n0, e0, _, w0⟩ := DataW.trod_int Tryz.underlying3 f0
    obtain ⟨n1, e1, _, w1⟩ := DataW.trod_int Tryz.underlying3 f1
    obtain ⟨n2, e2, _, w2⟩ := DataW.trod_int Tryz.underlying3 f2
    obtain ⟨n3, e3, _, w3⟩ := DataW.trod_int Tryz.underlying3 f3
    obtain ⟨n4, e4, _, w4⟩ := DataW.trod_int Tryz.underlying3 f4
    simp at e0 e1 e2 e3 e4
    subst e0 e1 e2 e3 e4
    exact ⟨⟨n0, n1, n2, n3, n4⟩, ⟨i64_of w0, i64_of w1, i64_of w2, i64_of w3, i64_of w4⟩, rfl⟩

/-- A slice of acts that came in. -/
theorem stream_of {H : Type} {enc : TypeId × Value → H} {W : World} {spare : Nat → Bool} {held : Bool} {fuel : Nat} {v : Value} {x : DataW H × List MemPlace}
    (h : DataW.trod enc Tryz.prog W 0 spare held fuel 25 [v] = some x) :
    ∃ (f : Nat → Ac) (len : Nat), ∀ w1 : World, (∀ X, Kx X W w1) → Calls Tryz.prog 17 #[v] w1 fun e w' => e = .returned (.string ⟨(streamOf f len).toArray⟩) ∧ ∀ X, Kx X w1 w' := by
  rcases open_slice Tryz.underlying25 h with ⟨hcs, _⟩ | ⟨a, len, cap, m, n, D, Pl, hcs, _, hl, hm, hmm, _, hel⟩
  · simp at hcs
    subst hcs
    exact ⟨fun _ => ⟨0, 0, 0, 0, 0⟩, 0, fun w1 _ => streamL_none none 0 _ w1⟩
  · simp at hcs
    subst hcs
    by_cases h0 : len = 0
    · subst h0
      exact ⟨fun _ => ⟨0, 0, 0, 0, 0⟩, 0, fun w1 _ => streamL_none (some a) cap _ w1⟩
    · have hlm : len ≤ m := by rw [hmm]; split <;> omega
      rw [cells33] at hel
      have hel2 : ∀ i, i < len → ∃ c : Ac, c.ok ∧ W.cells? 0 (a.add (i * 5)) 5 = some [.int .i64 c.K, .int .i64 c.A, .int .i64 c.B, .int .i64 c.C, .int .i64 c.D] := by
        intro i hi
        obtain ⟨cs, h1, h2⟩ := hel i (by omega)
        obtain ⟨c, hc, rfl⟩ := act_of h2
        exact ⟨c, hc, h1⟩
      obtain ⟨f, hf⟩ : ∃ f : Nat → Ac, ∀ i, i < len → (f i).ok ∧ W.cells? 0 (a.add (i * 5)) 5 = some [.int .i64 (f i).K, .int .i64 (f i).A, .int .i64 (f i).B, .int .i64 (f i).C, .int .i64 (f i).D] := by
        have : Inhabited Ac := ⟨⟨0, 0, 0, 0, 0⟩⟩
        exact choose_lt hel2
      obtain ⟨b, off, spot⟩ := a
      have hspot : spot = none := by
        have hc := (World.cells?_some (hf 0 (by omega)).2).2.2 0 (by omega)
        simpa [Addr.add] using World.cell?_spot hc
      subst hspot
      have hadd : ∀ i j, ((⟨b, off, none⟩ : Addr).add (i * 5)).add j = ⟨b, off + i * 5 + j, none⟩ := by
        intro i j
        rw [add_add]
        unfold Addr.add; split <;> simp_all [Nat.add_assoc]
      have hcell : ∀ i, i < len → ∀ j, j < 5 → W.cell? ⟨b, off + i * 5 + j, none⟩ = [Value.int .i64 (f i).K, .int .i64 (f i).A, .int .i64 (f i).B, .int .i64 (f i).C, .int .i64 (f i).D][j]? := by
        intro i hi j hj
        rw [← hadd]
        exact (World.cells?_some (hf i hi).2).2.2 j hj
      refine ⟨f, len, fun w1 hk => ?_⟩
      have hk1 : ∀ i, i < len → ∀ j, j < 5 → w1.cell? ⟨b, off + i * 5 + j, none⟩ = [Value.int .i64 (f i).K, .int .i64 (f i).A, .int .i64 (f i).B, .int .i64 (f i).C, .int .i64 (f i).D][j]? := by
        intro i hi j hj
        have e := hcell i hi j hj
        have hl : (⟨b, off + i * 5 + j, none⟩ : Addr).block < W.heap.size := by
          rw [List.getElem?_eq_getElem (by simpa using hj)] at e
          exact lt_of_cell e
        rw [(hk (fun _ => False)).cell hl id]
        exact e
      exact streamL_any b off len cap f w1 (by omega) (fun i hi => (hf i hi).1) (fun i hi => hk1 i hi 0 (by omega)) (fun i hi => hk1 i hi 1 (by omega)) (fun i hi => hk1 i hi 2 (by omega)) (fun i hi => hk1 i hi 3 (by omega)) (fun i hi => hk1 i hi 4 (by omega))

end Go.Proofs.YtepgoppgblfjbaaGreatDoor
