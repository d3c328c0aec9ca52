/-
  Proved: braidkeep.Cut answers true for every list of acts and every cut, and leaves its arguments as they were: of a stream that is one no beginning is one, and a command more is told by a number that is no less. Condition: the two tables of unicode/utf8 that the row lists start as the program's text lays them (the card ties them).
-/
import Derived.Test.YtgokbjgojmlhmaaDoorCut
import Derived.Test.YtgokbjgojmlhmaaDoorCards
import Derived.Test.YtgokbjgojmlhmaaDoorTie
import Derived.ProofKit
import Derived.OpenShut
import Derived.ChangeOld
import Derived.Deep.DeepHandedRow
import Derived.Deep.Slices
import Derived.Lib.LaidTab
namespace Go.Proofs.YtgokbjgojmlhmaaDoor
open Go.ChangeShapes Go.WideShapes Go.ChangeAt Go.RowKit Go.Deep

theorem own : ownKnob Tryd.prog.godebug = none := by kernel_rfl
theorem laidOut : laidOutB Tryd.prog = true := by kernel_rfl
theorem cells33 : Tryd.prog.cellsOf 33 = 5 := by kernel_rfl
theorem cells3 : Tryd.prog.cellsOf 3 = 1 := by kernel_rfl

theorem i64_of {n : Int} (h : (Lit.int .i64 n).wf = true) : I64 n := by
  have h1 := bounds_i64 h
  unfold I64; omega

/-- An act's cells, off its reading. -/
theorem act_of {H : Type} {enc : TypeId × Value → H} {w : World} {base : Nat} {spare : Nat → Bool} {held : Bool} {fuel : Nat} {cs : List Value} {x : DataW H × List MemPlace}
    (h : DataW.trod enc Tryd.prog w base spare held fuel 33 cs = some x) :
    ∃ a : Ac, a.ok ∧ cs = [.int .i64 a.K, .int .i64 a.A, .int .i64 a.B, .int .i64 a.C, .int .i64 a.D] := by
  obtain ⟨xs, n, _, rfl, hl, hlen, hf⟩ := DataW.trod_struct Tryd.underlying33 h
  rw [cells33] at hl
  match xs, hlen, cs, hl with
  | [y0, y1, y2, y3, y4], _, [c0, c1, c2, c3, c4], _ =>
    have f0 : DataW.trod enc Tryd.prog w base spare held n 3 (([c0, c1, c2, c3, c4].drop 0).take (Tryd.prog.cellsOf 3)) = some y0 := hf 0 _ rfl
    have f1 : DataW.trod enc Tryd.prog w base spare held n 3 (([c0, c1, c2, c3, c4].drop 1).take (Tryd.prog.cellsOf 3)) = some y1 := hf 1 _ rfl
    have f2 : DataW.trod enc Tryd.prog w base spare held n 3 (([c0, c1, c2, c3, c4].drop 2).take (Tryd.prog.cellsOf 3)) = some y2 := hf 2 _ rfl
    have f3 : DataW.trod enc Tryd.prog w base spare held n 3 (([c0, c1, c2, c3, c4].drop 3).take (Tryd.prog.cellsOf 3)) = some y3 := hf 3 _ rfl
    have f4 : DataW.trod enc Tryd.prog w base spare held n 3 (([c0, c1, c2, c3, c4].drop 4).take (Tryd.prog.cellsOf 3)) = some y4 := hf 4 _ rfl
    rw [cells3] at f0 f1 f2 f3 f4
    obtain ⟨n0, e0, _, w0⟩ := DataW.trod_int Tryd.underlying3 f0
    obtain ⟨n1, e1, _, w1⟩ := DataW.trod_int Tryd.underlying3 f1
    obtain ⟨n2, e2, _, w2⟩ := DataW.trod_int Tryd.underlying3 f2
    obtain ⟨n3, e3, _, w3⟩ := DataW.trod_int Tryd.underlying3 f3
    obtain ⟨n4, e4, _, w4⟩ := DataW.trod_int Tryd.underlying3 f4
    simp at e0 e1 e2 e3 e4
    subst e0 e1 e2 e3 e4
    exact ⟨⟨n0, n1, n2, n3, n4⟩, ⟨i64_of w0, i64_of w1, i64_of w2, i64_of w3, i64_of w4⟩, rfl⟩

/-- The walk, over whatever slice of acts came in. -/
theorem law_walk (v : Value) (f : Nat → Ac) (len : Nat) (cut m : Int) (w : World) (hm : w.cell? ⟨0, 0, none⟩ = some (.int .i64 m)) (hcut : I64 cut)
    (hstream : ∀ w1 : World, (∀ X, Kx X w w1) → Calls Tryd.prog 5 #[v] w1 fun e w' => e = .returned (.string ⟨(streamOf f len).toArray⟩) ∧ ∀ X, Kx X w1 w') :
    Calls Tryd.prog 3 #[v, .int .i64 cut] w fun e w' => e = .returned (.bool true) ∧ Below w.heap.size w w' := by
  obtain ⟨hl, hl0⟩ := streamOf_len f len
  have hr := readAll_streamOf f len
  have hc := pickN_lt cut (streamOf f len).length hl0
  obtain ⟨g0, g1, g2, g3, g4, g5⟩ := Pu.cut_main (streamOf f len) (min len 12) (pickN cut (streamOf f len).length) hr (by omega) (by omega) hc
  obtain ⟨na, hna⟩ : ∃ na, Pu.check ((streamOf f len).take (pickN cut (streamOf f len).length)) = (na, 1) := ⟨_, Prod.ext rfl g1⟩
  obtain ⟨nh, hnh⟩ : ∃ nh, Pu.check (streamOf f len ++ [120]) = (nh, 1) := ⟨_, Prod.ext rfl g5⟩
  obtain ⟨nb, ng, hnb⟩ : ∃ nb ng, Pu.check ((streamOf f len).take (pickN cut (streamOf f len).length + 1)) = (nb, ng) := ⟨_, _, rfl⟩
  rw [hna] at g2 g3 g4
  rw [hnb] at g4
  refine (cut_walk v (streamOf f len) cut m (min len 12) (pickN cut (streamOf f len).length) na nb ng nh w hm hcut hstream hl hl0 rfl hc g0 hna hnb hnh g2 g3 (by omega) g4).mono ?_
  rintro e w' ⟨rfl, hk⟩
  exact ⟨rfl, (hk (fun _ => False)).below (Nat.le_refl _) (fun _ _ => id)⟩

/-- A slice of acts that came in. -/
theorem stream_of {H : Type} {enc : TypeId × Value → H} {W : World} {spare : Nat → Bool} {held : Bool} {fuel : Nat} {v : Value} {x : DataW H × List MemPlace}
    (h : DataW.trod enc Tryd.prog W 0 spare held fuel 22 [v] = some x) :
    ∃ (f : Nat → Ac) (len : Nat), ∀ w1 : World, (∀ X, Kx X W w1) → Calls Tryd.prog 5 #[v] w1 fun e w' => e = .returned (.string ⟨(streamOf f len).toArray⟩) ∧ ∀ X, Kx X w1 w' := by
  rcases open_slice Tryd.underlying22 h with ⟨hcs, _⟩ | ⟨a, len, cap, m, n, D, Pl, hcs, _, hl, hm, hmm, _, hel⟩
  · simp at hcs
    subst hcs
    exact ⟨fun _ => ⟨0, 0, 0, 0, 0⟩, 0, fun w1 _ => streamL_none none 0 _ w1⟩
  · simp at hcs
    subst hcs
    by_cases h0 : len = 0
    · subst h0
      exact ⟨fun _ => ⟨0, 0, 0, 0, 0⟩, 0, fun w1 _ => streamL_none (some a) cap _ w1⟩
    · have hlm : len ≤ m := by rw [hmm]; split <;> omega
      rw [cells33] at hel
      have hel2 : ∀ i, i < len → ∃ c : Ac, c.ok ∧ W.cells? 0 (a.add (i * 5)) 5 = some [.int .i64 c.K, .int .i64 c.A, .int .i64 c.B, .int .i64 c.C, .int .i64 c.D] := by
        intro i hi
        obtain ⟨cs, h1, h2⟩ := hel i (by omega)
        obtain ⟨c, hc, rfl⟩ := act_of h2
        exact ⟨c, hc, h1⟩
      obtain ⟨f, hf⟩ : ∃ f : Nat → Ac, ∀ i, i < len → (f i).ok ∧ W.cells? 0 (a.add (i * 5)) 5 = some [.int .i64 (f i).K, .int .i64 (f i).A, .int .i64 (f i).B, .int .i64 (f i).C, .int .i64 (f i).D] := by
        have : Inhabited Ac := ⟨⟨0, 0, 0, 0, 0⟩⟩
        exact choose_lt hel2
      obtain ⟨b, off, spot⟩ := a
      have hspot : spot = none := by
        have hc := (World.cells?_some (hf 0 (by omega)).2).2.2 0 (by omega)
        simpa [Addr.add] using World.cell?_spot hc
      subst hspot
      have hadd : ∀ i j, ((⟨b, off, none⟩ : Addr).add (i * 5)).add j = ⟨b, off + i * 5 + j, none⟩ := by
        intro i j
        rw [add_add]
        unfold Addr.add; split <;> simp_all [Nat.add_assoc]
      have hcell : ∀ i, i < len → ∀ j, j < 5 → W.cell? ⟨b, off + i * 5 + j, none⟩ = [Value.int .i64 (f i).K, .int .i64 (f i).A, .int .i64 (f i).B, .int .i64 (f i).C, .int .i64 (f i).D][j]? := by
        intro i hi j hj
        rw [← hadd]
        exact (World.cells?_some (hf i hi).2).2.2 j hj
      refine ⟨f, len, fun w1 hk => ?_⟩
      have hk1 : ∀ i, i < len → ∀ j, j < 5 → w1.cell? ⟨b, off + i * 5 + j, none⟩ = [Value.int .i64 (f i).K, .int .i64 (f i).A, .int .i64 (f i).B, .int .i64 (f i).C, .int .i64 (f i).D][j]? := by
        intro i hi j hj
        have e := hcell i hi j hj
        have hl : (⟨b, off + i * 5 + j, none⟩ : Addr).block < W.heap.size := by
          rw [List.getElem?_eq_getElem (by simpa using hj)] at e
          exact lt_of_cell e
        rw [(hk (fun _ => False)).cell hl id]
        exact e
      exact streamL_any b off len cap f w1 (by omega) (fun i hi => (hf i hi).1) (fun i hi => hk1 i hi 0 (by omega)) (fun i hi => hk1 i hi 1 (by omega)) (fun i hi => hk1 i hi 2 (by omega)) (fun i hi => hk1 i hi 3 (by omega)) (fun i hi => hk1 i hi 4 (by omega))

theorem contract (H : Type) (enc : TypeId × Value → H) (W : World) (base : Nat) (args : Array Value) (ds gs : List (DataW H)) (before : List MemPlace)
    (hval : ∀ (j : Nat) t v, Tryd.f3.params[j]? = some t → args[j]? = some v → Value.okWide Tryd.prog W .any base t v)
    (hW : DataW.Whole enc Tryd.prog Tryd.f3.params.toList Rows.cutSpec.vars false W args.toList ds gs before) (hsh : W.ShapedOpen Tryd.prog) :
    Calls Tryd.prog 3 args W fun e W' => ∃ v, e = .returned v ∧ Rows.cutSpec.post enc Tryd.prog Tryd.f3 false true false false W args v W' := by
  have hW' := hW
  obtain ⟨p, q, hA0, hV, rfl, hfz, hnd⟩ := hW
  have hA : DataW.TrodAll enc Tryd.prog W 0 (fun _ => true) true Tryd.f3.params.toList args.toList ds p := hA0
  rw [Tryd.params3] at hA hval
  obtain ⟨v0, vs0, d0, ds0, p0, q0, hargs, rfl, rfl, h0, r0⟩ := trodAll_cons hA
  obtain ⟨v1, vs1, d1, ds1, p1, q1, rfl, rfl, rfl, h1, r1⟩ := trodAll_cons r0
  obtain ⟨rfl, rfl, rfl⟩ := trodAll_nil r1
  obtain rfl : args = #[v0, v1] := by cases args; simp_all
  obtain ⟨rfl, rfl⟩ := trodVars_none hV
  obtain ⟨a0, len0, cap0, rfl⟩ := okWide_slice Tryd.underlying22 (hval 0 22 v0 rfl rfl)
  have k0 := h0
  have lt0 : ∀ x ∈ p0, x.block < W.heap.size := by obtain ⟨m, hm⟩ := k0; exact DataW.trod_lt m _ _ _ hm
  obtain ⟨fuel, hf⟩ := h0
  obtain ⟨f, len, hst⟩ := stream_of (by simpa [Value.cells] using hf)
  obtain ⟨cut, rfl, rfl, rfl, w1⟩ := open_int Tryd.underlying3 (hval 1 3 v1 rfl rfl) h1
  obtain ⟨m, hm⟩ := Tryd.laysM145.s1_3 W hsh
  clear hA0
  refine (law_walk _ f len cut m W hm (i64_of w1) hst).mono fun e W' ⟨he, bel⟩ => ?_
  subst he
  exact ⟨_, rfl, _, _, _, [], _, [], hW', trodAll_mk1 (shut_bool Tryd.underlying4 _), (trodAll_cons_mk (Below.trod laidOut (by kernel_rfl) (of_decide_eq_true (by kernel_rfl)) k0 bel lt0) (trodAll_cons_mk (shut_int Tryd.underlying3 w1) trodAll_mk0)), rfl, bel.frame _, fun h => by cases h⟩

end Go.Proofs.YtgokbjgojmlhmaaDoor
