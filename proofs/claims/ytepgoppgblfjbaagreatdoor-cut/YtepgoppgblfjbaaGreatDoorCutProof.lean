/- The walk of Cut and its contract. -/
import Derived.Test.YtepgoppgblfjbaaGreatDoorShape
import Derived.Test.YtepgoppgblfjbaaGreatDoorActs
namespace Go.Proofs.YtepgoppgblfjbaaGreatDoor
open Go.ChangeShapes Go.WideShapes Go.ChangeAt Go.RowKit Go.Deep

/-- The walk, over whatever slice of acts came in. -/
theorem cut_law (v : Value) (f : Nat → Ac) (len : Nat) (cut m : Int) (w : World) (hm : Mx m w) (hcut : I64 cut)
    (hstream : ∀ w1 : World, (∀ X, Kx X w w1) → Calls Tryz.prog 17 #[v] w1 fun e w' => e = .returned (.string ⟨(streamOf f len).toArray⟩) ∧ ∀ X, Kx X w1 w') :
    Calls Tryz.prog 4 #[v, .int .i64 cut] w fun e w' => e = .returned (.bool true) ∧ Below w.heap.size w w' := by
  obtain ⟨hl, hl0⟩ := streamOf_len f len
  have hr := readAll_streamOf f len
  have hc := pickN_lt cut (streamOf f len).length hl0
  obtain ⟨g0, g1, g2, g3, g4, g5⟩ := Pu.cut_main (streamOf f len) (min len 12) (pickN cut (streamOf f len).length) hr (by omega) (by omega) hc
  obtain ⟨na, hna⟩ : ∃ na, Pu.check ((streamOf f len).take (pickN cut (streamOf f len).length)) = (na, 1) := ⟨_, Prod.ext rfl g1⟩
  obtain ⟨nh, hnh⟩ : ∃ nh, Pu.check (streamOf f len ++ [120]) = (nh, 1) := ⟨_, Prod.ext rfl g5⟩
  obtain ⟨nb, ng, hnb⟩ : ∃ nb ng, Pu.check ((streamOf f len).take (pickN cut (streamOf f len).length + 1)) = (nb, ng) := ⟨_, _, rfl⟩
  rw [hna] at g2 g3 g4
  rw [hnb] at g4
  refine (cut_walk v (streamOf f len) cut m (min len 12) (pickN cut (streamOf f len).length) na nb ng nh w hm hcut hstream hl hl0 rfl hc g0 hna hnb hnh g2 g3 (by omega) g4).mono ?_
  rintro e w' ⟨rfl, hk⟩
  exact ⟨rfl, (hk (fun _ => False)).below (Nat.le_refl _) (fun _ _ => id)⟩

set_option maxRecDepth 100000 in
theorem cut_contract (H : Type) (enc : TypeId × Value → H) (W : World) (base : Nat) (args : Array Value) (ds gs : List (DataW H)) (before : List MemPlace)
    (hval : ∀ (j : Nat) t v, Tryz.f4.params[j]? = some t → args[j]? = some v → Value.okWide Tryz.prog W .any base t v)
    (hW : DataW.Whole enc Tryz.prog Tryz.f4.params.toList Rows.cutSpec.vars false W args.toList ds gs before) (_hweigh : (DataW.weightsEach Tryz.prog (Tryz.f4.params.toList ++ (OpenSpec.ofChange Rows.cutSpec).bare.plain.varTypes Tryz.prog) (ds ++ gs)).all (· ≤ reachBytes) = true) (_hlaid : laidMetH Tryz.prog Rows.cutRow.laid W) (hsh : W.ShapedOpen Tryz.prog) :
    Calls Tryz.prog 4 args W fun e W' => ∃ v, e = .returned v ∧ Rows.cutSpec.post enc Tryz.prog Tryz.f4 false true false false W args v W' := by
  have hW' := hW
  obtain ⟨p, q, hA0, hV, rfl, hfz, hnd⟩ := hW
  have hA : DataW.TrodAll enc Tryz.prog W 0 (fun _ => true) true Tryz.f4.params.toList args.toList ds p := hA0
  rw [Tryz.params4] at hA hval
  obtain ⟨v0, vs0, d0, ds0, p0, q0, hargs, rfl, rfl, h0, r0⟩ := trodAll_cons hA
  obtain ⟨v1, vs1, d1, ds1, p1, q1, rfl, rfl, rfl, h1, r1⟩ := trodAll_cons r0
  obtain ⟨rfl, rfl, rfl⟩ := trodAll_nil r1
  obtain rfl : args = #[v0, v1] := by cases args; simp_all
  obtain ⟨rfl, rfl⟩ := trodVars_none hV
  obtain ⟨a0, len0, cap0, rfl⟩ := okWide_slice Tryz.underlying25 (hval 0 25 v0 rfl rfl)
  have k0 := h0
  have lt0 : ∀ x ∈ p0, x.block < W.heap.size := by obtain ⟨m, hm⟩ := k0; exact DataW.trod_lt m _ _ _ hm
  obtain ⟨fuel, hf⟩ := h0
  obtain ⟨f, len, hst⟩ := stream_of (by simpa [Value.cells] using hf)
  obtain ⟨cut, rfl, rfl, rfl, w1⟩ := open_int Tryz.underlying3 (hval 1 3 v1 rfl rfl) h1
  obtain ⟨m, hm⟩ := mx_of hsh
  clear hA0
  refine (cut_law _ f len cut m W hm (i64_of w1) hst).mono fun e W' ⟨he, bel⟩ => ?_
  subst he
  exact ⟨_, rfl, _, _, _, [], _, [], hW', trodAll_mk1 (shut_bool Tryz.underlying4 _), (trodAll_cons_mk (Below.trod laidOut (by kernel_rfl) (of_decide_eq_true (by kernel_rfl)) k0 bel lt0) (trodAll_cons_mk (shut_int Tryz.underlying3 w1) trodAll_mk0)), rfl, bel.frame _, fun h => by cases h⟩

end Go.Proofs.YtepgoppgblfjbaaGreatDoor
