/- Streams: what comes in, and the contract. -/
import Derived.Test.YtepgoppgblfjbaaGreatDoorPlayed
import Derived.Test.YtepgoppgblfjbaaGreatDoorShape
import Derived.Test.YtepgoppgblfjbaaGreatDoorStart
import Derived.OpenShut
import Derived.ChangeOld
import Derived.Deep.Slices
import Derived.Lib.LaidTab
namespace Go.Proofs.YtepgoppgblfjbaaGreatDoor
open Go.ChangeShapes Go.WideShapes Go.ChangeAt Go.RowKit Go.Deep

theorem cells41 : Tryz.prog.cellsOf 86 = 5 := by kernel_rfl
theorem cells3s : Tryz.prog.cellsOf 3 = 1 := by kernel_rfl
theorem cells9 : Tryz.prog.cellsOf 9 = 1 := by kernel_rfl
theorem cells39 : Tryz.prog.cellsOf 84 = 1 := by kernel_rfl
theorem bytes41 : Tryz.prog.bytesOf 86 = 64 := by kernel_rfl

/-- A step, as plain data. -/
structure Op5 where
  k : Int
  p : Int
  n : Int
  S : List UInt8
  ra : Option Addr
  rn : Nat
  rc : Nat

def Op5.cells (c : Op5) : List Value := [.int .i64 c.k, .int .i64 c.p, .int .i64 c.n, .string ⟨c.S.toArray⟩, .slice c.ra c.rn c.rc]

set_option maxRecDepth 100000 in
/-- A step's cells, off its reading. -/
theorem op_of {H : Type} {enc : TypeId × Value → H} {w : World} {base : Nat} {spare : Nat → Bool} {held : Bool} {fuel : Nat} {cs : List Value} {x : DataW H × List MemPlace}
    (h : DataW.trod enc Tryz.prog w base spare held fuel 86 cs = some x) :
    ∃ c : Op5, c.S.length ≤ maxLen ∧ cs = c.cells := by
  obtain ⟨xs, n, _, rfl, hl, hlen, hf⟩ := DataW.trod_struct Tryz.underlying86 h
  rw [cells41] at hl
  match xs, hlen, cs, hl with
  | [y0, y1, y2, y3, y4], _, [c0, c1, c2, c3, c4], _ =>
    have f0 : DataW.trod enc Tryz.prog w base spare held n 3 (([c0, c1, c2, c3, c4].drop 0).take (Tryz.prog.cellsOf 3)) = some y0 := hf 0 _ rfl
    have f1 : DataW.trod enc Tryz.prog w base spare held n 3 (([c0, c1, c2, c3, c4].drop 1).take (Tryz.prog.cellsOf 3)) = some y1 := hf 1 _ rfl
    have f2 : DataW.trod enc Tryz.prog w base spare held n 3 (([c0, c1, c2, c3, c4].drop 2).take (Tryz.prog.cellsOf 3)) = some y2 := hf 2 _ rfl
    have f3 : DataW.trod enc Tryz.prog w base spare held n 9 (([c0, c1, c2, c3, c4].drop 3).take (Tryz.prog.cellsOf 9)) = some y3 := hf 3 _ rfl
    have f4 : DataW.trod enc Tryz.prog w base spare held n 84 (([c0, c1, c2, c3, c4].drop 4).take (Tryz.prog.cellsOf 84)) = some y4 := hf 4 _ rfl
    rw [cells3s] at f0 f1 f2
    rw [cells9] at f3
    rw [cells39] at f4
    obtain ⟨n0, e0, _, _⟩ := DataW.trod_int Tryz.underlying3 f0
    obtain ⟨n1, e1, _, _⟩ := DataW.trod_int Tryz.underlying3 f1
    obtain ⟨n2, e2, _, _⟩ := DataW.trod_int Tryz.underlying3 f2
    obtain ⟨S, e3, _, hS⟩ := DataW.trod_string Tryz.underlying9 f3
    obtain ⟨ra, rn, rc, e4⟩ : ∃ ra rn rc, [c4] = [Value.slice ra rn rc] := by
      rcases open_slice Tryz.underlying84 f4 with ⟨hcs, _⟩ | ⟨a, len, cap, m, n, D, Pl, hcs, _⟩
      · exact ⟨_, _, _, hcs⟩
      · exact ⟨_, _, _, hcs⟩
    simp at e0 e1 e2 e3 e4
    subst e0 e1 e2 e3 e4
    refine ⟨⟨n0, n1, n2, S.data.toList, ra, rn, rc⟩, ?_, rfl⟩
    show S.data.toList.length ≤ maxLen
    rw [Array.length_toList]; exact hS

/-- A row of steps, flat. -/
def flat (f : Nat → Op5) : Nat → List Value
  | 0 => []
  | n + 1 => flat f n ++ (f n).cells

theorem flat_len5 (f : Nat → Op5) : ∀ n, (flat f n).length = n * 5
  | 0 => rfl
  | n + 1 => by unfold flat; rw [List.length_append, flat_len5 f n]; show n * 5 + 5 = _; omega

theorem flat_at5 (f : Nat → Op5) : ∀ n i o, i < n → o < 5 → (flat f n)[i * 5 + o]? = (f i).cells[o]?
  | 0, _, _, h, _ => by omega
  | n + 1, i, o, h, ho => by
    unfold flat
    by_cases e : i < n
    · rw [List.getElem?_append_left (by rw [flat_len5]; omega)]
      exact flat_at5 f n i o e ho
    · have : i = n := by omega
      subst this
      rw [List.getElem?_append_right (by rw [flat_len5]; omega), flat_len5]
      congr 1; omega

theorem flat_inv (f : Nat → Op5) (n j : Nat) (u : Value) (h : (flat f n)[j]? = some u) : ∃ i o, i < n ∧ o < 5 ∧ j = i * 5 + o ∧ (f i).cells[o]? = some u := by
  have hj := (List.getElem?_eq_some_iff.1 h).1
  rw [flat_len5] at hj
  refine ⟨j / 5, j % 5, by omega, by omega, by omega, ?_⟩
  rw [← flat_at5 f n (j / 5) (j % 5) (by omega) (by omega)]
  have : j / 5 * 5 + j % 5 = j := by omega
  rw [this]; exact h

theorem cells_one (c : Op5) (u : Value) (h : u ∈ c.cells) : u.oneCell' = true := by
  unfold Op5.cells at h
  simp at h
  rcases h with rfl | rfl | rfl | rfl | rfl <;> rfl

set_option maxRecDepth 100000 in
/-- A slice of steps that came in. -/
theorem script_of {H : Type} {enc : TypeId × Value → H} {W : World} {spare : Nat → Bool} {held : Bool} {fuel : Nat} {v : Value} {x : DataW H × List MemPlace}
    (h : DataW.trod enc Tryz.prog W 0 spare held fuel 22 [v] = some x) (hw : (DataW.weights Tryz.prog 22 x.1).all (· ≤ reachBytes) = true) : Rf.Script v W := by
  rcases open_slice Tryz.underlying22 h with ⟨hcs, _⟩ | ⟨a, len, cap, m, n, D, Pl, hcs, _, hl, hm, hmm, rfl, hel⟩
  · simp at hcs
    exact Or.inl hcs
  · simp at hcs
    subst hcs
    have hlm : len ≤ m := by rw [hmm]; split <;> omega
    rw [cells41] at hel
    have hel2 : ∀ i, i < len → ∃ c : Op5, c.S.length ≤ maxLen ∧ W.cells? 0 (a.add (i * 5)) 5 = some c.cells := by
      intro i hi
      obtain ⟨cs, h1, h2⟩ := hel i (by omega)
      obtain ⟨c, hc, rfl⟩ := op_of h2
      exact ⟨c, hc, h1⟩
    obtain ⟨f, hf⟩ : ∃ f : Nat → Op5, ∀ i, i < len → (f i).S.length ≤ maxLen ∧ W.cells? 0 (a.add (i * 5)) 5 = some (f i).cells := by
      have : Inhabited Op5 := ⟨⟨0, 0, 0, [], none, 0, 0⟩⟩
      exact choose_lt hel2
    refine Or.inr ⟨a, len, cap, flat f len, rfl, flat_len5 f len, ?_, ?_, ?_, ?_⟩
    · intro j u hu
      obtain ⟨i, o, hi, ho, rfl, hc⟩ := flat_inv f len j u hu
      have := (World.cells?_some (hf i hi).2).2.2 o ho
      rw [add_add] at this
      rw [this]; exact hc
    · intro u hu
      obtain ⟨j, hj⟩ := List.getElem?_of_mem hu
      obtain ⟨i, o, _, _, _, hc⟩ := flat_inv f len j u hj
      exact cells_one (f i) u (List.mem_of_getElem? hc)
    · intro i hi
      refine ⟨(f i).k, (f i).p, (f i).n, (f i).S, (f i).ra, (f i).rn, (f i).rc, ?_, ?_, ?_, ?_, ?_, (hf i hi).1⟩
      · exact flat_at5 f len i 0 hi (by omega)
      · exact flat_at5 f len i 1 hi (by omega)
      · exact flat_at5 f len i 2 hi (by omega)
      · exact flat_at5 f len i 3 hi (by omega)
      · exact flat_at5 f len i 4 hi (by omega)
    · unfold DataW.weights at hw
      rw [Tryz.underlying22] at hw
      simp only [List.all_cons, Bool.and_eq_true, decide_eq_true_eq, List.length_map, List.length_range, bytes41] at hw
      have := hw.1
      omega

set_option maxRecDepth 100000 in
theorem streams_contract (H : Type) (enc : TypeId × Value → H) (W : World) (base : Nat) (args : Array Value) (ds gs : List (DataW H)) (before : List MemPlace)
    (hval : ∀ (j : Nat) t v, Tryz.f3.params[j]? = some t → args[j]? = some v → Value.okWide Tryz.prog W .any base t v)
    (hW : DataW.Whole enc Tryz.prog Tryz.f3.params.toList Rows.streamsSpec.vars false W args.toList ds gs before)
    (hsz : (DataW.weightsEach Tryz.prog (Tryz.f3.params.toList ++ (OpenSpec.ofChange Rows.streamsSpec).bare.plain.varTypes Tryz.prog) (ds ++ gs)).all (· ≤ reachBytes) = true) (_hlaid : laidMetH Tryz.prog Rows.streamsRow.laid W) (hsh : W.ShapedOpen Tryz.prog) :
    Calls Tryz.prog 3 args W fun e W' => ∃ v, e = .returned v ∧ Rows.streamsSpec.post enc Tryz.prog Tryz.f3 false true false false W args v W' := by
  have hW' := hW
  obtain ⟨p, q, hA0, hV, rfl, hfz, hnd⟩ := hW
  have hA : DataW.TrodAll enc Tryz.prog W 0 (fun _ => true) true Tryz.f3.params.toList args.toList ds p := hA0
  rw [Tryz.params3] at hA hval hsz
  obtain ⟨v0, vs0, d0, ds0, p0, q0, hargs, rfl, rfl, h0, r0⟩ := trodAll_cons hA
  obtain ⟨rfl, rfl, rfl⟩ := trodAll_nil r0
  obtain rfl : args = #[v0] := by cases args; simp_all
  obtain ⟨rfl, rfl⟩ := trodVars_none hV
  obtain ⟨a0, len0, cap0, rfl⟩ := okWide_slice Tryz.underlying22 (hval 0 22 v0 rfl rfl)
  have k0 := h0
  have lt0 : ∀ x ∈ p0, x.block < W.heap.size := by obtain ⟨m, hm⟩ := k0; exact DataW.trod_lt m _ _ _ hm
  obtain ⟨fuel, hf⟩ := h0
  have hw0 : (DataW.weights Tryz.prog 22 d0).all (· ≤ reachBytes) = true := by
    have hsz' : (DataW.weights Tryz.prog 22 d0 ++ DataW.weightsEach Tryz.prog ((OpenSpec.ofChange Rows.streamsSpec).bare.plain.varTypes Tryz.prog) ([] : List (DataW H))).all (· ≤ reachBytes) = true := hsz
    rw [List.all_append, Bool.and_eq_true] at hsz'
    exact hsz'.1
  have hst := script_of (by simpa [Value.cells] using hf) hw0
  obtain ⟨m, hm⟩ := mx_of hsh
  clear hA0
  refine (Rf.streams_any _ m W hm hst).mono fun e W' ⟨he, hk⟩ => ?_
  subst he
  have bel : Below W.heap.size W W' := (hk (fun _ => False)).below (Nat.le_refl _) (fun _ _ => id)
  exact ⟨_, rfl, _, _, _, [], _, [], hW', trodAll_mk1 (shut_bool Tryz.underlying4 _), (trodAll_cons_mk (Below.trod laidOut (by kernel_rfl) (of_decide_eq_true (by kernel_rfl)) k0 bel lt0) trodAll_mk0), rfl, bel.frame _, fun h => by cases h⟩

end Go.Proofs.YtepgoppgblfjbaaGreatDoor
