/- The law's own functions: num, example, first, looks, step. -/
import Derived.Test.YtepgoppgblfjbaaGreatDoorRefParse
import Derived.Test.YtepgoppgblfjbaaGreatDoorCheck
import Derived.Laws.OwnMore
namespace Go.Proofs.YtepgoppgblfjbaaGreatDoor
open Go.RowKit
namespace Rf

set_option maxHeartbeats 400000 in
theorem num_any (n : Int) (w : World) : Calls Tryz.prog 65 #[.int .i64 n] w fun e w' => e = .returned (.int .i64 n) ∧ w' = w := by
  go_enter Tryz.func65, Tryz.ntmps65
  go_wp2
  go_ret
  exact ⟨rfl, rfl⟩

set_option maxHeartbeats 400000 in
theorem example_any (w : World) : Calls Tryz.prog 63 #[] w fun e w' => (∃ x : List UInt8, x.length ≤ 8000 ∧ e = .returned (.string ⟨x.toArray⟩)) ∧ w' = w := by
  go_enter Tryz.func63, Tryz.ntmps63
  go_wp2
  go_ret
  exact ⟨⟨_, by decide, rfl⟩, rfl⟩

/-- Place i of a row of steps holds one. -/
def OpAt (xs : List Value) (i : Nat) : Prop := ∃ (k p n : Int) (S : List UInt8) (ra : Option Addr) (rn rc : Nat),
  xs[i * 5]? = some (.int .i64 k) ∧ xs[i * 5 + 1]? = some (.int .i64 p) ∧ xs[i * 5 + 2]? = some (.int .i64 n) ∧ xs[i * 5 + 3]? = some (.string ⟨S.toArray⟩) ∧ xs[i * 5 + 4]? = some (.slice ra rn rc) ∧ S.length ≤ maxLen

theorem OpAt.left {xs ys : List Value} {i : Nat} (h : OpAt xs i) : OpAt (xs ++ ys) i := by
  obtain ⟨k, p, n, S, ra, rn, rc, h0, h1, h2, h3, h4, hl⟩ := h
  have f : ∀ {j : Nat} {u : Value}, xs[j]? = some u → (xs ++ ys)[j]? = some u := by
    intro j u hj
    rw [List.getElem?_append_left (List.getElem?_eq_some_iff.1 hj).1]; exact hj
  exact ⟨k, p, n, S, ra, rn, rc, f h0, f h1, f h2, f h3, f h4, hl⟩

theorem OpAt.right {xs ys : List Value} {i m : Nat} (h : OpAt ys i) (hx : xs.length = m * 5) : OpAt (xs ++ ys) (m + i) := by
  obtain ⟨k, p, n, S, ra, rn, rc, h0, h1, h2, h3, h4, hl⟩ := h
  have f : ∀ {j o : Nat} {u : Value}, ys[i * 5 + o]? = some u → j = (m + i) * 5 + o → (xs ++ ys)[j]? = some u := by
    intro j o u hj e
    subst e
    rw [List.getElem?_append_right (by omega)]
    have : (m + i) * 5 + o - xs.length = i * 5 + o := by omega
    rw [this]; exact hj
  exact ⟨k, p, n, S, ra, rn, rc, f (o := 0) h0 rfl, f h1 rfl, f h2 rfl, f h3 rfl, f h4 rfl, hl⟩

set_option maxHeartbeats 1000000 in
theorem first_any (w : World) : Calls Tryz.prog 44 #[] w fun e w' => ∃ xs, e = .returned (.slice (some ⟨w.heap.size, 0, none⟩) 8 8) ∧ w'.ownsRow w.heap.size 86 5 (.slice (some ⟨w.heap.size, 0, none⟩) 8 8) 8 xs ∧ (∀ i, i < 8 → OpAt xs i) ∧ ∀ X, Kx X w w' := by
  go_enter Tryz.func44, Tryz.ntmps44
  go_wp2_with fail
  refine (example_any _).mono ?_
  rintro e w1 ⟨⟨x, hx, rfl⟩, rfl⟩
  go_wp2_with fail
  refine (example_any _).mono ?_
  rintro e w1 ⟨⟨y, hy, rfl⟩, rfl⟩
  go_wp2
  go_ret
  refine ⟨_, rfl, World.ownsRow_lit _ _ 8 (Nat.le_refl _) (by decide) rfl, ?_, fun X => (Kx.refl X _).alloc _⟩
  intro i hi
  have hx2 : x.length ≤ maxLen := by unfold maxLen; omega
  have hy2 : y.length ≤ maxLen := by unfold maxLen; omega
  have hz2 : ([] : List UInt8).length ≤ maxLen := by decide
  have : i = 0 ∨ i = 1 ∨ i = 2 ∨ i = 3 ∨ i = 4 ∨ i = 5 ∨ i = 6 ∨ i = 7 := by omega
  rcases this with rfl | rfl | rfl | rfl | rfl | rfl | rfl | rfl
  · exact ⟨_, _, _, x, _, _, _, rfl, rfl, rfl, rfl, rfl, hx2⟩
  · exact ⟨_, _, _, [], _, _, _, rfl, rfl, rfl, rfl, rfl, hz2⟩
  · exact ⟨_, _, _, y, _, _, _, rfl, rfl, rfl, rfl, rfl, hy2⟩
  · exact ⟨_, _, _, [], _, _, _, rfl, rfl, rfl, rfl, rfl, hz2⟩
  · exact ⟨_, _, _, [], _, _, _, rfl, rfl, rfl, rfl, rfl, hz2⟩
  · exact ⟨_, _, _, [], _, _, _, rfl, rfl, rfl, rfl, rfl, hz2⟩
  · exact ⟨_, _, _, [], _, _, _, rfl, rfl, rfl, rfl, rfl, hz2⟩
  · exact ⟨_, _, _, [], _, _, _, rfl, rfl, rfl, rfl, rfl, hz2⟩

set_option maxHeartbeats 1000000 in
set_option maxRecDepth 100000 in
theorem looks_any (b : Nat) (w : World) (h0 : w.cell? ⟨b, 0, none⟩ = some (.slice none 0 0)) (h1 : w.cell? ⟨b, 1, none⟩ = some (.slice none 0 0)) (h2 : w.cell? ⟨b, 2, none⟩ = some (.slice none 0 0)) (h6 : w.cell? ⟨b, 6, none⟩ = some (.slice none 0 0)) (h7 : w.cell? ⟨b, 7, none⟩ = some (.slice none 0 0)) :
    Calls Tryz.prog 46 #[.pointer (some ⟨b, 0, none⟩)] w fun e w' => e = .returned (.bool true) ∧ w' = w := by
  go_enter Tryz.func46, Tryz.ntmps46
  go_wp2
  go_loop [3] (fun v => v = .int .i64 0) (fun _ => 0)
  case atStart => rfl
  case round =>
    subst hrel
    go_wp2
    go_loop [5] (fun v => v = .int .i64 0) (fun _ => 0)
    case atStart => rfl
    case round =>
      subst hrel
      go_wp2
      go_loop [8] (fun v => v = .int .i64 0) (fun _ => 0)
      case atStart => rfl
      case round =>
        subst hrel
        go_wp2
        go_loop [11] (fun v => v = .int .i64 0) (fun _ => 0)
        case atStart => rfl
        case round =>
          subst hrel
          go_wp2
          go_loop [13] (fun v => v = .int .i64 0) (fun _ => 0)
          case atStart => rfl
          case round =>
            subst hrel
            go_wp2
            go_ret
            exact ⟨rfl, rfl⟩

set_option maxHeartbeats 1000000 in
set_option maxRecDepth 100000 in
theorem step_any (b : Nat) (k p n : Int) (S : List UInt8) (ra : Option Addr) (rn rc : Nat) (m : Int) (w : World) (hk : k ≤ 1) (hS : S.length ≤ maxLen) (h1 : w.cell? ⟨b, 1, none⟩ = some (.slice none 0 0)) (hm : Mx m w) :
    Calls Tryz.prog 45 #[.pointer (some ⟨b, 0, none⟩), .agg #[.int .i64 k, .int .i64 p, .int .i64 n, .string ⟨S.toArray⟩, .slice ra rn rc]] w fun e w' => e = .returned (.bool true) ∧ ∀ X, Kx X w w' := by
  have hl1 := lt_of_cell h1
  have hA : ∀ X, Kx X w (w.alloc (.cells #[.int .i64 k, .int .i64 p, .int .i64 n, .string ⟨S.toArray⟩, .slice ra rn rc] 86)) := fun X => (Kx.refl X w).alloc _
  have hm1 := max_kept hm hA
  have hC := Cb.new #[.int .i64 k, .int .i64 p, .int .i64 n, .string ⟨S.toArray⟩, .slice ra rn rc] 86 w
  by_cases e1 : k = 1
  · subst e1
    have c3 := hC.cell 3
    have c0 := hC.cell 0
    go_enter Tryz.func45, Tryz.ntmps45
    go_wp2_with fail
    refine (check_any S m _ hm1.1 hm1.2 hS).mono ?_
    rintro e w1 ⟨rfl, hb1⟩
    have hk1 : ∀ X, Kx X _ w1 := fun X => hb1.mono (fun _ _ e => e.elim)
    have hC1 := hC.kept (hk1 (fun _ => False)) id
    have c31 := hC1.cell 3
    go_wp2_with fail
    refine (refCheck_any S _ hS).mono ?_
    rintro e w2 ⟨rfl, hb2⟩
    have hk2 := fun X => Kx.of_below (X := X) hb2
    generalize Pu.check S = R at *
    obtain ⟨r1, r2⟩ := R
    clear hC hC1 c3 c0 c31 hb1 hb2 hm1
    have q1 : (r1 == r1) = true := by simp
    have q2 : (r2 == r2) = true := by simp
    go_wp2_with fail
    refine (num_any r2 _).mono ?_
    rintro e w3 ⟨rfl, rfl⟩
    go_wp2_with fail
    refine (num_any r2 _).mono ?_
    rintro e w3 ⟨rfl, rfl⟩
    go_wp2
    go_ret
    exact ⟨by first | rfl | (simp), fun X => ((hA X).trans (hk1 X)).trans (hk2 X)⟩
  · have b1 : (k == 1) = false := beq_eq_false_iff_ne.2 e1
    have b2 : (k == 2) = false := beq_eq_false_iff_ne.2 (by omega)
    have b11 : (k == 11) = false := beq_eq_false_iff_ne.2 (by omega)
    go_enter Tryz.func45, Tryz.ntmps45
    go_wp2
    go_ret
    exact ⟨rfl, hA⟩

end Rf
end Go.Proofs.YtepgoppgblfjbaaGreatDoor
