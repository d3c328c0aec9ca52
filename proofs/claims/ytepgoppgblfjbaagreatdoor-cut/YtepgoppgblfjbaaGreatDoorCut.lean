/- The statement itself, over every list of acts and every cut: what the call leaves. -/
import Derived.Test.YtepgoppgblfjbaaGreatDoorStream
namespace Go.Proofs.YtepgoppgblfjbaaGreatDoor
open Go.RowKit

def exampleL : List UInt8 := [98, 108, 111, 98, 10, 109, 97, 114, 107, 32, 58, 49, 10, 100, 97, 116, 97, 32, 50, 10, 104, 105, 10, 99, 111, 109, 109, 105, 116, 32, 109, 97, 105, 110, 10, 109, 97, 114, 107, 32, 58, 50, 10, 97, 117, 116, 104, 111, 114, 32, 65, 32, 66, 32, 60, 97, 64, 98, 62, 32, 55, 10, 100, 97, 116, 97, 32, 49, 10, 120, 10, 77, 32, 49, 48, 48, 54, 52, 52, 32, 58, 49, 32, 100, 47, 102, 10, 10, 100, 111, 110, 101, 10]
theorem example_check : Pu.check exampleL = (2, 0) := by kernel_rfl
theorem done_check : Pu.check [100, 111, 110, 101, 10] = (0, 0) := by kernel_rfl
theorem zero_check : Pu.check [98, 108, 111, 98, 10, 109, 97, 114, 107, 32, 58, 48, 10] = (1, 1) := by kernel_rfl

set_option maxHeartbeats 400000 in
theorem example_any (w : World) : Calls Tryz.prog 47 #[] w fun e w' => e = .returned (.string ⟨exampleL.toArray⟩) ∧ w' = w := by
  go_enter Tryz.func47, Tryz.ntmps47
  go_wp2
  go_ret
  exact ⟨congrArg (fun l : List UInt8 => Ending.returned (.string ⟨l.toArray⟩)) (by decide +kernel), rfl⟩

/-- The variable that the library's search reads, and that there are all of them. -/
def Mx (m : Int) (w : World) : Prop := 6 < w.heap.size ∧ w.cell? ⟨1, 0, none⟩ = some (.int .i64 m)

theorem max_kept {w w' : World} {m : Int} (hm : Mx m w) (hk : ∀ X, Kx X w w') : Mx m w' := by
  refine ⟨Nat.lt_of_lt_of_le hm.1 (hk (fun _ => False)).size, ?_⟩
  rw [(hk (fun _ => False)).cell (p := ⟨1, 0, none⟩) (lt_of_cell hm.2) id]; exact hm.2

theorem check_kx (s : List UInt8) (m : Int) (w : World) (hm : Mx m w) (hmax : s.length ≤ maxLen) (n e : Int) (h : Pu.check s = (n, e)) :
    Calls Tryz.prog 18 #[.string ⟨s.toArray⟩] w fun x w' => x = .returned (.tuple #[.int .i64 n, .int .i64 e]) ∧ ∀ X, Kx X w w' := by
  refine (check_any s m w hm.1 hm.2 hmax).mono ?_
  rintro x w' ⟨rfl, hb⟩
  rw [h]
  exact ⟨rfl, fun X => hb.mono (fun _ _ e => e.elim)⟩

set_option maxHeartbeats 400000 in
theorem checked_any (m : Int) (w : World) (hm : Mx m w) :
    Calls Tryz.prog 16 #[] w fun e w' => e = .returned (.bool true) ∧ ∀ X, Kx X w w' := by
  go_enter Tryz.func16, Tryz.ntmps16
  go_wp2_with fail
  refine (example_any _).mono ?_
  rintro e w1 ⟨rfl, rfl⟩
  go_wp2_with fail
  refine (check_kx exampleL m _ hm (by decide) 2 0 example_check).mono ?_
  rintro e w2 ⟨rfl, hk2⟩
  have hm2 := max_kept hm hk2
  go_wp2_with fail
  refine (check_kx [100, 111, 110, 101, 10] m _ hm2 (by decide) 0 0 done_check).mono ?_
  rintro e w3 ⟨rfl, hk3⟩
  have hm3 := max_kept hm2 hk3
  go_wp2_with fail
  refine (check_kx [98, 108, 111, 98, 10, 109, 97, 114, 107, 32, 58, 48, 10] m _ hm3 (by decide) 1 1 zero_check).mono ?_
  rintro e w4 ⟨rfl, hk4⟩
  go_wp2
  go_ret
  exact ⟨rfl, fun X => ((hk2 X).trans (hk3 X)).trans (hk4 X)⟩

set_option maxHeartbeats 1000000 in
set_option maxRecDepth 100000 in
/-- What follows the stream. -/
theorem cut_walk (v : Value) (S : List UInt8) (cut : Int) (m : Int) (N c : Nat) (na nb ng nh : Int) (w : World) (hm : Mx m w) (hcut : I64 cut)
    (hstream : ∀ w1 : World, (∀ X, Kx X w w1) → Calls Tryz.prog 17 #[v] w1 fun e w' => e = .returned (.string ⟨S.toArray⟩) ∧ ∀ X, Kx X w1 w')
    (hS : S.length ≤ 2405) (hS0 : 0 < S.length) (Hc : Hid (pickN cut S.length = c)) (hc : c < S.length)
    (H0 : Hid (Pu.check S = ((N : Int), 0))) (H1 : Hid (Pu.check (S.take c) = (na, 1))) (H2 : Hid (Pu.check (S.take (c + 1)) = (nb, ng))) (H3 : Hid (Pu.check (S ++ [120]) = (nh, 1)))
    (h1 : 1 ≤ na) (h2 : na ≤ (N : Int) + 1) (hN : N ≤ 60) (hg : ng = 0 ∨ (ng = 1 ∧ na ≤ nb)) :
    Calls Tryz.prog 4 #[v, .int .i64 cut] w fun e w' => e = .returned (.bool true) ∧ ∀ X, Kx X w w' := by
  obtain ⟨hc1, hc2⟩ := hcut
  have happ := app_str
  have hext := ext_take S
  go_enter Tryz.func4, Tryz.ntmps4
  go_wp2_with fail
  refine (checked_any m _ hm).mono ?_
  rintro e w1 ⟨rfl, k1⟩
  have m1 := max_kept hm k1
  go_wp2_with fail
  refine (hstream _ k1).mono ?_
  rintro e w2 ⟨rfl, k2⟩
  have m2 := max_kept m1 k2
  go_wp2_with fail
  refine (check_kx S m _ m2 (by unfold maxLen; omega) _ _ H0.out).mono ?_
  rintro e w3 ⟨rfl, k3⟩
  have m3 := max_kept m2 k3
  go_wp2_with fail
  refine (pick_any cut S.length _ hS0 (by omega) hc1 hc2).mono ?_
  rintro e w4 ⟨rfl, rfl⟩
  rw [Hc.out]
  go_wp2_with fail
  refine (check_kx (S.take c) m _ m3 (by unfold maxLen; simp; omega) _ _ H1.out).mono ?_
  rintro e w5 ⟨rfl, k5⟩
  have m5 := max_kept m3 k5
  go_wp2_with fail
  refine (check_kx (S.take (c + 1)) m _ m5 (by unfold maxLen; simp; omega) _ _ H2.out).mono ?_
  rintro e w6 ⟨rfl, k6⟩
  have m6 := max_kept m5 k6
  go_wp2_with fail
  refine (check_kx (S ++ [120]) m _ m6 (by unfold maxLen; simp; omega) _ _ H3.out).mono ?_
  rintro e w7 ⟨rfl, k7⟩
  have kk : ∀ X, Kx X w w7 := fun X => (((((k1 X).trans (k2 X)).trans (k3 X)).trans (k5 X)).trans (k6 X)).trans (k7 X)
  rcases hg with rfl | ⟨rfl, hab⟩
  · go_wp2
    go_ret
    exact ⟨rfl, kk⟩
  · go_wp2
    go_ret
    exact ⟨rfl, kk⟩

end Go.Proofs.YtepgoppgblfjbaaGreatDoor
