/- command.Read and braid.Check: for every string, what Check answers. -/
import Derived.Test.YtgokbjgojmlhmaaGreatDoorAll
namespace Go.Proofs.YtgokbjgojmlhmaaGreatDoor
open Go.RowKit

theorem Rd.new (s : List UInt8) (m : Int) (w : World) (hm : w.cell? ⟨0, 0, none⟩ = some (.int .i64 m)) (hs : s.length ≤ 8000) : Rd w.heap.size s false (w.alloc (.cells #[.string ⟨s.toArray⟩, .bool false] 112)) := by
  have h0 := lt_of_cell hm
  have hC := Cb.new #[.string ⟨s.toArray⟩, .bool false] 112 w
  refine ⟨hC.cell 0, hC.cell 1, hC.frozen 0, hC.frozen 1, h0, ⟨m, ?_⟩, hs⟩
  have hk := (Kx.refl (fun _ => False) w).alloc (.cells #[.string ⟨s.toArray⟩, .bool false] 112)
  rw [hk.cell (p := ⟨0, 0, none⟩) h0 id]; exact hm

theorem below_only {w w' : World} {o : Obj} (h : Kx (Only w.heap.size) (w.alloc o) w') : Below w.heap.size w w' :=
  ((Kx.refl (Only w.heap.size) w).alloc o |>.trans h).below (Nat.le_refl _) (fun k hk e => by unfold Only at e; omega)

set_option maxHeartbeats 600000 in
theorem read_any (s : List UInt8) (m : Int) (w : World) (hm : w.cell? ⟨0, 0, none⟩ = some (.int .i64 m)) (hmax : s.length ≤ maxLen) :
    Calls Tryz.prog 23 #[.string ⟨s.toArray⟩] w fun e w' => (∃ a n c, e = .returned (.tuple #[.slice a n c, .int .i64 (Pu.check s).1, .int .i64 (Pu.check s).2])) ∧ Below w.heap.size w w' := by
  unfold maxLen at hmax
  by_cases hl : 8000 < s.length
  · have HE : Hid (Pu.check s = (0, 2)) := by show _ = _; unfold Pu.check; rw [if_pos hl]
    have hl2 : (8000 : Int) < (s.length : Int) := by omega
    go_enter Tryz.func23, Tryz.ntmps23
    go_wp2
    go_ret3
    exact ⟨⟨none, 0, 0, by rw [HE.out]; rfl⟩, Below.refl _ _⟩
  · have hs : s.length ≤ 8000 := by omega
    have hl2 : ¬ (8000 : Int) < (s.length : Int) := by omega
    have HE : Hid (Pu.check s = if (Pu.readAll s).2.2 then (((Pu.readAll s).1 : Int) + 1, 1)
        else if (Pu.readAll s).2.1 != [] then (((Pu.readAll s).1 : Int) + 2, 1)
        else if 60 < (Pu.readAll s).1 then (0, 2) else ((Pu.readAll s).1, 0)) := by show _ = _; unfold Pu.check; rw [if_neg hl]
    have hr0 := Rd.new s m w hm hs
    go_enter Tryz.func23, Tryz.ntmps23
    go_wp2_with fail
    refine (readAll_any w.heap.size s _ hr0).mono ?_
    rintro e w1 ⟨⟨av, cv, rfl⟩, hr, hn, hk⟩
    generalize Pu.readAll s = R at *
    obtain ⟨n, s1, bad1⟩ := R
    have hbel := below_only hk
    obtain ⟨c0, c1, f0, f1, pos, ⟨m1, hm1⟩, short⟩ := hr
    clear hk hr0
    cases bad1
    · by_cases h0 : s1 = []
      · subst h0
        by_cases h60 : 60 < n
        · have HE2 : Hid (Pu.check s = (0, 2)) := by show _ = _; rw [HE.out]; simp [h60]
          have h61 : (60 : Int) < (n : Int) := by omega
          clear HE
          go_wp2
          go_ret3
          exact ⟨⟨none, 0, 0, by rw [HE2.out]; rfl⟩, hbel⟩
        · have HE2 : Hid (Pu.check s = ((n : Int), 0)) := by show _ = _; rw [HE.out]; simp [h60]
          have h61 : ¬ (60 : Int) < (n : Int) := by omega
          clear HE
          go_wp2
          go_ret3
          exact ⟨⟨av, n, cv, by rw [HE2.out]; rfl⟩, hbel⟩
      · have HE2 : Hid (Pu.check s = ((n : Int) + 2, 1)) := by show _ = _; rw [HE.out]; simp [h0]
        have hb : (s1 == []) = false := by simpa using h0
        have hb2 : s1.isEmpty = false := by simpa using h0
        clear HE
        go_wp2
        go_ret3
        exact ⟨⟨none, 0, 0, by rw [HE2.out]; rfl⟩, hbel⟩
    · have HE2 : Hid (Pu.check s = ((n : Int) + 1, 1)) := by show _ = _; rw [HE.out]; simp
      clear HE
      go_wp2
      go_ret3
      exact ⟨⟨none, 0, 0, by rw [HE2.out]; rfl⟩, hbel⟩

set_option maxHeartbeats 400000 in
theorem check_any (s : List UInt8) (m : Int) (w : World) (hm : w.cell? ⟨0, 0, none⟩ = some (.int .i64 m)) (hmax : s.length ≤ maxLen) :
    Calls Tryz.prog 9 #[.string ⟨s.toArray⟩] w fun e w' => e = .returned (.tuple #[.int .i64 (Pu.check s).1, .int .i64 (Pu.check s).2]) ∧ Below w.heap.size w w' := by
  go_enter Tryz.func9, Tryz.ntmps9
  go_wp2_with fail
  refine (read_any s m _ hm hmax).mono ?_
  rintro e w1 ⟨⟨a, n, c, rfl⟩, hbel⟩
  go_wp2
  go_ret2
  exact ⟨rfl, hbel⟩

end Go.Proofs.YtgokbjgojmlhmaaGreatDoor
