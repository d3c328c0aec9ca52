/- command.Read and braid.Check: for every string, what they answer. -/
import Derived.Test.YtepgoppgblfjbaaGreatDoorAll
namespace Go.Proofs.YtepgoppgblfjbaaGreatDoor
open Go.RowKit

theorem Rd.new (s : List UInt8) (m : Int) (w : World) (hz : 6 < w.heap.size) (hm : w.cell? ⟨1, 0, none⟩ = some (.int .i64 m)) (hs : s.length ≤ 8000) : Rd w.heap.size s false (w.alloc (.cells #[.string ⟨s.toArray⟩, .bool false] 144)) := by
  have h0 := lt_of_cell hm
  have hC := Cb.new #[.string ⟨s.toArray⟩, .bool false] 144 w
  refine ⟨hC.cell 0, hC.cell 1, hC.frozen 0, hC.frozen 1, hz, ⟨m, ?_⟩, hs⟩
  have hk := (Kx.refl (fun _ => False) w).alloc (.cells #[.string ⟨s.toArray⟩, .bool false] 144)
  rw [hk.cell (p := ⟨1, 0, none⟩) h0 id]; exact hm

theorem new_only {w w' : World} {o : Obj} (h : Kx (Only w.heap.size) (w.alloc o) w') : Kx (fun _ => False) w w' :=
  ((Kx.refl (fun _ => False) w).alloc o).trans' h (fun j hj e => by unfold Only at e; omega)

set_option maxHeartbeats 400000 in
theorem clone_any (s : List UInt8) (w : World) (hs : s.length ≤ 281474976710656) :
    Calls Tryz.prog 78 #[.string ⟨s.toArray⟩] w fun e w' => e = .returned (.string ⟨s.toArray⟩) ∧ Kx (fun _ => False) w w' := by
  go_enter Tryz.func78, Tryz.ntmps78
  go_wp2_with fail
  refine (Tryz.stringslite_Clone ⟨s.toArray⟩ _ (by simpa [ByteArray.size] using hs)).mono ?_
  rintro e w1 ⟨rfl, hb⟩
  go_wp2
  go_ret
  exact ⟨rfl, Kx.of_below hb⟩

set_option maxHeartbeats 800000 in
theorem read_any (s : List UInt8) (m : Int) (w : World) (hz : 6 < w.heap.size) (hm : w.cell? ⟨1, 0, none⟩ = some (.int .i64 m)) (hmax : s.length ≤ maxLen) :
    Calls Tryz.prog 49 #[.string ⟨s.toArray⟩] w fun e w' => (∃ a n c, e = .returned (.tuple #[.slice a n c, .int .i64 (Pu.check s).1, .int .i64 (Pu.check s).2]) ∧ ((Pu.check s).2 = 0 → CosAt w' w.heap.size (.slice a n c) (Pu.commands s))) ∧ Kx (fun _ => False) w w' := by
  unfold maxLen at hmax
  by_cases hl : 8000 < s.length
  · have HE : Hid (Pu.check s = (0, 2)) := by show _ = _; unfold Pu.check; rw [if_pos hl]
    have hl2 : (8000 : Int) < (s.length : Int) := by omega
    go_enter Tryz.func49, Tryz.ntmps49
    go_wp2
    go_ret3
    exact ⟨⟨none, 0, 0, by rw [HE.out]; rfl, fun h => by rw [HE.out] at h; cases h⟩, Kx.refl _ _⟩
  · have hs : s.length ≤ 8000 := by omega
    have hl2 : ¬ (8000 : Int) < (s.length : Int) := by omega
    have HE : Hid (Pu.check s = if (Pu.readAll s).2.2 then (((Pu.readAll s).1 : Int) + 1, 1)
        else if (Pu.readAll s).2.1 != [] then (((Pu.readAll s).1 : Int) + 2, 1)
        else if 60 < (Pu.readAll s).1 then (0, 2) else ((Pu.readAll s).1, 0)) := by show _ = _; unfold Pu.check; rw [if_neg hl]
    go_enter Tryz.func49, Tryz.ntmps49
    go_wp2_with fail
    refine (clone_any s _ (by omega)).mono ?_
    rintro e w0 ⟨rfl, hk0⟩
    have hz0 : 6 < w0.heap.size := Nat.lt_of_lt_of_le hz hk0.size
    have hm0 : w0.cell? ⟨1, 0, none⟩ = some (.int .i64 m) := by rw [hk0.cell (p := ⟨1, 0, none⟩) (lt_of_cell hm) id]; exact hm
    have hr0 := Rd.new s m w0 hz0 hm0 hs
    have hw0 := hk0.size
    go_wp2_with fail
    refine (readAll_any w0.heap.size s _ hr0).mono ?_
    rintro e w1 ⟨⟨av, cv, rfl, hcos⟩, hr, hn, hk⟩
    have hcos1 : CosAt w1 w.heap.size (.slice av (Pu.readAll s).1 cv) (Pu.commands s) := hcos.mono (by rw [World.size_alloc]; omega)
    generalize Pu.readAll s = R at *
    obtain ⟨n, s1, bad1⟩ := R
    have hbel : Kx (fun _ => False) w w1 := hk0.trans (new_only hk)
    obtain ⟨c0, c1, f0, f1, pos, ⟨m1, hm1⟩, short⟩ := hr
    have HC : Hid (CosAt w1 w.heap.size (.slice av n cv) (Pu.commands s)) := hcos1
    clear hk hr0 hcos hcos1
    cases bad1
    · by_cases h0 : s1 = []
      · subst h0
        by_cases h60 : 60 < n
        · have HE2 : Hid (Pu.check s = (0, 2)) := by show _ = _; rw [HE.out]; simp [h60]
          have h61 : (60 : Int) < (n : Int) := by omega
          clear HE
          go_wp2
          go_ret3
          exact ⟨⟨none, 0, 0, by rw [HE2.out]; rfl, fun h => by rw [HE2.out] at h; cases h⟩, hbel⟩
        · have HE2 : Hid (Pu.check s = ((n : Int), 0)) := by show _ = _; rw [HE.out]; simp [h60]
          have h61 : ¬ (60 : Int) < (n : Int) := by omega
          clear HE
          go_wp2
          go_ret3
          exact ⟨⟨av, n, cv, by rw [HE2.out]; rfl, fun _ => HC.out⟩, hbel⟩
      · have HE2 : Hid (Pu.check s = ((n : Int) + 2, 1)) := by show _ = _; rw [HE.out]; simp [h0]
        have hb : (s1 == []) = false := by simpa using h0
        have hb2 : s1.isEmpty = false := by simpa using h0
        clear HE
        go_wp2
        go_ret3
        exact ⟨⟨none, 0, 0, by rw [HE2.out]; rfl, fun h => by rw [HE2.out] at h; cases h⟩, hbel⟩
    · have HE2 : Hid (Pu.check s = ((n : Int) + 1, 1)) := by show _ = _; rw [HE.out]; simp
      clear HE
      go_wp2
      go_ret3
      exact ⟨⟨none, 0, 0, by rw [HE2.out]; rfl, fun h => by rw [HE2.out] at h; cases h⟩, hbel⟩

set_option maxHeartbeats 400000 in
theorem check_any (s : List UInt8) (m : Int) (w : World) (hz : 6 < w.heap.size) (hm : w.cell? ⟨1, 0, none⟩ = some (.int .i64 m)) (hmax : s.length ≤ maxLen) :
    Calls Tryz.prog 18 #[.string ⟨s.toArray⟩] w fun e w' => e = .returned (.tuple #[.int .i64 (Pu.check s).1, .int .i64 (Pu.check s).2]) ∧ Kx (fun _ => False) w w' := by
  go_enter Tryz.func18, Tryz.ntmps18
  go_wp2_with fail
  refine (read_any s m _ hz hm hmax).mono ?_
  rintro e w1 ⟨⟨a, n, c, rfl, _⟩, hbel⟩
  go_wp2
  go_ret2
  exact ⟨rfl, hbel⟩

/-- The variable that the library's search reads, and that there are all of them. -/
def Mx (m : Int) (w : World) : Prop := 6 < w.heap.size ∧ w.cell? ⟨1, 0, none⟩ = some (.int .i64 m)

theorem max_kept {w w' : World} {m : Int} (hm : Mx m w) (hk : ∀ X, Kx X w w') : Mx m w' := by
  refine ⟨Nat.lt_of_lt_of_le hm.1 (hk (fun _ => False)).size, ?_⟩
  rw [(hk (fun _ => False)).cell (p := ⟨1, 0, none⟩) (lt_of_cell hm.2) id]; exact hm.2

end Go.Proofs.YtepgoppgblfjbaaGreatDoor
