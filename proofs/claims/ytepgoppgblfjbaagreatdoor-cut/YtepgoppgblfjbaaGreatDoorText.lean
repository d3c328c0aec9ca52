/- The statement's own functions: refs, paths, change, command, stream. -/
import Derived.Test.YtepgoppgblfjbaaGreatDoorFold
namespace Go.Proofs.YtepgoppgblfjbaaGreatDoor
open Go.RowKit

/-- A list of texts in a block of its own. -/
structure Ls (L : List (List UInt8)) (w w' : World) : Prop where
  size : w'.heap.size = w.heap.size + 1
  tbl : Cb w.heap.size (L.map (fun x => Value.string ⟨x.toArray⟩)).toArray 9 w'
  kx : ∀ X, Kx X w w'

set_option maxHeartbeats 400000 in
theorem refs_any (w : World) :
    Calls Tryz.prog 76 #[] w fun e w' => e = .returned (.slice (some ⟨w.heap.size, 0, none⟩) 3 3) ∧ Ls Pu.refsL w w' := by
  go_enter Tryz.func76, Tryz.ntmps76
  go_wp2
  go_ret
  exact ⟨rfl, by simp, Cb.new _ _ _, fun X => (Kx.refl X w).alloc _⟩

set_option maxHeartbeats 400000 in
theorem paths_any (w : World) :
    Calls Tryz.prog 22 #[] w fun e w' => e = .returned (.slice (some ⟨w.heap.size, 0, none⟩) 7 7) ∧ Ls Pu.pathsL w w' := by
  go_enter Tryz.func22, Tryz.ntmps22
  go_wp2
  go_ret
  exact ⟨rfl, by simp, Cb.new _ _ _, fun X => (Kx.refl X w).alloc _⟩

/-- Numbers of 64 bits. -/
def I64 (c : Int) : Prop := -9223372036854775808 ≤ c ∧ c ≤ 9223372036854775807

/-- The paths and refs, by number. -/
def pathAt (i : Nat) : List UInt8 := Pu.pathsL.getD i []
def refAt (i : Nat) : List UInt8 := Pu.refsL.getD i []

theorem pathAt_mem (i : Nat) (h : i < 7) : pathAt i ∈ Pu.pathsL := by
  have : i = 0 ∨ i = 1 ∨ i = 2 ∨ i = 3 ∨ i = 4 ∨ i = 5 ∨ i = 6 := by omega
  rcases this with rfl | rfl | rfl | rfl | rfl | rfl | rfl <;> decide
theorem refAt_mem (i : Nat) (h : i < 3) : refAt i ∈ Pu.refsL := by
  have : i = 0 ∨ i = 1 ∨ i = 2 := by omega
  rcases this with rfl | rfl | rfl <;> decide
theorem paths_short : ∀ p ∈ Pu.pathsL, p.length ≤ 5 := by decide
theorem refs_short : ∀ p ∈ Pu.refsL, p.length ≤ 4 := by decide

theorem pick_five (c : Int) : pickN c 5 = pickN c 30 % 5 := by
  unfold pickN
  split <;> rw [Nat.mod_mod_of_dvd _ (by decide : 5 ∣ 30)]

theorem dig_len (n : Nat) : (Pu.dig n).length ≤ 2 ∧ 1 ≤ (Pu.dig n).length := by unfold Pu.dig; split <;> simp

theorem ret_str {a b : List UInt8} (h : a = b) : Ending.returned (.string ⟨a.toArray⟩) = .returned (.string ⟨b.toArray⟩) := by rw [h]

theorem Ls.path {w w' : World} (h : Ls Pu.pathsL w w') (i : Nat) (hi : i < 7) : w'.cell? ⟨w.heap.size, i, none⟩ = some (.string ⟨(pathAt i).toArray⟩) := by
  have : i = 0 ∨ i = 1 ∨ i = 2 ∨ i = 3 ∨ i = 4 ∨ i = 5 ∨ i = 6 := by omega
  rcases this with rfl | rfl | rfl | rfl | rfl | rfl | rfl <;> exact h.tbl.cell _
theorem Ls.ref {w w' : World} (h : Ls Pu.refsL w w') (i : Nat) (hi : i < 3) : w'.cell? ⟨w.heap.size, i, none⟩ = some (.string ⟨(refAt i).toArray⟩) := by
  have : i = 0 ∨ i = 1 ∨ i = 2 := by omega
  rcases this with rfl | rfl | rfl <;> exact h.tbl.cell _

set_option maxHeartbeats 2000000 in
set_option maxRecDepth 100000 in
theorem changeL_aux (k A B C D : Int) (w : World) (hB : I64 B) (hC : I64 C) (hD : I64 D) (kB i1 i2 d5 d : Nat) (P1 P2 : List UInt8)
    (HB : Hid (pickN B 10 = kB)) (H1 : Hid (pickN C 7 = i1)) (H2 : Hid (pickN D 7 = i2)) (H5 : Hid (pickN D 5 = d5)) (H30 : Hid (pickN D 30 = d)) (HP1 : Hid (pathAt i1 = P1)) (HP2 : Hid (pathAt i2 = P2)) (HM : Hid (d5 = d % 5)) :
    Calls Tryz.prog 77 #[.agg #[.int .i64 k, .int .i64 A, .int .i64 B, .int .i64 C, .int .i64 D]] w fun e w' =>
      e = .returned (.string ⟨(Pu.changeS kB P1 P2 d).toArray⟩) ∧ ∀ X, Kx X w w' := by
  obtain ⟨hB1, hB2⟩ := hB
  obtain ⟨hC1, hC2⟩ := hC
  obtain ⟨hD1, hD2⟩ := hD
  have happ := app_str
  have hbox := Cb.new #[.int .i64 k, .int .i64 A, .int .i64 B, .int .i64 C, .int .i64 D] 38 w
  have hkb := fun X => (Kx.refl X w).alloc (.cells #[.int .i64 k, .int .i64 A, .int .i64 B, .int .i64 C, .int .i64 D] 38)
  have q1 : i1 < 7 := by rw [← H1.out]; exact pickN_lt C 7 (by omega)
  have q2 : i2 < 7 := by rw [← H2.out]; exact pickN_lt D 7 (by omega)
  have hd30 : d < 30 := by rw [← H30.out]; exact pickN_lt D 30 (by omega)
  have s1 : P1.length ≤ 5 := by rw [← HP1.out]; exact paths_short _ (pathAt_mem _ q1)
  have s2 : P2.length ≤ 5 := by rw [← HP2.out]; exact paths_short _ (pathAt_mem _ q2)
  go_enter Tryz.func77, Tryz.ntmps77
  go_wp2_with fail
  refine (paths_any _).mono ?_
  rintro e W ⟨rfl, hL⟩
  have hb2 := hbox.kept (hL.kx (fun _ => False)) id
  have hkW : ∀ X, Kx X w W := fun X => (hkb X).trans (hL.kx X)
  have p1 := hL.path i1 q1
  have p2 := hL.path i2 q2
  rw [World.size_alloc, HP1.out] at p1
  rw [World.size_alloc, HP2.out] at p2
  have a2 := hb2.cell 2
  have a3 := hb2.cell 3
  have a4 := hb2.cell 4
  clear hbox hkb hL
  go_wp2_with fail
  refine (pick_any C 7 _ (by omega) (by omega) hC1 hC2).mono ?_
  rintro e w1 ⟨rfl, rfl⟩
  rw [H1.out]
  go_wp2_with fail
  refine (pick_any D 7 _ (by omega) (by omega) hD1 hD2).mono ?_
  rintro e w1 ⟨rfl, rfl⟩
  rw [H2.out]
  go_wp2_with fail
  refine (pick_any B 10 _ (by omega) (by omega) hB1 hB2).mono ?_
  rintro e w1 ⟨rfl, rfl⟩
  rw [HB.out]
  by_cases h6 : kB = 6
  · subst h6
    go_wp2
    go_ret
    exact ⟨ret_str (by simp [Pu.changeS]), hkW⟩
  by_cases h7 : kB = 7
  · subst h7
    go_wp2
    go_ret
    exact ⟨ret_str (by simp [Pu.changeS]), hkW⟩
  by_cases h8 : kB = 8
  · subst h8
    go_wp2
    go_ret
    exact ⟨ret_str (by simp [Pu.changeS]), hkW⟩
  by_cases h9 : kB = 9
  · subst h9
    go_wp2
    go_ret
    exact ⟨ret_str (by simp [Pu.changeS]), hkW⟩
  have b6 : ((kB : Int) == 6) = false := beq_eq_false_iff_ne.2 (by omega)
  have b7 : ((kB : Int) == 7) = false := beq_eq_false_iff_ne.2 (by omega)
  have b8 : ((kB : Int) == 8) = false := beq_eq_false_iff_ne.2 (by omega)
  have b9 : ((kB : Int) == 9) = false := beq_eq_false_iff_ne.2 (by omega)
  have HS : Hid (Pu.changeS kB P1 P2 d = [77, 32] ++ (if d % 5 = 4 then Pu.s755 else Pu.s644) ++ [32, 105, 110, 108, 105, 110, 101, 32] ++ P1 ++ [10, 100, 97, 116, 97, 32] ++ Pu.dig (Pu.dig d).length ++ [10] ++ Pu.dig d ++ [10]) := by
    show _ = _
    unfold Pu.changeS
    rw [if_neg h6, if_neg h7, if_neg h8, if_neg h9]
  clear h6 h7 h8 h9
  go_wp2_with fail
  refine (pick_any D 5 _ (by omega) (by omega) hD1 hD2).mono ?_
  rintro e w1 ⟨rfl, rfl⟩
  rw [H5.out]
  obtain ⟨md, HMd, b4⟩ : ∃ md, Hid ((if d % 5 = 4 then Pu.s755 else Pu.s644) = md) ∧ ((((d5 : Int) == 4) = true ∧ md = [49, 48, 48, 55, 53, 53]) ∨ (((d5 : Int) == 4) = false ∧ md = [49, 48, 48, 54, 52, 52])) := by
    refine ⟨_, rfl, ?_⟩
    rw [HM.out]
    by_cases e : d % 5 = 4
    · left; rw [if_pos e, e]; exact ⟨rfl, rfl⟩
    · right; rw [if_neg e]; exact ⟨beq_eq_false_iff_ne.2 (by omega), rfl⟩
  rw [HMd.out] at HS
  obtain ⟨dd, HDD⟩ : ∃ dd, Hid (Pu.dig d = dd) := ⟨_, rfl⟩
  have hdd := dig_len d
  rw [HDD.out] at hdd HS
  obtain ⟨d2, HD2⟩ : ∃ d2, Hid (Pu.dig dd.length = d2) := ⟨_, rfl⟩
  have hd2 := dig_len dd.length
  rw [HD2.out] at hd2 HS
  rcases b4 with ⟨b4, rfl⟩ | ⟨b4, rfl⟩
  all_goals
    go_wp2_with fail
    refine (pick_any D 30 _ (by omega) (by omega) hD1 hD2).mono ?_
    rintro e w1 ⟨rfl, rfl⟩
    rw [H30.out]
    go_wp2_with fail
    refine (digits_any d _ (by omega) (by omega)).mono ?_
    rintro e w2 ⟨rfl, hk2⟩
    rw [Int.toNat_natCast, HDD.out]
    go_wp2_with fail
    refine (digits_any dd.length _ (by omega) (by omega)).mono ?_
    rintro e w3 ⟨rfl, hk3⟩
    rw [Int.toNat_natCast, HD2.out]
    go_wp2
    go_ret
    exact ⟨ret_str (by rw [HS.out]; simp), fun X => ((hkW X).trans (hk2 X)).trans (hk3 X)⟩

theorem changeL_any (k A B C D : Int) (w : World) (hB : I64 B) (hC : I64 C) (hD : I64 D) :
    Calls Tryz.prog 77 #[.agg #[.int .i64 k, .int .i64 A, .int .i64 B, .int .i64 C, .int .i64 D]] w fun e w' =>
      e = .returned (.string ⟨(Pu.changeS (pickN B 10) (pathAt (pickN C 7)) (pathAt (pickN D 7)) (pickN D 30)).toArray⟩) ∧ ∀ X, Kx X w w' :=
  changeL_aux k A B C D w hB hC hD _ _ _ _ _ _ _ rfl rfl rfl rfl rfl rfl rfl (pick_five D)

end Go.Proofs.YtepgoppgblfjbaaGreatDoor
