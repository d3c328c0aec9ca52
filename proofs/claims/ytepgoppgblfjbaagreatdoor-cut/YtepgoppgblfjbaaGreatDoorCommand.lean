/- The statement's own command. -/
import Derived.Test.YtepgoppgblfjbaaGreatDoorText
namespace Go.Proofs.YtepgoppgblfjbaaGreatDoor
open Go.RowKit

set_option maxHeartbeats 4000000 in
set_option maxRecDepth 100000 in
theorem commandL_aux (K A B C D : Int) (w : World) (hK : I64 K) (hA : I64 A) (hB : I64 B) (hC : I64 C) (hD : I64 D) (a n : Int) (nn kk ia ib : Nat) (R O G : List UInt8) (ha : a = n) (hn : n = (nn : Int)) (hnn : nn < 100)
    (HK : Hid (pickN K 9 = kk)) (HA : Hid (pickN A 3 = ia)) (HB : Hid (pickN B 3 = ib)) (HR : Hid (refAt ia = R)) (HO : Hid (refAt ib = O)) (HG : Hid (Pu.changeS (pickN B 10) (pathAt (pickN C 7)) (pathAt (pickN D 7)) (pickN D 30) = G)) (hG : G.length ≤ 100) :
    Calls Tryz.prog 48 #[.agg #[.int .i64 K, .int .i64 A, .int .i64 B, .int .i64 C, .int .i64 D], .int .i64 a] w fun e w' =>
      e = .returned (.string ⟨(Pu.commandS kk R O nn ia G).toArray⟩) ∧ ∀ X, Kx X w w' := by
  subst ha hn
  obtain ⟨hK1, hK2⟩ := hK
  obtain ⟨hA1, hA2⟩ := hA
  obtain ⟨hB1, hB2⟩ := id hB
  have happ := app_str
  have hbox := Cb.new #[.int .i64 K, .int .i64 A, .int .i64 B, .int .i64 C, .int .i64 D] 38 w
  have hkb := fun X => (Kx.refl X w).alloc (.cells #[.int .i64 K, .int .i64 A, .int .i64 B, .int .i64 C, .int .i64 D] 38)
  have q1 : ia < 3 := by rw [← HA.out]; exact pickN_lt A 3 (by omega)
  have q2 : ib < 3 := by rw [← HB.out]; exact pickN_lt B 3 (by omega)
  have s1 : R.length ≤ 4 := by rw [← HR.out]; exact refs_short _ (refAt_mem _ q1)
  have s2 : O.length ≤ 4 := by rw [← HO.out]; exact refs_short _ (refAt_mem _ q2)
  obtain ⟨dn, HDN⟩ : ∃ dn, Hid (Pu.dig nn = dn) := ⟨_, rfl⟩
  obtain ⟨dt, HDT⟩ : ∃ dt, Hid (Pu.dig ia = dt) := ⟨_, rfl⟩
  have hdn := (dig_len nn).1
  have hdt := (dig_len ia).1
  rw [HDN.out] at hdn
  rw [HDT.out] at hdt
  obtain ⟨hd, HH⟩ : ∃ hd, Hid (Pu.headS R nn = hd) := ⟨_, rfl⟩
  have HC : Hid (Pu.commandS kk R O nn ia G = if kk < 6 then hd ++ G ++ [10]
      else if kk = 6 then [114, 101, 115, 101, 116, 32] ++ R ++ [10, 102, 114, 111, 109, 32] ++ O ++ [10, 10]
      else if kk = 7 then [116, 97, 103, 32, 116] ++ dt ++ [10, 102, 114, 111, 109, 32] ++ O ++ [10, 100, 97, 116, 97, 32, 48, 10, 10]
      else hd ++ [109, 101, 114, 103, 101, 32] ++ O ++ [10, 10]) := by
    show _ = _
    unfold Pu.commandS; rw [HH.out, HDT.out]
  have HHd : Hid ([99, 111, 109, 109, 105, 116, 32] ++ R ++ [10, 109, 97, 114, 107, 32, 58] ++ dn ++ [10, 97, 117, 116, 104, 111, 114, 32, 65, 32, 66, 32, 60, 97, 64, 98, 62, 32] ++ dn ++ [10, 100, 97, 116, 97, 32, 49, 10, 109, 10] = hd) := by
    show _ = _
    rw [← HH.out, ← HDN.out]; rfl
  have hhl : hd.length ≤ 100 := by rw [← HHd.out]; simp; omega
  clear HH
  go_enter Tryz.func48, Tryz.ntmps48
  go_wp2_with fail
  refine (refs_any _).mono ?_
  rintro e W ⟨rfl, hL⟩
  have hb2 := hbox.kept (hL.kx (fun _ => False)) id
  have hkW : ∀ X, Kx X w W := fun X => (hkb X).trans (hL.kx X)
  have p1 := hL.ref ia q1
  have p2 := hL.ref ib q2
  rw [World.size_alloc, HR.out] at p1
  rw [World.size_alloc, HO.out] at p2
  have a0 := hb2.cell 0
  have a1 := hb2.cell 1
  have a2 := hb2.cell 2
  have a3 := hb2.cell 3
  have a4 := hb2.cell 4
  clear hbox hkb hL
  go_wp2_with fail
  refine (pick_any A 3 _ (by omega) (by omega) hA1 hA2).mono ?_
  rintro e w1 ⟨rfl, rfl⟩
  rw [HA.out]
  go_wp2_with fail
  refine (pick_any B 3 _ (by omega) (by omega) hB1 hB2).mono ?_
  rintro e w1 ⟨rfl, rfl⟩
  rw [HB.out]
  go_wp2_with fail
  clear p1 p2
  refine (digits_any nn _ (by omega) (by omega)).mono ?_
  rintro e w2 ⟨rfl, hk2⟩
  rw [Int.toNat_natCast, HDN.out]
  go_wp2_with fail
  refine (digits_any nn _ (by omega) (by omega)).mono ?_
  rintro e w3 ⟨rfl, hk3⟩
  rw [Int.toNat_natCast, HDN.out]
  have hb3 := (hb2.kept (hk2 (fun _ => False)) id).kept (hk3 (fun _ => False)) id
  have hk4 : ∀ X, Kx X w w3 := fun X => ((hkW X).trans (hk2 X)).trans (hk3 X)
  clear a0 a1 a2 a3 a4 hb2 hk2 hk3 hkW
  have a0 := hb3.cell 0
  have a1 := hb3.cell 1
  have a2 := hb3.cell 2
  have a3 := hb3.cell 3
  have a4 := hb3.cell 4
  clear hb3
  go_wp2_with fail
  refine (pick_any K 9 _ (by omega) (by omega) hK1 hK2).mono ?_
  rintro e w4 ⟨rfl, rfl⟩
  rw [HK.out]
  by_cases h6 : kk < 6
  · have HC2 : Hid (Pu.commandS kk R O nn ia G = hd ++ G ++ [10]) := by show _ = _; rw [HC.out, if_pos h6]
    clear HC
    go_wp2_with fail
    refine (changeL_any K A B C D _ hB hC hD).mono ?_
    rintro e w5 ⟨rfl, hk5⟩
    rw [HG.out]
    go_wp2
    go_ret
    exact ⟨ret_str (by rw [HC2.out, ← HHd.out]; simp), fun X => (hk4 X).trans (hk5 X)⟩
  by_cases h7 : kk = 6
  · subst h7
    have HC2 : Hid (Pu.commandS 6 R O nn ia G = [114, 101, 115, 101, 116, 32] ++ R ++ [10, 102, 114, 111, 109, 32] ++ O ++ [10, 10]) := by show _ = _; rw [HC.out]; rfl
    clear HC
    go_wp2
    go_ret
    exact ⟨ret_str (by rw [HC2.out]; simp), hk4⟩
  by_cases h8 : kk = 7
  · subst h8
    have HC2 : Hid (Pu.commandS 7 R O nn ia G = [116, 97, 103, 32, 116] ++ dt ++ [10, 102, 114, 111, 109, 32] ++ O ++ [10, 100, 97, 116, 97, 32, 48, 10, 10]) := by show _ = _; rw [HC.out]; rfl
    clear HC
    go_wp2_with fail
    refine (pick_any A 3 _ (by omega) (by omega) hA1 hA2).mono ?_
    rintro e w4 ⟨rfl, rfl⟩
    rw [HA.out]
    go_wp2_with fail
    refine (digits_any ia _ (by omega) (by omega)).mono ?_
    rintro e w5 ⟨rfl, hk5⟩
    rw [Int.toNat_natCast, HDT.out]
    go_wp2
    go_ret
    exact ⟨ret_str (by rw [HC2.out]; simp), fun X => (hk4 X).trans (hk5 X)⟩
  · have HC2 : Hid (Pu.commandS kk R O nn ia G = hd ++ [109, 101, 114, 103, 101, 32] ++ O ++ [10, 10]) := by show _ = _; rw [HC.out, if_neg h6, if_neg h7, if_neg h8]
    have b6 : ((kk : Int) == 6) = false := beq_eq_false_iff_ne.2 (by omega)
    have b7 : ((kk : Int) == 7) = false := beq_eq_false_iff_ne.2 (by omega)
    clear HC
    go_wp2
    go_ret
    exact ⟨ret_str (by rw [HC2.out, ← HHd.out]; simp), hk4⟩

/-- An act. -/
structure Ac where
  K : Int
  A : Int
  B : Int
  C : Int
  D : Int

def Ac.ok (a : Ac) : Prop := I64 a.K ∧ I64 a.A ∧ I64 a.B ∧ I64 a.C ∧ I64 a.D
/-- Its text, as the command with the mark n. -/
def Ac.text (a : Ac) (n : Nat) : List UInt8 :=
  Pu.commandS (pickN a.K 9) (refAt (pickN a.A 3)) (refAt (pickN a.B 3)) n (pickN a.A 3) (Pu.changeS (pickN a.B 10) (pathAt (pickN a.C 7)) (pathAt (pickN a.D 7)) (pickN a.D 30))
def Ac.val (a : Ac) : Value := .agg #[.int .i64 a.K, .int .i64 a.A, .int .i64 a.B, .int .i64 a.C, .int .i64 a.D]

theorem Ac.good (a : Ac) (n : Nat) (h : 1 ≤ n ∧ n ≤ 12) : Pu.Good (a.text n) :=
  Pu.command_good _ _ _ n _ _ (refAt_mem _ (pickN_lt _ 3 (by omega))) (refAt_mem _ (pickN_lt _ 3 (by omega))) h (pickN_lt _ 3 (by omega))
    (Pu.change_good _ _ _ _ (pickN_lt _ 10 (by omega)) (pathAt_mem _ (pickN_lt _ 7 (by omega))) (pathAt_mem _ (pickN_lt _ 7 (by omega))) (pickN_lt _ 30 (by omega)))

theorem commandL_any (a : Ac) (ha : a.ok) (n : Int) (nn : Nat) (hn : n = (nn : Int)) (hnn : nn < 100) (w : World) :
    Calls Tryz.prog 48 #[.agg #[.int .i64 a.K, .int .i64 a.A, .int .i64 a.B, .int .i64 a.C, .int .i64 a.D], .int .i64 n] w fun e w' => e = .returned (.string ⟨(a.text nn).toArray⟩) ∧ ∀ X, Kx X w w' := by
  have hg := (Pu.change_good (pickN a.B 10) (pathAt (pickN a.C 7)) (pathAt (pickN a.D 7)) (pickN a.D 30) (pickN_lt _ 10 (by omega)) (pathAt_mem _ (pickN_lt _ 7 (by omega))) (pathAt_mem _ (pickN_lt _ 7 (by omega))) (pickN_lt _ 30 (by omega))).2
  rw [List.length_append] at hg
  exact commandL_aux a.K a.A a.B a.C a.D w ha.1 ha.2.1 ha.2.2.1 ha.2.2.2.1 ha.2.2.2.2 n n nn _ _ _ _ _ _ rfl hn hnn rfl rfl rfl rfl rfl rfl (by omega)

end Go.Proofs.YtepgoppgblfjbaaGreatDoor
