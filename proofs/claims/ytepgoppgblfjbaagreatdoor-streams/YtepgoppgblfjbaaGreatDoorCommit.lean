/- The function that reads a commit. -/
import Derived.Test.YtepgoppgblfjbaaGreatDoorCmd
namespace Go.Proofs.YtepgoppgblfjbaaGreatDoor
open Go.RowKit

set_option maxHeartbeats 2000000 in
set_option maxRecDepth 100000 in
theorem readCommit_any (b k : Nat) (x s : List UInt8) (bad : Bool) (w : World) (h : Rd b s bad w) (hbk : b < k) (hC : Cb k (coC (Pu.Co.of x) (.slice none 0 0) (.slice none 0 0)) 158 w) :
    Calls Tryz.prog 167 #[.pointer (some ⟨b, 0, none⟩), .pointer (some ⟨k, 0, none⟩)] w fun e w' => e = .returned (.tuple #[]) ∧ Rd b (Pu.readCommit s bad).1 (Pu.readCommit s bad).2 w' ∧ CoB k w.heap.size (Pu.readCommitV s bad (Pu.Co.of x)) w' ∧ Kx (Two b k) w w' := by
  have hkl := hC.lt
  have HE : Hid (Pu.readCommit s bad = Pu.changes (Pu.rc6 s bad).1 (Pu.rc6 s bad).2) := Pu.readCommit_rc s bad
  have HV : Hid (Pu.readCommitV s bad (Pu.Co.of x) = ⟨x, (Pu.ref Pu.sCommit1 s bad).1, (Pu.rmark (Pu.rc1 s bad).1 (Pu.rc1 s bad).2).1, Pu.authorV (Pu.rc2 s bad).1 (Pu.rc2 s bad).2, (Pu.data (Pu.rc3 s bad).1 (Pu.rc3 s bad).2).1, Pu.fromOrV (Pu.rc4 s bad).1 (Pu.rc4 s bad).2, Pu.mergesV (Pu.rc5 s bad).1.length (Pu.rc5 s bad).1 (Pu.rc5 s bad).2, Pu.changesAll (Pu.rc6 s bad).1 (Pu.rc6 s bad).2⟩) := rfl
  have R1 : Hid (Pu.rc1 s bad = (Pu.ref Pu.sCommit1 s bad).2) := rfl
  have R2 : Hid (Pu.rc2 s bad = (Pu.rmark (Pu.rc1 s bad).1 (Pu.rc1 s bad).2).2) := rfl
  have R3 : Hid (Pu.rc3 s bad = Pu.author (Pu.rc2 s bad).1 (Pu.rc2 s bad).2) := rfl
  have R4 : Hid (Pu.rc4 s bad = (Pu.data (Pu.rc3 s bad).1 (Pu.rc3 s bad).2).2) := rfl
  have R5 : Hid (Pu.rc5 s bad = Pu.fromOr (Pu.rc4 s bad).1 (Pu.rc4 s bad).2) := rfl
  have R6 : Hid (Pu.rc6 s bad = Pu.merges (Pu.rc5 s bad).1 (Pu.rc5 s bad).2) := rfl
  have hx0 : Kx (Two b k) w w := Kx.refl _ _
  have hc0 := hC
  unfold coC Pu.Co.of at hc0
  go_enter Tryz.func167, Tryz.ntmps167
  go_wp2_with fail
  refine (ref_any b s bad Pu.sCommit1 _ h).mono ?_
  rintro e w1 ⟨rfl, hr1, hk1⟩
  generalize Pu.ref Pu.sCommit1 s bad = st1 at *
  obtain ⟨q1, s1, bad1⟩ := st1
  rw [R1.out] at R2 HV
  have hc1 : Cb k #[.string ⟨x.toArray⟩, .string ⟨#[]⟩, .int .i64 0, .string ⟨#[]⟩, .string ⟨#[]⟩, .int .i64 0, .string ⟨#[]⟩, .int .i64 0, .string ⟨#[]⟩, .slice none 0 0, .slice none 0 0] 158 w1 := hc0.only hk1 hbk
  have hx1 : Kx (Two b k) w w1 := hx0.trans hk1.two
  have e1_1 : w1.cell? ⟨k, 1, none⟩ = some (.string ⟨#[]⟩) := hc1.cell 1
  have g1_1 := hc1.frozen 1
  go_wp2_with fail
  refine (rmark_any b s1 bad1 _ (hr1.setNew hbk _)).mono ?_
  rintro e w2 ⟨rfl, hr2, hk2⟩
  generalize Pu.rmark s1 bad1 = st2 at *
  obtain ⟨q2, s2, bad2⟩ := st2
  rw [R2.out] at R3 HV
  have hc2 : Cb k #[.string ⟨x.toArray⟩, .string ⟨q1.toArray⟩, .int .i64 0, .string ⟨#[]⟩, .string ⟨#[]⟩, .int .i64 0, .string ⟨#[]⟩, .int .i64 0, .string ⟨#[]⟩, .slice none 0 0, .slice none 0 0] 158 w2 := (hc1.set 1 (.string ⟨q1.toArray⟩)).only hk2 hbk
  have hx2 : Kx (Two b k) w w2 := (hx1.two_set _).trans hk2.two
  have e2_2 : w2.cell? ⟨k, 2, none⟩ = some (.int .i64 0) := hc2.cell 2
  have g2_2 := hc2.frozen 2
  go_wp2_with fail
  refine (author_any b s2 bad2 _ (hr2.setNew hbk _)).mono ?_
  rintro e w3 ⟨rfl, hr3, hk3⟩
  generalize Pu.author s2 bad2 = st3 at *
  generalize Pu.authorV s2 bad2 = av3 at *
  obtain ⟨s3, bad3⟩ := st3
  obtain ⟨q3, p3, o3⟩ := av3
  rw [R3.out] at R4 HV
  have hc3 : Cb k #[.string ⟨x.toArray⟩, .string ⟨q1.toArray⟩, .int .i64 q2, .string ⟨#[]⟩, .string ⟨#[]⟩, .int .i64 0, .string ⟨#[]⟩, .int .i64 0, .string ⟨#[]⟩, .slice none 0 0, .slice none 0 0] 158 w3 := (hc2.set 2 (.int .i64 q2)).only hk3 hbk
  have hx3 : Kx (Two b k) w w3 := (hx2.two_set _).trans hk3.two
  have e3_3 : w3.cell? ⟨k, 3, none⟩ = some (.string ⟨#[]⟩) := hc3.cell 3
  have g3_3 := hc3.frozen 3
  have e3_4 : w3.cell? ⟨k, 4, none⟩ = some (.string ⟨#[]⟩) := hc3.cell 4
  have g3_4 := hc3.frozen 4
  have e3_5 : w3.cell? ⟨k, 5, none⟩ = some (.int .i64 0) := hc3.cell 5
  have g3_5 := hc3.frozen 5
  go_wp2_with fail
  refine (data_any b s3 bad3 _ (((hr3.setNew hbk _).setNew hbk _).setNew hbk _)).mono ?_
  rintro e w4 ⟨rfl, hr4, hk4⟩
  generalize Pu.data s3 bad3 = st4 at *
  obtain ⟨q4, s4, bad4⟩ := st4
  rw [R4.out] at R5 HV
  have hc4 : Cb k #[.string ⟨x.toArray⟩, .string ⟨q1.toArray⟩, .int .i64 q2, .string ⟨q3.toArray⟩, .string ⟨p3.toArray⟩, .int .i64 o3, .string ⟨#[]⟩, .int .i64 0, .string ⟨#[]⟩, .slice none 0 0, .slice none 0 0] 158 w4 := (((hc3.set 3 (.string ⟨q3.toArray⟩)).set 4 (.string ⟨p3.toArray⟩)).set 5 (.int .i64 o3)).only hk4 hbk
  have hx4 : Kx (Two b k) w w4 := (((hx3.two_set _).two_set _).two_set _).trans hk4.two
  have e4_6 : w4.cell? ⟨k, 6, none⟩ = some (.string ⟨#[]⟩) := hc4.cell 6
  have g4_6 := hc4.frozen 6
  go_wp2_with fail
  refine (fromOr_any b s4 bad4 _ (hr4.setNew hbk _)).mono ?_
  rintro e w5 ⟨rfl, hr5, hk5⟩
  generalize Pu.fromOr s4 bad4 = st5 at *
  generalize Pu.fromOrV s4 bad4 = wv5 at *
  obtain ⟨s5, bad5⟩ := st5
  obtain ⟨q5, p5⟩ := wv5
  rw [R5.out] at R6 HV
  have hc5 : Cb k #[.string ⟨x.toArray⟩, .string ⟨q1.toArray⟩, .int .i64 q2, .string ⟨q3.toArray⟩, .string ⟨p3.toArray⟩, .int .i64 o3, .string ⟨q4.toArray⟩, .int .i64 0, .string ⟨#[]⟩, .slice none 0 0, .slice none 0 0] 158 w5 := (hc4.set 6 (.string ⟨q4.toArray⟩)).only hk5 hbk
  have hx5 : Kx (Two b k) w w5 := (hx4.two_set _).trans hk5.two
  have e5_7 : w5.cell? ⟨k, 7, none⟩ = some (.int .i64 0) := hc5.cell 7
  have g5_7 := hc5.frozen 7
  have e5_8 : w5.cell? ⟨k, 8, none⟩ = some (.string ⟨#[]⟩) := hc5.cell 8
  have g5_8 := hc5.frozen 8
  go_wp2_with fail
  refine (merges_any b s5 bad5 _ ((hr5.setNew hbk _).setNew hbk _)).mono ?_
  rintro e w6 ⟨⟨v6, rfl, ho6⟩, hr6, hk6⟩
  obtain ⟨av6, cv6, hv6⟩ := own_slice0 ho6
  generalize Pu.merges s5 bad5 = st6 at *
  generalize Pu.mergesV s5.length s5 bad5 = lv6 at *
  obtain ⟨s6, bad6⟩ := st6
  subst hv6
  rw [R6.out] at HE HV
  have hc6 : Cb k #[.string ⟨x.toArray⟩, .string ⟨q1.toArray⟩, .int .i64 q2, .string ⟨q3.toArray⟩, .string ⟨p3.toArray⟩, .int .i64 o3, .string ⟨q4.toArray⟩, .int .i64 q5, .string ⟨p5.toArray⟩, .slice none 0 0, .slice none 0 0] 158 w6 := ((hc5.set 7 (.int .i64 q5)).set 8 (.string ⟨p5.toArray⟩)).only hk6 hbk
  have hx6 : Kx (Two b k) w w6 := ((hx5.two_set _).two_set _).trans hk6.two
  have e6_9 : w6.cell? ⟨k, 9, none⟩ = some (.slice none 0 0) := hc6.cell 9
  have g6_9 := hc6.frozen 9
  go_wp2_with fail
  refine (changes_any b s6 bad6 _ (hr6.setNew hbk _)).mono ?_
  rintro e w7 ⟨⟨v7, rfl, ho7⟩, hr7, hk7⟩
  obtain ⟨av7, cv7, hv7⟩ := own_slice0 ho7
  generalize Pu.changes s6 bad6 = st7 at *
  generalize Pu.changesAll s6 bad6 = lv7 at *
  obtain ⟨s7, bad7⟩ := st7
  subst hv7
  have hc7 : Cb k #[.string ⟨x.toArray⟩, .string ⟨q1.toArray⟩, .int .i64 q2, .string ⟨q3.toArray⟩, .string ⟨p3.toArray⟩, .int .i64 o3, .string ⟨q4.toArray⟩, .int .i64 q5, .string ⟨p5.toArray⟩, .slice av6 lv6.length cv6, .slice none 0 0] 158 w7 := (hc6.set 9 (.slice av6 lv6.length cv6)).only hk7 hbk
  have hx7 : Kx (Two b k) w w7 := (hx6.two_set _).trans hk7.two
  have e7_10 : w7.cell? ⟨k, 10, none⟩ = some (.slice none 0 0) := hc7.cell 10
  have g7_10 := hc7.frozen 10
  go_wp2
  go_end0
  refine ⟨rfl, by rw [HE.out]; exact (hr7.setNew hbk _), ?_, (hx7.two_set _)⟩
  rw [HV.out]
  refine ⟨_, _, (hc7.set 10 (.slice av7 lv7.length cv7)), ?_⟩
  have hms : CoS w7 w.heap.size (.slice av6 lv6.length cv6) (.slice av7 lv7.length cv7) ⟨x, q1, q2, ⟨q3, p3, o3⟩, q4, ⟨q5, p5⟩, lv6, lv7⟩ := by
    have hkm : Kx (Two b k) w6 w7 := (((Kx.refl (Two b k) w6).two_set _)).trans hk7.two
    have hl6 := ho6.lt
    have hl7 := ho7.lt
    have hs5 : w.heap.size ≤ w5.heap.size := hx5.size
    have hs6 : w.heap.size ≤ w6.heap.size := hx6.size
    simp only [World.size_setCell] at hl6 hl7
    refine ⟨(Reads.of_own ho6).kept hkm (fun j e => ?_), Reads.of_own ho7, fun j e => ⟨Nat.le_trans hs5 (hl6 j e).1, Nat.lt_of_lt_of_le (hl6 j e).2 hkm.size⟩, fun j e => ⟨Nat.le_trans hs6 (hl7 j e).1, (hl7 j e).2⟩⟩
    have := (hl6 j e).1
    rintro (e2 | e2) <;> omega
  exact hms.kept ((Kx.refl (Only k) _).only_set _) (fun j hj _ e => by unfold Only at e; omega)

end Go.Proofs.YtepgoppgblfjbaaGreatDoor
