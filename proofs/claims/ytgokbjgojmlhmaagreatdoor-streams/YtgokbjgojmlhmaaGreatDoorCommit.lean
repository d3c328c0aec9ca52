/- command.readCommit. -/
import Derived.Test.YtgokbjgojmlhmaaGreatDoorCmd
namespace Go.Proofs.YtgokbjgojmlhmaaGreatDoor
open Go.RowKit

set_option maxHeartbeats 1000000 in
theorem readCommit_any (b k : Nat) (s : List UInt8) (bad : Bool) (w : World) (h : Rd b s bad w) (hbk : b < k) (hC : Cm k w) :
    Calls Tryz.prog 114 #[.pointer (some ⟨b, 0, none⟩), .pointer (some ⟨k, 0, none⟩)] w fun e w' => e = .returned (.tuple #[]) ∧ Rd b (Pu.readCommit s bad).1 (Pu.readCommit s bad).2 w' ∧ Cm k w' ∧ Kx (Two b k) w w' := by
  have HE : Hid (Pu.readCommit s bad = Pu.thn (Pu.thn (Pu.thn (Pu.thn (Pu.thn (Pu.thn (Pu.ref Pu.sCommit1 s bad).2 (fun s b => (Pu.rmark s b).2)) Pu.author) (fun s b => (Pu.data s b).2)) Pu.fromOr) Pu.merges) Pu.changes) := rfl
  simp only [Pu.thn] at HE
  go_enter Tryz.func114, Tryz.ntmps114
  go_wp2_with fail
  refine (ref_any b s bad Pu.sCommit1 _ h).mono ?_
  rintro e w1 ⟨⟨q1, rfl⟩, hr1, hk1⟩
  generalize Pu.ref Pu.sCommit1 s bad = st1 at *
  obtain ⟨z1, s1, bad1⟩ := st1
  have hC1 := (hC).only hk1 hbk
  have hx1 := ((Kx.refl (Two b k) w)).trans hk1.two
  obtain ⟨v1_1, e1_1⟩ := hC1.at 1 (by omega)
  have g1_1 := hC1.frozen 1
  go_wp2_with fail
  refine (rmark_any b s1 bad1 _ (hr1.setNew hbk _)).mono ?_
  rintro e w2 ⟨⟨q2, rfl⟩, hr2, hk2⟩
  generalize Pu.rmark s1 bad1 = st2 at *
  obtain ⟨z2, s2, bad2⟩ := st2
  have hC2 := ((hC1.set1 q1)).only hk2 hbk
  have hx2 := ((hx1.two_set _)).trans hk2.two
  obtain ⟨v2_2, e2_2⟩ := hC2.at 2 (by omega)
  have g2_2 := hC2.frozen 2
  go_wp2_with fail
  refine (author_any b s2 bad2 _ (hr2.setNew hbk _)).mono ?_
  rintro e w3 ⟨⟨q3, p3, o3, rfl⟩, hr3, hk3⟩
  generalize Pu.author s2 bad2 = st3 at *
  obtain ⟨s3, bad3⟩ := st3
  have hC3 := ((hC2.set2 q2)).only hk3 hbk
  have hx3 := ((hx2.two_set _)).trans hk3.two
  obtain ⟨v3_3, e3_3⟩ := hC3.at 3 (by omega)
  have g3_3 := hC3.frozen 3
  obtain ⟨v3_4, e3_4⟩ := hC3.at 4 (by omega)
  have g3_4 := hC3.frozen 4
  obtain ⟨v3_5, e3_5⟩ := hC3.at 5 (by omega)
  have g3_5 := hC3.frozen 5
  go_wp2_with fail
  refine (data_any b s3 bad3 _ (((hr3.setNew hbk _).setNew hbk _).setNew hbk _)).mono ?_
  rintro e w4 ⟨⟨q4, rfl⟩, hr4, hk4⟩
  generalize Pu.data s3 bad3 = st4 at *
  obtain ⟨z4, s4, bad4⟩ := st4
  have hC4 := ((((hC3.set3 q3).set4 p3).set5 o3)).only hk4 hbk
  have hx4 := ((((hx3.two_set _).two_set _).two_set _)).trans hk4.two
  obtain ⟨v4_6, e4_6⟩ := hC4.at 6 (by omega)
  have g4_6 := hC4.frozen 6
  go_wp2_with fail
  refine (fromOr_any b s4 bad4 _ (hr4.setNew hbk _)).mono ?_
  rintro e w5 ⟨⟨q5, p5, rfl⟩, hr5, hk5⟩
  generalize Pu.fromOr s4 bad4 = st5 at *
  obtain ⟨s5, bad5⟩ := st5
  have hC5 := ((hC4.set6 q4)).only hk5 hbk
  have hx5 := ((hx4.two_set _)).trans hk5.two
  obtain ⟨v5_7, e5_7⟩ := hC5.at 7 (by omega)
  have g5_7 := hC5.frozen 7
  obtain ⟨v5_8, e5_8⟩ := hC5.at 8 (by omega)
  have g5_8 := hC5.frozen 8
  go_wp2_with fail
  refine (merges_any b s5 bad5 _ ((hr5.setNew hbk _).setNew hbk _)).mono ?_
  rintro e w6 ⟨⟨q6, p6, o6, rfl⟩, hr6, hk6⟩
  generalize Pu.merges s5 bad5 = st6 at *
  obtain ⟨s6, bad6⟩ := st6
  have hC6 := (((hC5.set7 q5).set8 p5)).only hk6 hbk
  have hx6 := (((hx5.two_set _).two_set _)).trans hk6.two
  obtain ⟨v6_9, e6_9⟩ := hC6.at 9 (by omega)
  have g6_9 := hC6.frozen 9
  go_wp2_with fail
  refine (changes_any b s6 bad6 _ (hr6.setNew hbk _)).mono ?_
  rintro e w7 ⟨⟨q7, p7, o7, rfl⟩, hr7, hk7⟩
  generalize Pu.changes s6 bad6 = st7 at *
  obtain ⟨s7, bad7⟩ := st7
  have hC7 := ((hC6.set9 q6 p6 o6)).only hk7 hbk
  have hx7 := ((hx6.two_set _)).trans hk7.two
  obtain ⟨v7_10, e7_10⟩ := hC7.at 10 (by omega)
  have g7_10 := hC7.frozen 10
  go_wp2
  go_end0
  exact ⟨rfl, by rw [HE.out]; exact (hr7.setNew hbk _), (hC7.set10 q7 p7 o7), (hx7.two_set _)⟩

end Go.Proofs.YtgokbjgojmlhmaaGreatDoor
