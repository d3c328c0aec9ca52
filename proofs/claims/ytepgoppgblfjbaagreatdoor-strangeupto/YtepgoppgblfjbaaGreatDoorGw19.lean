import Derived.Test.YtepgoppgblfjbaaGreatDoorGw18
import Derived.Laws.EntriesVeiled
namespace Go.Proofs.YtepgoppgblfjbaaGreatDoor
open Go.RowKit

def Two (b k : Nat) : Nat → Prop := fun j => j = b ∨ j = k

theorem Kx.two {b k : Nat} {w w' : World} (h : Kx (Only b) w w') : Kx (Two b k) w w' := h.mono (fun _ _ e => Or.inl e)

theorem Kx.two_set {b k o : Nat} {a w : World} (h : Kx (Two b k) a w) (u : Value) : Kx (Two b k) a (w.setCell ⟨k, o, none⟩ u) :=
  h.setCell (p := ⟨k, o, none⟩) (fun _ => Or.inr rfl) u

def CoB (k lo : Nat) (c : Pu.Co) (w : World) : Prop := ∃ vm vc, Cb k (coC c vm vc) 158 w ∧ CoS w lo vm vc c

theorem CoB.nil {k lo : Nat} {c : Pu.Co} {w : World} (h : Cb k (coC c (.slice none 0 0) (.slice none 0 0)) 158 w) (hm : c.merges = []) (hc : c.changes = []) : CoB k lo c w :=
  ⟨_, _, h, CoS.nil w lo c hm hc⟩

theorem own_slice0 {w : World} {base : Nat} {e : TypeId} {size : Nat} {v : Value} {n : Nat} {xs : List Value} (h : w.ownsRow base e size v n xs) : ∃ av cv, v = .slice av n cv := by
  rcases h.2 with ⟨rfl, rfl⟩ | ⟨g, cap, cur, rfl, _⟩
  · exact ⟨_, _, rfl⟩
  · exact ⟨_, _, rfl⟩

set_option maxHeartbeats 2000000 in
set_option maxRecDepth 100000 in
theorem readBlob_any (b k : Nat) (x s : List UInt8) (bad : Bool) (w : World) (h : Rd b s bad w) (hbk : b < k) (hC : Cb k (coC (Pu.Co.of x) (.slice none 0 0) (.slice none 0 0)) 158 w) :
    Calls Tryz.prog 164 #[.pointer (some ⟨b, 0, none⟩), .pointer (some ⟨k, 0, none⟩)] w fun e w' => e = .returned (.tuple #[]) ∧ Rd b (Pu.readBlob s bad).1 (Pu.readBlob s bad).2 w' ∧ CoB k w.heap.size (Pu.readBlobV s bad (Pu.Co.of x)) w' ∧ Kx (Two b k) w w' := by
  have hkl := hC.lt
  have HE : Hid (Pu.readBlob s bad = (Pu.data (Pu.rmark (Pu.exactly Pu.sBlob s bad).1 (Pu.exactly Pu.sBlob s bad).2).2.1 (Pu.rmark (Pu.exactly Pu.sBlob s bad).1 (Pu.exactly Pu.sBlob s bad).2).2.2).2) := rfl
  have HV : Hid (Pu.readBlobV s bad (Pu.Co.of x) = ⟨x, [], (Pu.rmark (Pu.exactly Pu.sBlob s bad).1 (Pu.exactly Pu.sBlob s bad).2).1, ⟨[], [], 0⟩, (Pu.data (Pu.rmark (Pu.exactly Pu.sBlob s bad).1 (Pu.exactly Pu.sBlob s bad).2).2.1 (Pu.rmark (Pu.exactly Pu.sBlob s bad).1 (Pu.exactly Pu.sBlob s bad).2).2.2).1, ⟨0, []⟩, [], []⟩) := rfl
  have hx0 : Kx (Two b k) w w := Kx.refl _ _
  have hc0 := hC
  unfold coC Pu.Co.of at hc0
  go_enter Tryz.func164, Tryz.ntmps164
  go_wp2_with fail
  refine (exactly_any b s bad Pu.sBlob _ h).mono ?_
  rintro e w1 ⟨rfl, hr1, hk1⟩
  generalize Pu.exactly Pu.sBlob s bad = st1 at *
  obtain ⟨s1, bad1⟩ := st1
  have hc1 : Cb k #[.string ⟨x.toArray⟩, .string ⟨#[]⟩, .int .i64 0, .string ⟨#[]⟩, .string ⟨#[]⟩, .int .i64 0, .string ⟨#[]⟩, .int .i64 0, .string ⟨#[]⟩, .slice none 0 0, .slice none 0 0] 158 w1 := hc0.only hk1 hbk
  have hx1 : Kx (Two b k) w w1 := hx0.trans hk1.two
  go_wp2_with fail
  refine (rmark_any b s1 bad1 _ hr1).mono ?_
  rintro e w2 ⟨rfl, hr2, hk2⟩
  generalize Pu.rmark s1 bad1 = st2 at *
  obtain ⟨q2, s2, bad2⟩ := st2
  have hc2 : Cb k #[.string ⟨x.toArray⟩, .string ⟨#[]⟩, .int .i64 0, .string ⟨#[]⟩, .string ⟨#[]⟩, .int .i64 0, .string ⟨#[]⟩, .int .i64 0, .string ⟨#[]⟩, .slice none 0 0, .slice none 0 0] 158 w2 := hc1.only hk2 hbk
  have hx2 : Kx (Two b k) w w2 := hx1.trans hk2.two
  have e2_2 : w2.cell? ⟨k, 2, none⟩ = some (.int .i64 0) := hc2.cell 2
  have g2_2 := hc2.frozen 2
  go_wp2_with fail
  refine (data_any b s2 bad2 _ (hr2.setNew hbk _)).mono ?_
  rintro e w3 ⟨rfl, hr3, hk3⟩
  generalize Pu.data s2 bad2 = st3 at *
  obtain ⟨q3, s3, bad3⟩ := st3
  have hc3 : Cb k #[.string ⟨x.toArray⟩, .string ⟨#[]⟩, .int .i64 q2, .string ⟨#[]⟩, .string ⟨#[]⟩, .int .i64 0, .string ⟨#[]⟩, .int .i64 0, .string ⟨#[]⟩, .slice none 0 0, .slice none 0 0] 158 w3 := (hc2.set 2 (.int .i64 q2)).only hk3 hbk
  have hx3 : Kx (Two b k) w w3 := (hx2.two_set _).trans hk3.two
  have e3_6 : w3.cell? ⟨k, 6, none⟩ = some (.string ⟨#[]⟩) := hc3.cell 6
  have g3_6 := hc3.frozen 6
  go_wp2
  go_end0
  refine ⟨rfl, by rw [HE.out]; exact (hr3.setNew hbk _), ?_, (hx3.two_set _)⟩
  rw [HV.out]
  exact CoB.nil ((hc3.set 6 (.string ⟨q3.toArray⟩))) rfl rfl

set_option maxHeartbeats 2000000 in
set_option maxRecDepth 100000 in
theorem readTag_any (b k : Nat) (x s : List UInt8) (bad : Bool) (w : World) (h : Rd b s bad w) (hbk : b < k) (hC : Cb k (coC (Pu.Co.of x) (.slice none 0 0) (.slice none 0 0)) 158 w) :
    Calls Tryz.prog 170 #[.pointer (some ⟨b, 0, none⟩), .pointer (some ⟨k, 0, none⟩)] w fun e w' => e = .returned (.tuple #[]) ∧ Rd b (Pu.readTag s bad).1 (Pu.readTag s bad).2 w' ∧ CoB k w.heap.size (Pu.readTagV s bad (Pu.Co.of x)) w' ∧ Kx (Two b k) w w' := by
  have hkl := hC.lt
  have HE : Hid (Pu.readTag s bad = (Pu.data (Pu.which Pu.sFrom (Pu.ref Pu.sTag1 s bad).2.1 (Pu.ref Pu.sTag1 s bad).2.2).1 (Pu.which Pu.sFrom (Pu.ref Pu.sTag1 s bad).2.1 (Pu.ref Pu.sTag1 s bad).2.2).2).2) := rfl
  have HV : Hid (Pu.readTagV s bad (Pu.Co.of x) = ⟨x, (Pu.ref Pu.sTag1 s bad).1, 0, ⟨[], [], 0⟩, (Pu.data (Pu.which Pu.sFrom (Pu.ref Pu.sTag1 s bad).2.1 (Pu.ref Pu.sTag1 s bad).2.2).1 (Pu.which Pu.sFrom (Pu.ref Pu.sTag1 s bad).2.1 (Pu.ref Pu.sTag1 s bad).2.2).2).1, Pu.whichV Pu.sFrom (Pu.ref Pu.sTag1 s bad).2.1 (Pu.ref Pu.sTag1 s bad).2.2, [], []⟩) := rfl
  have hx0 : Kx (Two b k) w w := Kx.refl _ _
  have hc0 := hC
  unfold coC Pu.Co.of at hc0
  go_enter Tryz.func170, Tryz.ntmps170
  go_wp2_with fail
  refine (ref_any b s bad Pu.sTag1 _ h).mono ?_
  rintro e w1 ⟨rfl, hr1, hk1⟩
  generalize Pu.ref Pu.sTag1 s bad = st1 at *
  obtain ⟨q1, s1, bad1⟩ := st1
  have hc1 : Cb k #[.string ⟨x.toArray⟩, .string ⟨#[]⟩, .int .i64 0, .string ⟨#[]⟩, .string ⟨#[]⟩, .int .i64 0, .string ⟨#[]⟩, .int .i64 0, .string ⟨#[]⟩, .slice none 0 0, .slice none 0 0] 158 w1 := hc0.only hk1 hbk
  have hx1 : Kx (Two b k) w w1 := hx0.trans hk1.two
  have e1_1 : w1.cell? ⟨k, 1, none⟩ = some (.string ⟨#[]⟩) := hc1.cell 1
  have g1_1 := hc1.frozen 1
  go_wp2_with fail
  refine (which_any b s1 bad1 Pu.sFrom _ (hr1.setNew hbk _)).mono ?_
  rintro e w2 ⟨rfl, hr2, hk2⟩
  generalize Pu.which Pu.sFrom s1 bad1 = st2 at *
  generalize Pu.whichV Pu.sFrom s1 bad1 = wv2 at *
  obtain ⟨s2, bad2⟩ := st2
  obtain ⟨q2, p2⟩ := wv2
  have hc2 : Cb k #[.string ⟨x.toArray⟩, .string ⟨q1.toArray⟩, .int .i64 0, .string ⟨#[]⟩, .string ⟨#[]⟩, .int .i64 0, .string ⟨#[]⟩, .int .i64 0, .string ⟨#[]⟩, .slice none 0 0, .slice none 0 0] 158 w2 := (hc1.set 1 (.string ⟨q1.toArray⟩)).only hk2 hbk
  have hx2 : Kx (Two b k) w w2 := (hx1.two_set _).trans hk2.two
  have e2_7 : w2.cell? ⟨k, 7, none⟩ = some (.int .i64 0) := hc2.cell 7
  have g2_7 := hc2.frozen 7
  have e2_8 : w2.cell? ⟨k, 8, none⟩ = some (.string ⟨#[]⟩) := hc2.cell 8
  have g2_8 := hc2.frozen 8
  go_wp2_with fail
  refine (data_any b s2 bad2 _ ((hr2.setNew hbk _).setNew hbk _)).mono ?_
  rintro e w3 ⟨rfl, hr3, hk3⟩
  generalize Pu.data s2 bad2 = st3 at *
  obtain ⟨q3, s3, bad3⟩ := st3
  have hc3 : Cb k #[.string ⟨x.toArray⟩, .string ⟨q1.toArray⟩, .int .i64 0, .string ⟨#[]⟩, .string ⟨#[]⟩, .int .i64 0, .string ⟨#[]⟩, .int .i64 q2, .string ⟨p2.toArray⟩, .slice none 0 0, .slice none 0 0] 158 w3 := ((hc2.set 7 (.int .i64 q2)).set 8 (.string ⟨p2.toArray⟩)).only hk3 hbk
  have hx3 : Kx (Two b k) w w3 := ((hx2.two_set _).two_set _).trans hk3.two
  have e3_6 : w3.cell? ⟨k, 6, none⟩ = some (.string ⟨#[]⟩) := hc3.cell 6
  have g3_6 := hc3.frozen 6
  go_wp2
  go_end0
  refine ⟨rfl, by rw [HE.out]; exact (hr3.setNew hbk _), ?_, (hx3.two_set _)⟩
  rw [HV.out]
  exact CoB.nil ((hc3.set 6 (.string ⟨q3.toArray⟩))) rfl rfl

set_option maxHeartbeats 2000000 in
set_option maxRecDepth 100000 in
theorem readReset_any (b k : Nat) (x s : List UInt8) (bad : Bool) (w : World) (h : Rd b s bad w) (hbk : b < k) (hC : Cb k (coC (Pu.Co.of x) (.slice none 0 0) (.slice none 0 0)) 158 w) :
    Calls Tryz.prog 173 #[.pointer (some ⟨b, 0, none⟩), .pointer (some ⟨k, 0, none⟩)] w fun e w' => e = .returned (.tuple #[]) ∧ Rd b (Pu.readReset s bad).1 (Pu.readReset s bad).2 w' ∧ CoB k w.heap.size (Pu.readResetV s bad (Pu.Co.of x)) w' ∧ Kx (Two b k) w w' := by
  have hkl := hC.lt
  have HE : Hid (Pu.readReset s bad = Pu.exactly [] (Pu.fromOr (Pu.ref Pu.sReset1 s bad).2.1 (Pu.ref Pu.sReset1 s bad).2.2).1 (Pu.fromOr (Pu.ref Pu.sReset1 s bad).2.1 (Pu.ref Pu.sReset1 s bad).2.2).2) := rfl
  have HV : Hid (Pu.readResetV s bad (Pu.Co.of x) = ⟨x, (Pu.ref Pu.sReset1 s bad).1, 0, ⟨[], [], 0⟩, [], Pu.fromOrV (Pu.ref Pu.sReset1 s bad).2.1 (Pu.ref Pu.sReset1 s bad).2.2, [], []⟩) := rfl
  have hx0 : Kx (Two b k) w w := Kx.refl _ _
  have hc0 := hC
  unfold coC Pu.Co.of at hc0
  go_enter Tryz.func173, Tryz.ntmps173
  go_wp2_with fail
  refine (ref_any b s bad Pu.sReset1 _ h).mono ?_
  rintro e w1 ⟨rfl, hr1, hk1⟩
  generalize Pu.ref Pu.sReset1 s bad = st1 at *
  obtain ⟨q1, s1, bad1⟩ := st1
  have hc1 : Cb k #[.string ⟨x.toArray⟩, .string ⟨#[]⟩, .int .i64 0, .string ⟨#[]⟩, .string ⟨#[]⟩, .int .i64 0, .string ⟨#[]⟩, .int .i64 0, .string ⟨#[]⟩, .slice none 0 0, .slice none 0 0] 158 w1 := hc0.only hk1 hbk
  have hx1 : Kx (Two b k) w w1 := hx0.trans hk1.two
  have e1_1 : w1.cell? ⟨k, 1, none⟩ = some (.string ⟨#[]⟩) := hc1.cell 1
  have g1_1 := hc1.frozen 1
  go_wp2_with fail
  refine (fromOr_any b s1 bad1 _ (hr1.setNew hbk _)).mono ?_
  rintro e w2 ⟨rfl, hr2, hk2⟩
  generalize Pu.fromOr s1 bad1 = st2 at *
  generalize Pu.fromOrV s1 bad1 = wv2 at *
  obtain ⟨s2, bad2⟩ := st2
  obtain ⟨q2, p2⟩ := wv2
  have hc2 : Cb k #[.string ⟨x.toArray⟩, .string ⟨q1.toArray⟩, .int .i64 0, .string ⟨#[]⟩, .string ⟨#[]⟩, .int .i64 0, .string ⟨#[]⟩, .int .i64 0, .string ⟨#[]⟩, .slice none 0 0, .slice none 0 0] 158 w2 := (hc1.set 1 (.string ⟨q1.toArray⟩)).only hk2 hbk
  have hx2 : Kx (Two b k) w w2 := (hx1.two_set _).trans hk2.two
  have e2_7 : w2.cell? ⟨k, 7, none⟩ = some (.int .i64 0) := hc2.cell 7
  have g2_7 := hc2.frozen 7
  have e2_8 : w2.cell? ⟨k, 8, none⟩ = some (.string ⟨#[]⟩) := hc2.cell 8
  have g2_8 := hc2.frozen 8
  go_wp2_with fail
  refine (exactly_any b s2 bad2 [] _ ((hr2.setNew hbk _).setNew hbk _)).mono ?_
  rintro e w3 ⟨rfl, hr3, hk3⟩
  generalize Pu.exactly [] s2 bad2 = st3 at *
  obtain ⟨s3, bad3⟩ := st3
  have hc3 : Cb k #[.string ⟨x.toArray⟩, .string ⟨q1.toArray⟩, .int .i64 0, .string ⟨#[]⟩, .string ⟨#[]⟩, .int .i64 0, .string ⟨#[]⟩, .int .i64 q2, .string ⟨p2.toArray⟩, .slice none 0 0, .slice none 0 0] 158 w3 := ((hc2.set 7 (.int .i64 q2)).set 8 (.string ⟨p2.toArray⟩)).only hk3 hbk
  have hx3 : Kx (Two b k) w w3 := ((hx2.two_set _).two_set _).trans hk3.two
  go_wp2
  go_end0
  refine ⟨rfl, by rw [HE.out]; exact hr3, ?_, hx3⟩
  rw [HV.out]
  exact CoB.nil (hc3) rfl rfl

set_option maxHeartbeats 2000000 in
set_option maxRecDepth 100000 in
theorem readCommit_any (b k : Nat) (x s : List UInt8) (bad : Bool) (w : World) (h : Rd b s bad w) (hbk : b < k) (hC : Cb k (coC (Pu.Co.of x) (.slice none 0 0) (.slice none 0 0)) 158 w) :
    Calls Tryz.prog 167 #[.pointer (some ⟨b, 0, none⟩), .pointer (some ⟨k, 0, none⟩)] w fun e w' => e = .returned (.tuple #[]) ∧ Rd b (Pu.readCommit s bad).1 (Pu.readCommit s bad).2 w' ∧ CoB k w.heap.size (Pu.readCommitV s bad (Pu.Co.of x)) w' ∧ Kx (Two b k) w w' := by
  have hkl := hC.lt
  have HE : Hid (Pu.readCommit s bad = Pu.changes (Pu.rc6 s bad).1 (Pu.rc6 s bad).2) := Pu.readCommit_rc s bad
  have HV : Hid (Pu.readCommitV s bad (Pu.Co.of x) = ⟨x, (Pu.ref Pu.sCommit1 s bad).1, (Pu.rmark (Pu.rc1 s bad).1 (Pu.rc1 s bad).2).1, Pu.authorV (Pu.rc2 s bad).1 (Pu.rc2 s bad).2, (Pu.data (Pu.rc3 s bad).1 (Pu.rc3 s bad).2).1, Pu.fromOrV (Pu.rc4 s bad).1 (Pu.rc4 s bad).2, Pu.mergesV (Pu.rc5 s bad).1.length (Pu.rc5 s bad).1 (Pu.rc5 s bad).2, Pu.changesAll (Pu.rc6 s bad).1 (Pu.rc6 s bad).2⟩) := rfl
  have R1 : Hid (Pu.rc1 s bad = (Pu.ref Pu.sCommit1 s bad).2) := rfl
  have R2 : Hid (Pu.rc2 s bad = (Pu.rmark (Pu.rc1 s bad).1 (Pu.rc1 s bad).2).2) := rfl
  have R3 : Hid (Pu.rc3 s bad = Pu.author (Pu.rc2 s bad).1 (Pu.rc2 s bad).2) := rfl
  have R4 : Hid (Pu.rc4 s bad = (Pu.data (Pu.rc3 s bad).1 (Pu.rc3 s bad).2).2) := rfl
  have R5 : Hid (Pu.rc5 s bad = Pu.fromOr (Pu.rc4 s bad).1 (Pu.rc4 s bad).2) := rfl
  have R6 : Hid (Pu.rc6 s bad = Pu.merges (Pu.rc5 s bad).1 (Pu.rc5 s bad).2) := rfl
  have hx0 : Kx (Two b k) w w := Kx.refl _ _
  have hc0 := hC
  unfold coC Pu.Co.of at hc0
  go_enter Tryz.func167, Tryz.ntmps167
  go_wp2_with fail
  refine (ref_any b s bad Pu.sCommit1 _ h).mono ?_
  rintro e w1 ⟨rfl, hr1, hk1⟩
  generalize Pu.ref Pu.sCommit1 s bad = st1 at *
  obtain ⟨q1, s1, bad1⟩ := st1
  rw [R1.out] at R2 HV
  have hc1 : Cb k #[.string ⟨x.toArray⟩, .string ⟨#[]⟩, .int .i64 0, .string ⟨#[]⟩, .string ⟨#[]⟩, .int .i64 0, .string ⟨#[]⟩, .int .i64 0, .string ⟨#[]⟩, .slice none 0 0, .slice none 0 0] 158 w1 := hc0.only hk1 hbk
  have hx1 : Kx (Two b k) w w1 := hx0.trans hk1.two
  have e1_1 : w1.cell? ⟨k, 1, none⟩ = some (.string ⟨#[]⟩) := hc1.cell 1
  have g1_1 := hc1.frozen 1
  go_wp2_with fail
  refine (rmark_any b s1 bad1 _ (hr1.setNew hbk _)).mono ?_
  rintro e w2 ⟨rfl, hr2, hk2⟩
  generalize Pu.rmark s1 bad1 = st2 at *
  obtain ⟨q2, s2, bad2⟩ := st2
  rw [R2.out] at R3 HV
  have hc2 : Cb k #[.string ⟨x.toArray⟩, .string ⟨q1.toArray⟩, .int .i64 0, .string ⟨#[]⟩, .string ⟨#[]⟩, .int .i64 0, .string ⟨#[]⟩, .int .i64 0, .string ⟨#[]⟩, .slice none 0 0, .slice none 0 0] 158 w2 := (hc1.set 1 (.string ⟨q1.toArray⟩)).only hk2 hbk
  have hx2 : Kx (Two b k) w w2 := (hx1.two_set _).trans hk2.two
  have e2_2 : w2.cell? ⟨k, 2, none⟩ = some (.int .i64 0) := hc2.cell 2
  have g2_2 := hc2.frozen 2
  go_wp2_with fail
  refine (author_any b s2 bad2 _ (hr2.setNew hbk _)).mono ?_
  rintro e w3 ⟨rfl, hr3, hk3⟩
  generalize Pu.author s2 bad2 = st3 at *
  generalize Pu.authorV s2 bad2 = av3 at *
  obtain ⟨s3, bad3⟩ := st3
  obtain ⟨q3, p3, o3⟩ := av3
  rw [R3.out] at R4 HV
  have hc3 : Cb k #[.string ⟨x.toArray⟩, .string ⟨q1.toArray⟩, .int .i64 q2, .string ⟨#[]⟩, .string ⟨#[]⟩, .int .i64 0, .string ⟨#[]⟩, .int .i64 0, .string ⟨#[]⟩, .slice none 0 0, .slice none 0 0] 158 w3 := (hc2.set 2 (.int .i64 q2)).only hk3 hbk
  have hx3 : Kx (Two b k) w w3 := (hx2.two_set _).trans hk3.two
  have e3_3 : w3.cell? ⟨k, 3, none⟩ = some (.string ⟨#[]⟩) := hc3.cell 3
  have g3_3 := hc3.frozen 3
  have e3_4 : w3.cell? ⟨k, 4, none⟩ = some (.string ⟨#[]⟩) := hc3.cell 4
  have g3_4 := hc3.frozen 4
  have e3_5 : w3.cell? ⟨k, 5, none⟩ = some (.int .i64 0) := hc3.cell 5
  have g3_5 := hc3.frozen 5
  go_wp2_with fail
  refine (data_any b s3 bad3 _ (((hr3.setNew hbk _).setNew hbk _).setNew hbk _)).mono ?_
  rintro e w4 ⟨rfl, hr4, hk4⟩
  generalize Pu.data s3 bad3 = st4 at *
  obtain ⟨q4, s4, bad4⟩ := st4
  rw [R4.out] at R5 HV
  have hc4 : Cb k #[.string ⟨x.toArray⟩, .string ⟨q1.toArray⟩, .int .i64 q2, .string ⟨q3.toArray⟩, .string ⟨p3.toArray⟩, .int .i64 o3, .string ⟨#[]⟩, .int .i64 0, .string ⟨#[]⟩, .slice none 0 0, .slice none 0 0] 158 w4 := (((hc3.set 3 (.string ⟨q3.toArray⟩)).set 4 (.string ⟨p3.toArray⟩)).set 5 (.int .i64 o3)).only hk4 hbk
  have hx4 : Kx (Two b k) w w4 := (((hx3.two_set _).two_set _).two_set _).trans hk4.two
  have e4_6 : w4.cell? ⟨k, 6, none⟩ = some (.string ⟨#[]⟩) := hc4.cell 6
  have g4_6 := hc4.frozen 6
  go_wp2_with fail
  refine (fromOr_any b s4 bad4 _ (hr4.setNew hbk _)).mono ?_
  rintro e w5 ⟨rfl, hr5, hk5⟩
  generalize Pu.fromOr s4 bad4 = st5 at *
  generalize Pu.fromOrV s4 bad4 = wv5 at *
  obtain ⟨s5, bad5⟩ := st5
  obtain ⟨q5, p5⟩ := wv5
  rw [R5.out] at R6 HV
  have hc5 : Cb k #[.string ⟨x.toArray⟩, .string ⟨q1.toArray⟩, .int .i64 q2, .string ⟨q3.toArray⟩, .string ⟨p3.toArray⟩, .int .i64 o3, .string ⟨q4.toArray⟩, .int .i64 0, .string ⟨#[]⟩, .slice none 0 0, .slice none 0 0] 158 w5 := (hc4.set 6 (.string ⟨q4.toArray⟩)).only hk5 hbk
  have hx5 : Kx (Two b k) w w5 := (hx4.two_set _).trans hk5.two
  have e5_7 : w5.cell? ⟨k, 7, none⟩ = some (.int .i64 0) := hc5.cell 7
  have g5_7 := hc5.frozen 7
  have e5_8 : w5.cell? ⟨k, 8, none⟩ = some (.string ⟨#[]⟩) := hc5.cell 8
  have g5_8 := hc5.frozen 8
  go_wp2_with fail
  refine (merges_any b s5 bad5 _ ((hr5.setNew hbk _).setNew hbk _)).mono ?_
  rintro e w6 ⟨⟨v6, rfl, ho6⟩, hr6, hk6⟩
  obtain ⟨av6, cv6, hv6⟩ := own_slice0 ho6
  generalize Pu.merges s5 bad5 = st6 at *
  generalize Pu.mergesV s5.length s5 bad5 = lv6 at *
  obtain ⟨s6, bad6⟩ := st6
  subst hv6
  rw [R6.out] at HE HV
  have hc6 : Cb k #[.string ⟨x.toArray⟩, .string ⟨q1.toArray⟩, .int .i64 q2, .string ⟨q3.toArray⟩, .string ⟨p3.toArray⟩, .int .i64 o3, .string ⟨q4.toArray⟩, .int .i64 q5, .string ⟨p5.toArray⟩, .slice none 0 0, .slice none 0 0] 158 w6 := ((hc5.set 7 (.int .i64 q5)).set 8 (.string ⟨p5.toArray⟩)).only hk6 hbk
  have hx6 : Kx (Two b k) w w6 := ((hx5.two_set _).two_set _).trans hk6.two
  have e6_9 : w6.cell? ⟨k, 9, none⟩ = some (.slice none 0 0) := hc6.cell 9
  have g6_9 := hc6.frozen 9
  go_wp2_with fail
  refine (changes_any b s6 bad6 _ (hr6.setNew hbk _)).mono ?_
  rintro e w7 ⟨⟨v7, rfl, ho7⟩, hr7, hk7⟩
  obtain ⟨av7, cv7, hv7⟩ := own_slice0 ho7
  generalize Pu.changes s6 bad6 = st7 at *
  generalize Pu.changesAll s6 bad6 = lv7 at *
  obtain ⟨s7, bad7⟩ := st7
  subst hv7
  have hc7 : Cb k #[.string ⟨x.toArray⟩, .string ⟨q1.toArray⟩, .int .i64 q2, .string ⟨q3.toArray⟩, .string ⟨p3.toArray⟩, .int .i64 o3, .string ⟨q4.toArray⟩, .int .i64 q5, .string ⟨p5.toArray⟩, .slice av6 lv6.length cv6, .slice none 0 0] 158 w7 := (hc6.set 9 (.slice av6 lv6.length cv6)).only hk7 hbk
  have hx7 : Kx (Two b k) w w7 := (hx6.two_set _).trans hk7.two
  have e7_10 : w7.cell? ⟨k, 10, none⟩ = some (.slice none 0 0) := hc7.cell 10
  have g7_10 := hc7.frozen 10
  go_wp2
  go_end0
  refine ⟨rfl, by rw [HE.out]; exact (hr7.setNew hbk _), ?_, (hx7.two_set _)⟩
  rw [HV.out]
  refine ⟨_, _, (hc7.set 10 (.slice av7 lv7.length cv7)), ?_⟩
  have hms : CoS w7 w.heap.size (.slice av6 lv6.length cv6) (.slice av7 lv7.length cv7) ⟨x, q1, q2, ⟨q3, p3, o3⟩, q4, ⟨q5, p5⟩, lv6, lv7⟩ := by
    have hkm : Kx (Two b k) w6 w7 := (((Kx.refl (Two b k) w6).two_set _)).trans hk7.two
    have hl6 := ho6.lt
    have hl7 := ho7.lt
    have hs5 : w.heap.size ≤ w5.heap.size := hx5.size
    have hs6 : w.heap.size ≤ w6.heap.size := hx6.size
    simp only [World.size_setCell] at hl6 hl7
    refine ⟨(Reads.of_own ho6).kept hkm (fun j e => ?_), Reads.of_own ho7, fun j e => ⟨Nat.le_trans hs5 (hl6 j e).1, Nat.lt_of_lt_of_le (hl6 j e).2 hkm.size⟩, fun j e => ⟨Nat.le_trans hs6 (hl7 j e).1, (hl7 j e).2⟩⟩
    have := (hl6 j e).1
    rintro (e2 | e2) <;> omega
  exact hms.kept ((Kx.refl (Only k) _).only_set _) (fun j hj _ e => by unfold Only at e; omega)

structure Tbl (w w' : World) : Prop where
  size : w'.heap.size = w.heap.size + 1
  tbl : Cb w.heap.size #[.string ⟨#[98, 108, 111, 98]⟩, .func (.func 164) #[] #[], .func (.func 165) #[] #[], .func (.func 166) #[] #[], .string ⟨#[99, 111, 109, 109, 105, 116]⟩, .func (.func 167) #[] #[], .func (.func 168) #[] #[], .func (.func 169) #[] #[], .string ⟨#[116, 97, 103]⟩, .func (.func 170) #[] #[], .func (.func 171) #[] #[], .func (.func 172) #[] #[], .string ⟨#[114, 101, 115, 101, 116]⟩, .func (.func 173) #[] #[], .func (.func 174) #[] #[], .func (.func 175) #[] #[]] 163 w'
  kx : ∀ X, Kx X w w'

set_option maxHeartbeats 400000 in
theorem table_any (w : World) :
    Calls Tryz.prog 123 #[] w fun e w' => e = .returned (.slice (some ⟨w.heap.size, 0, none⟩) 4 4) ∧ Tbl w w' := by
  go_enter Tryz.func123, Tryz.ntmps123
  go_wp2
  go_ret
  exact ⟨rfl, by simp, Cb.new _ _ _, fun X => (Kx.refl X w).alloc _⟩

theorem Kx.trans' {X Y : Nat → Prop} {a c d : World} (h : Kx X a c) (k : Kx Y c d) (hXY : ∀ j, j < a.heap.size → Y j → X j) : Kx X a d :=
  ⟨k.os.trans h.os, k.tape.trans h.tape, k.output.trans h.output, Nat.le_trans h.size k.size,
   fun i hi hx => (k.block i (Nat.lt_of_lt_of_le hi h.size) (fun y => hx (hXY i hi y))).trans (h.block i hi hx)⟩

def rowV (x : List UInt8) : Value × Bool :=
  if x = [98, 108, 111, 98] then (.agg #[.string ⟨#[98, 108, 111, 98]⟩, .func (.func 164) #[] #[], .func (.func 165) #[] #[], .func (.func 166) #[] #[]], true)
  else if x = [99, 111, 109, 109, 105, 116] then (.agg #[.string ⟨#[99, 111, 109, 109, 105, 116]⟩, .func (.func 167) #[] #[], .func (.func 168) #[] #[], .func (.func 169) #[] #[]], true)
  else if x = [116, 97, 103] then (.agg #[.string ⟨#[116, 97, 103]⟩, .func (.func 170) #[] #[], .func (.func 171) #[] #[], .func (.func 172) #[] #[]], true)
  else if x = [114, 101, 115, 101, 116] then (.agg #[.string ⟨#[114, 101, 115, 101, 116]⟩, .func (.func 173) #[] #[], .func (.func 174) #[] #[], .func (.func 175) #[] #[]], true)
  else (.agg #[.string ⟨#[]⟩, .nilFunc, .nilFunc, .nilFunc], false)

set_option maxHeartbeats 4000000 in
set_option maxRecDepth 100000 in
theorem find_any (x : List UInt8) (w : World) :
    Calls Tryz.prog 81 #[.string ⟨x.toArray⟩] w fun e w' => e = .returned (.tuple #[(rowV x).1, .bool (rowV x).2]) ∧ Kx (fun _ => False) w w' := by
  have hR0 := Cb.new #[.string ⟨#[]⟩, .nilFunc, .nilFunc, .nilFunc] 163 w
  have hx0 := (Kx.refl (fun _ => False) w).alloc (.cells #[.string ⟨#[]⟩, .nilFunc, .nilFunc, .nilFunc] 163)
  go_enter Tryz.func81, Tryz.ntmps81
  go_wp2_with fail
  refine (table_any _).mono ?_
  rintro e W ⟨rfl, hW⟩
  have hR1 : Cb w.heap.size #[.string ⟨#[]⟩, .nilFunc, .nilFunc, .nilFunc] 163 W := hR0.kept (hW.kx (fun _ => False)) id
  have hx1 : Kx (fun _ => False) w W := hx0.trans (hW.kx _)
  have hT1 : Cb (w.heap.size + 1) #[.string ⟨#[98, 108, 111, 98]⟩, .func (.func 164) #[] #[], .func (.func 165) #[] #[], .func (.func 166) #[] #[], .string ⟨#[99, 111, 109, 109, 105, 116]⟩, .func (.func 167) #[] #[], .func (.func 168) #[] #[], .func (.func 169) #[] #[], .string ⟨#[116, 97, 103]⟩, .func (.func 170) #[] #[], .func (.func 171) #[] #[], .func (.func 172) #[] #[], .string ⟨#[114, 101, 115, 101, 116]⟩, .func (.func 173) #[] #[], .func (.func 174) #[] #[], .func (.func 175) #[] #[]] 163 W := by have := hW.tbl; simpa using this
  clear hW hR0 hx0
  obtain ⟨D, HD⟩ : ∃ D, Hid (w.heap.size = D) := ⟨_, rfl⟩
  have hDD : w.heap.size = D := HD.out
  simp only [World.size_alloc]
  rw [hDD] at hR1 hT1 ⊢
  clear hDD
  go_wp2
  go_loopw [8] (fun iv w' => ∃ k : Nat, iv = .int .i64 k ∧ k ≤ 4 ∧ (∀ j u, j < k → [[98, 108, 111, 98], [99, 111, 109, 109, 105, 116], [116, 97, 103], [114, 101, 115, 101, 116]][j]? = some u → x ≠ u) ∧ Kx (fun _ => False) w w' ∧ Cb D #[.string ⟨#[]⟩, .nilFunc, .nilFunc, .nilFunc] 163 w' ∧ Cb (D + 1) #[.string ⟨#[98, 108, 111, 98]⟩, .func (.func 164) #[] #[], .func (.func 165) #[] #[], .func (.func 166) #[] #[], .string ⟨#[99, 111, 109, 109, 105, 116]⟩, .func (.func 167) #[] #[], .func (.func 168) #[] #[], .func (.func 169) #[] #[], .string ⟨#[116, 97, 103]⟩, .func (.func 170) #[] #[], .func (.func 171) #[] #[], .func (.func 172) #[] #[], .string ⟨#[114, 101, 115, 101, 116]⟩, .func (.func 173) #[] #[], .func (.func 174) #[] #[], .func (.func 175) #[] #[]] 163 w') (fun iv _ => 4 - (intOf iv).toNat)
  case atStart => exact ⟨0, rfl, by omega, fun j u hj => absurd hj (by omega), hx1, hR1, hT1⟩
  case round =>
    clear hR1 hT1 hx1
    obtain ⟨k, rfl, hk4, hno, hk, hR, hT⟩ := hrel
    have HK : Hid (Kx (fun _ => False) w wr) := hk
    have hsz := hT.lt
    have hDle : w.heap.size ≤ D := Nat.le_of_eq HD.out
    have hDl : D < wr.heap.size := by omega
    have y0 := hR.cell 0
    have y1 := hR.cell 1
    have y2 := hR.cell 2
    have y3 := hR.cell 3
    have fy := hR.frozen
    have hcase : k = 0 ∨ k = 1 ∨ k = 2 ∨ k = 3 ∨ k = 4 := by omega
    rcases hcase with hk0 | hk1 | hk2 | hk3 | hk4
    · subst hk0
      have t0 := hT.cell 0
      have t1 := hT.cell 1
      have t2 := hT.cell 2
      have t3 := hT.cell 3
      by_cases hx : x = [98, 108, 111, 98]
      · have HE : Hid (rowV x = (.agg #[.string ⟨#[98, 108, 111, 98]⟩, .func (.func 164) #[] #[], .func (.func 165) #[] #[], .func (.func 166) #[] #[]], true)) := by
          show _ = _
          subst hx
          rfl
        subst hx
        clear hno hk
        go_wp2
        refine bodyPost_ret (v := .tuple #[.agg #[.string ⟨#[98, 108, 111, 98]⟩, .func (.func 164) #[] #[], .func (.func 165) #[] #[], .func (.func 166) #[] #[]], .bool true]) (by simp [results, Tryz.results81, go_sem, y0, y1, y2, y3, hDl]) rfl ⟨by rw [HE.out], ?_⟩
        exact ((((HK.out.setNew (p := ⟨D, 0, none⟩) hDle _).setNew (p := ⟨D, 1, none⟩) hDle _).setNew (p := ⟨D, 2, none⟩) hDle _).setNew (p := ⟨D, 3, none⟩) hDle _).alloc _
      · have hxb : ([98, 108, 111, 98] == x) = false := by simpa using fun e : [98, 108, 111, 98] = x => hx e.symm
        have hno2 : ∀ j u, j < 0 + 1 → [[98, 108, 111, 98], [99, 111, 109, 109, 105, 116], [116, 97, 103], [114, 101, 115, 101, 116]][j]? = some u → x ≠ u := by
          intro j u hj hu
          by_cases e : j = 0
          · subst e
            simp at hu
            subst hu
            exact hx
          · exact hno j u (by omega) hu
        have HN : Hid (∀ j u, j < 0 + 1 → [[98, 108, 111, 98], [99, 111, 109, 109, 105, 116], [116, 97, 103], [114, 101, 115, 101, 116]][j]? = some u → x ≠ u) := hno2
        clear hno hno2 hx
        go_wp2
        go_roundw
        case rel => exact ⟨0 + 1, by go_num, by omega, HN.out, HK.out.alloc _, hR.alloc _, hT.alloc _⟩
        case measure => simp [intOf]
    · subst hk1
      have t0 := hT.cell 4
      have t1 := hT.cell 5
      have t2 := hT.cell 6
      have t3 := hT.cell 7
      by_cases hx : x = [99, 111, 109, 109, 105, 116]
      · have HE : Hid (rowV x = (.agg #[.string ⟨#[99, 111, 109, 109, 105, 116]⟩, .func (.func 167) #[] #[], .func (.func 168) #[] #[], .func (.func 169) #[] #[]], true)) := by
          show _ = _
          subst hx
          rfl
        subst hx
        clear hno hk
        go_wp2
        refine bodyPost_ret (v := .tuple #[.agg #[.string ⟨#[99, 111, 109, 109, 105, 116]⟩, .func (.func 167) #[] #[], .func (.func 168) #[] #[], .func (.func 169) #[] #[]], .bool true]) (by simp [results, Tryz.results81, go_sem, y0, y1, y2, y3, hDl]) rfl ⟨by rw [HE.out], ?_⟩
        exact ((((HK.out.setNew (p := ⟨D, 0, none⟩) hDle _).setNew (p := ⟨D, 1, none⟩) hDle _).setNew (p := ⟨D, 2, none⟩) hDle _).setNew (p := ⟨D, 3, none⟩) hDle _).alloc _
      · have hxb : ([99, 111, 109, 109, 105, 116] == x) = false := by simpa using fun e : [99, 111, 109, 109, 105, 116] = x => hx e.symm
        have hno2 : ∀ j u, j < 1 + 1 → [[98, 108, 111, 98], [99, 111, 109, 109, 105, 116], [116, 97, 103], [114, 101, 115, 101, 116]][j]? = some u → x ≠ u := by
          intro j u hj hu
          by_cases e : j = 1
          · subst e
            simp at hu
            subst hu
            exact hx
          · exact hno j u (by omega) hu
        have HN : Hid (∀ j u, j < 1 + 1 → [[98, 108, 111, 98], [99, 111, 109, 109, 105, 116], [116, 97, 103], [114, 101, 115, 101, 116]][j]? = some u → x ≠ u) := hno2
        clear hno hno2 hx
        go_wp2
        go_roundw
        case rel => exact ⟨1 + 1, by go_num, by omega, HN.out, HK.out.alloc _, hR.alloc _, hT.alloc _⟩
        case measure => simp [intOf]
    · subst hk2
      have t0 := hT.cell 8
      have t1 := hT.cell 9
      have t2 := hT.cell 10
      have t3 := hT.cell 11
      by_cases hx : x = [116, 97, 103]
      · have HE : Hid (rowV x = (.agg #[.string ⟨#[116, 97, 103]⟩, .func (.func 170) #[] #[], .func (.func 171) #[] #[], .func (.func 172) #[] #[]], true)) := by
          show _ = _
          subst hx
          rfl
        subst hx
        clear hno hk
        go_wp2
        refine bodyPost_ret (v := .tuple #[.agg #[.string ⟨#[116, 97, 103]⟩, .func (.func 170) #[] #[], .func (.func 171) #[] #[], .func (.func 172) #[] #[]], .bool true]) (by simp [results, Tryz.results81, go_sem, y0, y1, y2, y3, hDl]) rfl ⟨by rw [HE.out], ?_⟩
        exact ((((HK.out.setNew (p := ⟨D, 0, none⟩) hDle _).setNew (p := ⟨D, 1, none⟩) hDle _).setNew (p := ⟨D, 2, none⟩) hDle _).setNew (p := ⟨D, 3, none⟩) hDle _).alloc _
      · have hxb : ([116, 97, 103] == x) = false := by simpa using fun e : [116, 97, 103] = x => hx e.symm
        have hno2 : ∀ j u, j < 2 + 1 → [[98, 108, 111, 98], [99, 111, 109, 109, 105, 116], [116, 97, 103], [114, 101, 115, 101, 116]][j]? = some u → x ≠ u := by
          intro j u hj hu
          by_cases e : j = 2
          · subst e
            simp at hu
            subst hu
            exact hx
          · exact hno j u (by omega) hu
        have HN : Hid (∀ j u, j < 2 + 1 → [[98, 108, 111, 98], [99, 111, 109, 109, 105, 116], [116, 97, 103], [114, 101, 115, 101, 116]][j]? = some u → x ≠ u) := hno2
        clear hno hno2 hx
        go_wp2
        go_roundw
        case rel => exact ⟨2 + 1, by go_num, by omega, HN.out, HK.out.alloc _, hR.alloc _, hT.alloc _⟩
        case measure => simp [intOf]
    · subst hk3
      have t0 := hT.cell 12
      have t1 := hT.cell 13
      have t2 := hT.cell 14
      have t3 := hT.cell 15
      by_cases hx : x = [114, 101, 115, 101, 116]
      · have HE : Hid (rowV x = (.agg #[.string ⟨#[114, 101, 115, 101, 116]⟩, .func (.func 173) #[] #[], .func (.func 174) #[] #[], .func (.func 175) #[] #[]], true)) := by
          show _ = _
          subst hx
          rfl
        subst hx
        clear hno hk
        go_wp2
        refine bodyPost_ret (v := .tuple #[.agg #[.string ⟨#[114, 101, 115, 101, 116]⟩, .func (.func 173) #[] #[], .func (.func 174) #[] #[], .func (.func 175) #[] #[]], .bool true]) (by simp [results, Tryz.results81, go_sem, y0, y1, y2, y3, hDl]) rfl ⟨by rw [HE.out], ?_⟩
        exact ((((HK.out.setNew (p := ⟨D, 0, none⟩) hDle _).setNew (p := ⟨D, 1, none⟩) hDle _).setNew (p := ⟨D, 2, none⟩) hDle _).setNew (p := ⟨D, 3, none⟩) hDle _).alloc _
      · have hxb : ([114, 101, 115, 101, 116] == x) = false := by simpa using fun e : [114, 101, 115, 101, 116] = x => hx e.symm
        have hno2 : ∀ j u, j < 3 + 1 → [[98, 108, 111, 98], [99, 111, 109, 109, 105, 116], [116, 97, 103], [114, 101, 115, 101, 116]][j]? = some u → x ≠ u := by
          intro j u hj hu
          by_cases e : j = 3
          · subst e
            simp at hu
            subst hu
            exact hx
          · exact hno j u (by omega) hu
        have HN : Hid (∀ j u, j < 3 + 1 → [[98, 108, 111, 98], [99, 111, 109, 109, 105, 116], [116, 97, 103], [114, 101, 115, 101, 116]][j]? = some u → x ≠ u) := hno2
        clear hno hno2 hx
        go_wp2
        go_roundw
        case rel => exact ⟨3 + 1, by go_num, by omega, HN.out, HK.out.alloc _, hR.alloc _, hT.alloc _⟩
        case measure => simp [intOf]
    · subst hk4
      have HE : Hid (rowV x = (.agg #[.string ⟨#[]⟩, .nilFunc, .nilFunc, .nilFunc], false)) := by
        show _ = _
        unfold rowV
        rw [if_neg (hno 0 _ (by omega) rfl), if_neg (hno 1 _ (by omega) rfl), if_neg (hno 2 _ (by omega) rfl), if_neg (hno 3 _ (by omega) rfl)]
      clear hno hk
      go_wp2
      refine bodyPost_ret (v := .tuple #[.agg #[.string ⟨#[]⟩, .nilFunc, .nilFunc, .nilFunc], .bool false]) (by simp [results, Tryz.results81, go_sem, y0, y1, y2, y3]) rfl ⟨by rw [HE.out], ?_⟩
      exact (((HK.out.setNew (p := ⟨D, 0, none⟩) hDle _).setNew (p := ⟨D, 1, none⟩) hDle _).setNew (p := ⟨D, 2, none⟩) hDle _).setNew (p := ⟨D, 3, none⟩) hDle _

theorem map_ne {w : World} {b n k : Nat} {f : List UInt8 → Option Value} {cs : Array Value} {t : TypeId} (h : MpS w b n f) (hc : Cb k cs t w) : k ≠ b := by
  intro e
  subst e
  obtain ⟨D, ⟨es, clock, hb, _⟩, _⟩ := h
  unfold Cb at hc
  rw [hc] at hb
  cases hb

theorem objF_or (g s : Objs) : orE (objF g) (objF s) = objF (orE g s) := by
  funext k
  unfold orE objF
  dsimp only
  cases g k <;> rfl

theorem ComF.or {M : Nat → Prop} {w : World} {f f' : List UInt8 → Option Value} {g s : List UInt8 → Option Com} (h : ComF M w f g) (h' : ComF M w f' s) : ComF M w (orE f f') (orE g s) := by
  intro k
  unfold orE
  cases hg : g k with
  | none =>
    rw [(h k).1 hg]
    exact h' k
  | some c =>
    obtain ⟨b, h1, h2⟩ := (h k).2 c hg
    rw [h1]
    exact ⟨fun e => (by cases e), fun c' e => by cases e; exact ⟨b, rfl, h2⟩⟩

theorem TagF.or {M : Nat → Prop} {w : World} {f f' : List UInt8 → Option Value} {g s : List UInt8 → Option (List UInt8)} (h : TagF M w f g) (h' : TagF M w f' s) : TagF M w (orE f f') (orE g s) := by
  intro k
  unfold orE
  cases hg : g k with
  | none =>
    rw [(h k).1 hg]
    exact h' k
  | some c =>
    obtain ⟨b, h1, h2⟩ := (h k).2 c hg
    rw [h1]
    exact ⟨fun e => (by cases e), fun c' e => by cases e; exact ⟨b, rfl, h2⟩⟩

theorem RefF.over {M : Nat → Prop} {w : World} {f f' : List UInt8 → Option Value} {g : List UInt8 → Option (Option Com)} {s : List UInt8 → Option Com} (h : RefF M w f g) (h' : ComF M w f' s) : ComF M w (refE f f') (refO g s) := by
  intro k
  unfold refE refO
  cases hg : g k with
  | none =>
    rw [(h k).1 hg]
    exact h' k
  | some x =>
    cases x with
    | none =>
      rw [(h k).2.1 hg]
      exact ⟨fun _ => rfl, fun c e => by cases e⟩
    | some c =>
      obtain ⟨b, h1, h2⟩ := (h k).2.2 c hg
      rw [h1]
      exact ⟨fun e => (by cases e), fun c' e => by cases e; exact ⟨b, rfl, h2⟩⟩

theorem RefF.ptr {M : Nat → Prop} {w : World} {f : List UInt8 → Option Value} {g : List UInt8 → Option (Option Com)} (h : RefF M w f g) : ∀ k v, f k = some v → v = .pointer none ∨ ∃ a, v = .pointer (some a) := by
  intro k v hv
  cases hg : g k with
  | none => rw [(h k).1 hg] at hv; cases hv
  | some x =>
    cases x with
    | none =>
      rw [(h k).2.1 hg] at hv
      cases hv
      exact .inl rfl
    | some c =>
      obtain ⟨b, h1, _⟩ := (h k).2.2 c hg
      rw [h1] at hv
      cases hv
      exact .inr ⟨_, rfl⟩

theorem RefF.mono' {M M' : Nat → Prop} {w : World} {f : List UInt8 → Option Value} {g : List UInt8 → Option (Option Com)} (h : RefF M w f g) (hM : ∀ k, k < w.heap.size → M' k → M k) : RefF M' w f g :=
  fun k => ⟨(h k).1, (h k).2.1, fun c e => let ⟨b, h1, h2⟩ := (h k).2.2 c e; ⟨b, h1, h2.mono hM⟩⟩

theorem keepW_any {M M' : Nat → Prop} {w : World} {B : Bl} {h o c r t n n' : Nat} {S : St} {W : Wk} (hw : Wrk M' w B n' S W) (hp : B.Past h o c r t) (hs : Sto M w h o c r t n S) (hM : ∀ k, M k → M' k) (hX : ∀ k, B.X k → ¬ M k) (hn : n + n' ≤ maxLen) :
    Calls Tryz.prog 82 #[.pointer (some ⟨B.d, 0, none⟩)] w fun e w' => e = .returned (.tuple #[]) ∧ Sto M w' h o c r t (n + n') W.st ∧ Kx (Fo o c r t) w w' := by
  obtain ⟨q, d, p, m, mb, kb, po, pc, pr, pt, mo, mc, mr, mt⟩ := B
  obtain ⟨rfl, rfl, rfl, rfl, rfl⟩ := hp
  simp only at *
  obtain ⟨g1, k1, e1⟩ := hw.objs
  obtain ⟨g2, f2, k2, c2, e2⟩ := hw.coms
  obtain ⟨g3, f3, k3, c3, e3⟩ := hw.refs
  obtain ⟨g4, f4, k4, c4, e4⟩ := hw.tags
  obtain ⟨s2, a2, b2⟩ := hs.com
  obtain ⟨s3, a3, b3⟩ := hs.ref
  obtain ⟨s4, a4, b4⟩ := hs.tag
  have hx := hw.sep
  have nF : ∀ k, ¬ M k → ¬ Fo po pc pr pt k := fun k hk e => hk (hs.inM k e)
  have cF : ∀ {k : Nat} {cs : Array Value} {ty : TypeId}, Cb k cs ty w → ¬ Fo po pc pr pt k := fun hc e => by
    rcases e with e | e | e | e
    · exact map_ne hs.obj hc e
    · exact map_ne a2 hc e
    · exact map_ne a3 hc e
    · exact map_ne a4 hc e
  have ha : Apart d p m po pc pr pt mo mc mr mt := ⟨cF hw.dr, nF _ hs.outM, cF hw.hm, nF _ (hX _ (.inl rfl)), nF _ (hX _ (.inr (.inl rfl))), nF _ (hX _ (.inr (.inr (.inl rfl)))), nF _ (hX _ (.inr (.inr (.inr (.inl rfl))))), hs.sep⟩
  refine (keep_any d p m po pc pr pt mo mc mr mt n n' (objF S.obj) s2 s3 s4 f2 f3 f4 g1 w hw.dr hs.hi hw.hm hs.obj k1 a2 k2 a3 k3 a4 k4 c3.ptr hn ha).mono ?_
  rintro _ w' ⟨rfl, r1, r2, r3, r4, hk⟩
  have hFM : ∀ k, k < w.heap.size → Fo po pc pr pt k → M k := fun k _ e => hs.inM k e
  have hMM : ∀ k, k < w.heap.size → M k → M' k := fun k _ e => hM k e
  refine ⟨rfl, ⟨hs.hi.kept hk (nF _ hs.outM), by rw [e1, ← objF_or]; exact r1, ⟨_, r2, by rw [e2]; exact ((c2.mono hMM).or b2).kept hk hFM⟩, ⟨_, r3, by rw [e3]; exact RefF.over ((RefF.mono' c3 hMM).kept hk hFM) (b3.kept hk hFM)⟩, ⟨_, r4, by rw [e4]; exact ((c4.mono hMM).or b4).kept hk hFM⟩, hs.inM, hs.outM, hs.sep, fun k e => ⟨(hs.lowM k e).1, Nat.lt_of_lt_of_le (hs.lowM k e).2 hk.size⟩⟩, hk⟩

end Go.Proofs.YtepgoppgblfjbaaGreatDoor
