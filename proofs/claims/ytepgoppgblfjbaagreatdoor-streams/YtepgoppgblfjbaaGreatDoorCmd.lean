/- A command as cells, and the functions that read one. -/
import Derived.Test.YtepgoppgblfjbaaGreatDoorChanges
namespace Go.Proofs.YtepgoppgblfjbaaGreatDoor
open Go.RowKit

/-- The reader's block and the command's. -/
def Two (b k : Nat) : Nat → Prop := fun j => j = b ∨ j = k

theorem Kx.two {b k : Nat} {w w' : World} (h : Kx (Only b) w w') : Kx (Two b k) w w' := h.mono (fun _ _ e => Or.inl e)

theorem Kx.two_set {b k o : Nat} {a w : World} (h : Kx (Two b k) a w) (u : Value) : Kx (Two b k) a (w.setCell ⟨k, o, none⟩ u) :=
  h.setCell (p := ⟨k, o, none⟩) (fun _ => Or.inr rfl) u

/-- The command's block behind the reading. -/
def CoB (k lo : Nat) (c : Pu.Co) (w : World) : Prop := ∃ vm vc, Cb k (coC c vm vc) 158 w ∧ CoS w lo vm vc c

theorem CoB.nil {k lo : Nat} {c : Pu.Co} {w : World} (h : Cb k (coC c (.slice none 0 0) (.slice none 0 0)) 158 w) (hm : c.merges = []) (hc : c.changes = []) : CoB k lo c w :=
  ⟨_, _, h, CoS.nil w lo c hm hc⟩

theorem own_slice0 {w : World} {base : Nat} {e : TypeId} {size : Nat} {v : Value} {n : Nat} {xs : List Value} (h : w.ownsRow base e size v n xs) : ∃ av cv, v = .slice av n cv := by
  rcases h.2 with ⟨rfl, rfl⟩ | ⟨g, cap, cur, rfl, _⟩
  · exact ⟨_, _, rfl⟩
  · exact ⟨_, _, rfl⟩

set_option maxHeartbeats 2000000 in
set_option maxRecDepth 100000 in
theorem readBlob_any (b k : Nat) (x s : List UInt8) (bad : Bool) (w : World) (h : Rd b s bad w) (hbk : b < k) (hC : Cb k (coC (Pu.Co.of x) (.slice none 0 0) (.slice none 0 0)) 158 w) :
    Calls Tryz.prog 164 #[.pointer (some ⟨b, 0, none⟩), .pointer (some ⟨k, 0, none⟩)] w fun e w' => e = .returned (.tuple #[]) ∧ Rd b (Pu.readBlob s bad).1 (Pu.readBlob s bad).2 w' ∧ CoB k w.heap.size (Pu.readBlobV s bad (Pu.Co.of x)) w' ∧ Kx (Two b k) w w' := by
  have hkl := hC.lt
  have HE : Hid (Pu.readBlob s bad = (Pu.data (Pu.rmark (Pu.exactly Pu.sBlob s bad).1 (Pu.exactly Pu.sBlob s bad).2).2.1 (Pu.rmark (Pu.exactly Pu.sBlob s bad).1 (Pu.exactly Pu.sBlob s bad).2).2.2).2) := rfl
  have HV : Hid (Pu.readBlobV s bad (Pu.Co.of x) = ⟨x, [], (Pu.rmark (Pu.exactly Pu.sBlob s bad).1 (Pu.exactly Pu.sBlob s bad).2).1, ⟨[], [], 0⟩, (Pu.data (Pu.rmark (Pu.exactly Pu.sBlob s bad).1 (Pu.exactly Pu.sBlob s bad).2).2.1 (Pu.rmark (Pu.exactly Pu.sBlob s bad).1 (Pu.exactly Pu.sBlob s bad).2).2.2).1, ⟨0, []⟩, [], []⟩) := rfl
  have hx0 : Kx (Two b k) w w := Kx.refl _ _
  have hc0 := hC
  unfold coC Pu.Co.of at hc0
  go_enter Tryz.func164, Tryz.ntmps164
  go_wp2_with fail
  refine (exactly_any b s bad Pu.sBlob _ h).mono ?_
  rintro e w1 ⟨rfl, hr1, hk1⟩
  generalize Pu.exactly Pu.sBlob s bad = st1 at *
  obtain ⟨s1, bad1⟩ := st1
  have hc1 : Cb k #[.string ⟨x.toArray⟩, .string ⟨#[]⟩, .int .i64 0, .string ⟨#[]⟩, .string ⟨#[]⟩, .int .i64 0, .string ⟨#[]⟩, .int .i64 0, .string ⟨#[]⟩, .slice none 0 0, .slice none 0 0] 158 w1 := hc0.only hk1 hbk
  have hx1 : Kx (Two b k) w w1 := hx0.trans hk1.two
  go_wp2_with fail
  refine (rmark_any b s1 bad1 _ hr1).mono ?_
  rintro e w2 ⟨rfl, hr2, hk2⟩
  generalize Pu.rmark s1 bad1 = st2 at *
  obtain ⟨q2, s2, bad2⟩ := st2
  have hc2 : Cb k #[.string ⟨x.toArray⟩, .string ⟨#[]⟩, .int .i64 0, .string ⟨#[]⟩, .string ⟨#[]⟩, .int .i64 0, .string ⟨#[]⟩, .int .i64 0, .string ⟨#[]⟩, .slice none 0 0, .slice none 0 0] 158 w2 := hc1.only hk2 hbk
  have hx2 : Kx (Two b k) w w2 := hx1.trans hk2.two
  have e2_2 : w2.cell? ⟨k, 2, none⟩ = some (.int .i64 0) := hc2.cell 2
  have g2_2 := hc2.frozen 2
  go_wp2_with fail
  refine (data_any b s2 bad2 _ (hr2.setNew hbk _)).mono ?_
  rintro e w3 ⟨rfl, hr3, hk3⟩
  generalize Pu.data s2 bad2 = st3 at *
  obtain ⟨q3, s3, bad3⟩ := st3
  have hc3 : Cb k #[.string ⟨x.toArray⟩, .string ⟨#[]⟩, .int .i64 q2, .string ⟨#[]⟩, .string ⟨#[]⟩, .int .i64 0, .string ⟨#[]⟩, .int .i64 0, .string ⟨#[]⟩, .slice none 0 0, .slice none 0 0] 158 w3 := (hc2.set 2 (.int .i64 q2)).only hk3 hbk
  have hx3 : Kx (Two b k) w w3 := (hx2.two_set _).trans hk3.two
  have e3_6 : w3.cell? ⟨k, 6, none⟩ = some (.string ⟨#[]⟩) := hc3.cell 6
  have g3_6 := hc3.frozen 6
  go_wp2
  go_end0
  refine ⟨rfl, by rw [HE.out]; exact (hr3.setNew hbk _), ?_, (hx3.two_set _)⟩
  rw [HV.out]
  exact CoB.nil ((hc3.set 6 (.string ⟨q3.toArray⟩))) rfl rfl

set_option maxHeartbeats 2000000 in
set_option maxRecDepth 100000 in
theorem readTag_any (b k : Nat) (x s : List UInt8) (bad : Bool) (w : World) (h : Rd b s bad w) (hbk : b < k) (hC : Cb k (coC (Pu.Co.of x) (.slice none 0 0) (.slice none 0 0)) 158 w) :
    Calls Tryz.prog 170 #[.pointer (some ⟨b, 0, none⟩), .pointer (some ⟨k, 0, none⟩)] w fun e w' => e = .returned (.tuple #[]) ∧ Rd b (Pu.readTag s bad).1 (Pu.readTag s bad).2 w' ∧ CoB k w.heap.size (Pu.readTagV s bad (Pu.Co.of x)) w' ∧ Kx (Two b k) w w' := by
  have hkl := hC.lt
  have HE : Hid (Pu.readTag s bad = (Pu.data (Pu.which Pu.sFrom (Pu.ref Pu.sTag1 s bad).2.1 (Pu.ref Pu.sTag1 s bad).2.2).1 (Pu.which Pu.sFrom (Pu.ref Pu.sTag1 s bad).2.1 (Pu.ref Pu.sTag1 s bad).2.2).2).2) := rfl
  have HV : Hid (Pu.readTagV s bad (Pu.Co.of x) = ⟨x, (Pu.ref Pu.sTag1 s bad).1, 0, ⟨[], [], 0⟩, (Pu.data (Pu.which Pu.sFrom (Pu.ref Pu.sTag1 s bad).2.1 (Pu.ref Pu.sTag1 s bad).2.2).1 (Pu.which Pu.sFrom (Pu.ref Pu.sTag1 s bad).2.1 (Pu.ref Pu.sTag1 s bad).2.2).2).1, Pu.whichV Pu.sFrom (Pu.ref Pu.sTag1 s bad).2.1 (Pu.ref Pu.sTag1 s bad).2.2, [], []⟩) := rfl
  have hx0 : Kx (Two b k) w w := Kx.refl _ _
  have hc0 := hC
  unfold coC Pu.Co.of at hc0
  go_enter Tryz.func170, Tryz.ntmps170
  go_wp2_with fail
  refine (ref_any b s bad Pu.sTag1 _ h).mono ?_
  rintro e w1 ⟨rfl, hr1, hk1⟩
  generalize Pu.ref Pu.sTag1 s bad = st1 at *
  obtain ⟨q1, s1, bad1⟩ := st1
  have hc1 : Cb k #[.string ⟨x.toArray⟩, .string ⟨#[]⟩, .int .i64 0, .string ⟨#[]⟩, .string ⟨#[]⟩, .int .i64 0, .string ⟨#[]⟩, .int .i64 0, .string ⟨#[]⟩, .slice none 0 0, .slice none 0 0] 158 w1 := hc0.only hk1 hbk
  have hx1 : Kx (Two b k) w w1 := hx0.trans hk1.two
  have e1_1 : w1.cell? ⟨k, 1, none⟩ = some (.string ⟨#[]⟩) := hc1.cell 1
  have g1_1 := hc1.frozen 1
  go_wp2_with fail
  refine (which_any b s1 bad1 Pu.sFrom _ (hr1.setNew hbk _)).mono ?_
  rintro e w2 ⟨rfl, hr2, hk2⟩
  generalize Pu.which Pu.sFrom s1 bad1 = st2 at *
  generalize Pu.whichV Pu.sFrom s1 bad1 = wv2 at *
  obtain ⟨s2, bad2⟩ := st2
  obtain ⟨q2, p2⟩ := wv2
  have hc2 : Cb k #[.string ⟨x.toArray⟩, .string ⟨q1.toArray⟩, .int .i64 0, .string ⟨#[]⟩, .string ⟨#[]⟩, .int .i64 0, .string ⟨#[]⟩, .int .i64 0, .string ⟨#[]⟩, .slice none 0 0, .slice none 0 0] 158 w2 := (hc1.set 1 (.string ⟨q1.toArray⟩)).only hk2 hbk
  have hx2 : Kx (Two b k) w w2 := (hx1.two_set _).trans hk2.two
  have e2_7 : w2.cell? ⟨k, 7, none⟩ = some (.int .i64 0) := hc2.cell 7
  have g2_7 := hc2.frozen 7
  have e2_8 : w2.cell? ⟨k, 8, none⟩ = some (.string ⟨#[]⟩) := hc2.cell 8
  have g2_8 := hc2.frozen 8
  go_wp2_with fail
  refine (data_any b s2 bad2 _ ((hr2.setNew hbk _).setNew hbk _)).mono ?_
  rintro e w3 ⟨rfl, hr3, hk3⟩
  generalize Pu.data s2 bad2 = st3 at *
  obtain ⟨q3, s3, bad3⟩ := st3
  have hc3 : Cb k #[.string ⟨x.toArray⟩, .string ⟨q1.toArray⟩, .int .i64 0, .string ⟨#[]⟩, .string ⟨#[]⟩, .int .i64 0, .string ⟨#[]⟩, .int .i64 q2, .string ⟨p2.toArray⟩, .slice none 0 0, .slice none 0 0] 158 w3 := ((hc2.set 7 (.int .i64 q2)).set 8 (.string ⟨p2.toArray⟩)).only hk3 hbk
  have hx3 : Kx (Two b k) w w3 := ((hx2.two_set _).two_set _).trans hk3.two
  have e3_6 : w3.cell? ⟨k, 6, none⟩ = some (.string ⟨#[]⟩) := hc3.cell 6
  have g3_6 := hc3.frozen 6
  go_wp2
  go_end0
  refine ⟨rfl, by rw [HE.out]; exact (hr3.setNew hbk _), ?_, (hx3.two_set _)⟩
  rw [HV.out]
  exact CoB.nil ((hc3.set 6 (.string ⟨q3.toArray⟩))) rfl rfl

set_option maxHeartbeats 2000000 in
set_option maxRecDepth 100000 in
theorem readReset_any (b k : Nat) (x s : List UInt8) (bad : Bool) (w : World) (h : Rd b s bad w) (hbk : b < k) (hC : Cb k (coC (Pu.Co.of x) (.slice none 0 0) (.slice none 0 0)) 158 w) :
    Calls Tryz.prog 173 #[.pointer (some ⟨b, 0, none⟩), .pointer (some ⟨k, 0, none⟩)] w fun e w' => e = .returned (.tuple #[]) ∧ Rd b (Pu.readReset s bad).1 (Pu.readReset s bad).2 w' ∧ CoB k w.heap.size (Pu.readResetV s bad (Pu.Co.of x)) w' ∧ Kx (Two b k) w w' := by
  have hkl := hC.lt
  have HE : Hid (Pu.readReset s bad = Pu.exactly [] (Pu.fromOr (Pu.ref Pu.sReset1 s bad).2.1 (Pu.ref Pu.sReset1 s bad).2.2).1 (Pu.fromOr (Pu.ref Pu.sReset1 s bad).2.1 (Pu.ref Pu.sReset1 s bad).2.2).2) := rfl
  have HV : Hid (Pu.readResetV s bad (Pu.Co.of x) = ⟨x, (Pu.ref Pu.sReset1 s bad).1, 0, ⟨[], [], 0⟩, [], Pu.fromOrV (Pu.ref Pu.sReset1 s bad).2.1 (Pu.ref Pu.sReset1 s bad).2.2, [], []⟩) := rfl
  have hx0 : Kx (Two b k) w w := Kx.refl _ _
  have hc0 := hC
  unfold coC Pu.Co.of at hc0
  go_enter Tryz.func173, Tryz.ntmps173
  go_wp2_with fail
  refine (ref_any b s bad Pu.sReset1 _ h).mono ?_
  rintro e w1 ⟨rfl, hr1, hk1⟩
  generalize Pu.ref Pu.sReset1 s bad = st1 at *
  obtain ⟨q1, s1, bad1⟩ := st1
  have hc1 : Cb k #[.string ⟨x.toArray⟩, .string ⟨#[]⟩, .int .i64 0, .string ⟨#[]⟩, .string ⟨#[]⟩, .int .i64 0, .string ⟨#[]⟩, .int .i64 0, .string ⟨#[]⟩, .slice none 0 0, .slice none 0 0] 158 w1 := hc0.only hk1 hbk
  have hx1 : Kx (Two b k) w w1 := hx0.trans hk1.two
  have e1_1 : w1.cell? ⟨k, 1, none⟩ = some (.string ⟨#[]⟩) := hc1.cell 1
  have g1_1 := hc1.frozen 1
  go_wp2_with fail
  refine (fromOr_any b s1 bad1 _ (hr1.setNew hbk _)).mono ?_
  rintro e w2 ⟨rfl, hr2, hk2⟩
  generalize Pu.fromOr s1 bad1 = st2 at *
  generalize Pu.fromOrV s1 bad1 = wv2 at *
  obtain ⟨s2, bad2⟩ := st2
  obtain ⟨q2, p2⟩ := wv2
  have hc2 : Cb k #[.string ⟨x.toArray⟩, .string ⟨q1.toArray⟩, .int .i64 0, .string ⟨#[]⟩, .string ⟨#[]⟩, .int .i64 0, .string ⟨#[]⟩, .int .i64 0, .string ⟨#[]⟩, .slice none 0 0, .slice none 0 0] 158 w2 := (hc1.set 1 (.string ⟨q1.toArray⟩)).only hk2 hbk
  have hx2 : Kx (Two b k) w w2 := (hx1.two_set _).trans hk2.two
  have e2_7 : w2.cell? ⟨k, 7, none⟩ = some (.int .i64 0) := hc2.cell 7
  have g2_7 := hc2.frozen 7
  have e2_8 : w2.cell? ⟨k, 8, none⟩ = some (.string ⟨#[]⟩) := hc2.cell 8
  have g2_8 := hc2.frozen 8
  go_wp2_with fail
  refine (exactly_any b s2 bad2 [] _ ((hr2.setNew hbk _).setNew hbk _)).mono ?_
  rintro e w3 ⟨rfl, hr3, hk3⟩
  generalize Pu.exactly [] s2 bad2 = st3 at *
  obtain ⟨s3, bad3⟩ := st3
  have hc3 : Cb k #[.string ⟨x.toArray⟩, .string ⟨q1.toArray⟩, .int .i64 0, .string ⟨#[]⟩, .string ⟨#[]⟩, .int .i64 0, .string ⟨#[]⟩, .int .i64 q2, .string ⟨p2.toArray⟩, .slice none 0 0, .slice none 0 0] 158 w3 := ((hc2.set 7 (.int .i64 q2)).set 8 (.string ⟨p2.toArray⟩)).only hk3 hbk
  have hx3 : Kx (Two b k) w w3 := ((hx2.two_set _).two_set _).trans hk3.two
  go_wp2
  go_end0
  refine ⟨rfl, by rw [HE.out]; exact hr3, ?_, hx3⟩
  rw [HV.out]
  exact CoB.nil (hc3) rfl rfl

end Go.Proofs.YtepgoppgblfjbaaGreatDoor
