/- A command as cells, and the functions that read one. -/
import Derived.Test.YtgokbjgojmlhmaaGreatDoorChanges
namespace Go.Proofs.YtgokbjgojmlhmaaGreatDoor
open Go.RowKit

/-- Block k holds a command (of whatever content). -/
def Cm (k : Nat) (w : World) : Prop := ∃ (a0 a1 : ByteArray) (a2 : Int) (a3 a4 : ByteArray) (a5 : Int) (a6 : ByteArray) (a7 : Int) (a8 : ByteArray) (a9 : Option Addr) (n9 c9 : Nat) (a10 : Option Addr) (n10 c10 : Nat), Cb k #[.string a0, .string a1, .int .i64 a2, .string a3, .string a4, .int .i64 a5, .string a6, .int .i64 a7, .string a8, .slice a9 n9 c9, .slice a10 n10 c10] 153 w

theorem Cm.frozen {k : Nat} {w : World} (h : Cm k w) (j : Nat) : w.frozen? ⟨k, j, none⟩ = false := by
  obtain ⟨a0, a1, a2, a3, a4, a5, a6, a7, a8, a9, n9, c9, a10, n10, c10, h⟩ := h
  exact h.frozen j

theorem Cm.lt {k : Nat} {w : World} (h : Cm k w) : k < w.heap.size := by
  obtain ⟨a0, a1, a2, a3, a4, a5, a6, a7, a8, a9, n9, c9, a10, n10, c10, h⟩ := h
  exact h.lt

theorem Cm.at {k : Nat} {w : World} (h : Cm k w) (j : Nat) (hj : j < 11) : ∃ v, w.cell? ⟨k, j, none⟩ = some v := by
  obtain ⟨a0, a1, a2, a3, a4, a5, a6, a7, a8, a9, n9, c9, a10, n10, c10, h⟩ := h
  rw [h.cell j]
  exact ⟨_, Array.getElem?_eq_getElem hj⟩

theorem Cm.only {k b : Nat} {w w' : World} (h : Cm k w) (hk : Kx (Only b) w w') (hx : b < k) : Cm k w' := by
  obtain ⟨a0, a1, a2, a3, a4, a5, a6, a7, a8, a9, n9, c9, a10, n10, c10, h⟩ := h
  exact ⟨_, _, _, _, _, _, _, _, _, _, _, _, _, _, _, h.only hk hx⟩

theorem Cm.set0 {k : Nat} {w : World} (h : Cm k w) (x : ByteArray) : Cm k (w.setCell ⟨k, 0, none⟩ (.string x)) := by
  obtain ⟨a0, a1, a2, a3, a4, a5, a6, a7, a8, a9, n9, c9, a10, n10, c10, h⟩ := h
  have h2 : Cb k #[.string x, .string a1, .int .i64 a2, .string a3, .string a4, .int .i64 a5, .string a6, .int .i64 a7, .string a8, .slice a9 n9 c9, .slice a10 n10 c10] 153 (w.setCell ⟨k, 0, none⟩ (.string x)) := h.set 0 (.string x)
  exact ⟨_, _, _, _, _, _, _, _, _, _, _, _, _, _, _, h2⟩

theorem Cm.set1 {k : Nat} {w : World} (h : Cm k w) (x : ByteArray) : Cm k (w.setCell ⟨k, 1, none⟩ (.string x)) := by
  obtain ⟨a0, a1, a2, a3, a4, a5, a6, a7, a8, a9, n9, c9, a10, n10, c10, h⟩ := h
  have h2 : Cb k #[.string a0, .string x, .int .i64 a2, .string a3, .string a4, .int .i64 a5, .string a6, .int .i64 a7, .string a8, .slice a9 n9 c9, .slice a10 n10 c10] 153 (w.setCell ⟨k, 1, none⟩ (.string x)) := h.set 1 (.string x)
  exact ⟨_, _, _, _, _, _, _, _, _, _, _, _, _, _, _, h2⟩

theorem Cm.set2 {k : Nat} {w : World} (h : Cm k w) (x : Int) : Cm k (w.setCell ⟨k, 2, none⟩ (.int .i64 x)) := by
  obtain ⟨a0, a1, a2, a3, a4, a5, a6, a7, a8, a9, n9, c9, a10, n10, c10, h⟩ := h
  have h2 : Cb k #[.string a0, .string a1, .int .i64 x, .string a3, .string a4, .int .i64 a5, .string a6, .int .i64 a7, .string a8, .slice a9 n9 c9, .slice a10 n10 c10] 153 (w.setCell ⟨k, 2, none⟩ (.int .i64 x)) := h.set 2 (.int .i64 x)
  exact ⟨_, _, _, _, _, _, _, _, _, _, _, _, _, _, _, h2⟩

theorem Cm.set3 {k : Nat} {w : World} (h : Cm k w) (x : ByteArray) : Cm k (w.setCell ⟨k, 3, none⟩ (.string x)) := by
  obtain ⟨a0, a1, a2, a3, a4, a5, a6, a7, a8, a9, n9, c9, a10, n10, c10, h⟩ := h
  have h2 : Cb k #[.string a0, .string a1, .int .i64 a2, .string x, .string a4, .int .i64 a5, .string a6, .int .i64 a7, .string a8, .slice a9 n9 c9, .slice a10 n10 c10] 153 (w.setCell ⟨k, 3, none⟩ (.string x)) := h.set 3 (.string x)
  exact ⟨_, _, _, _, _, _, _, _, _, _, _, _, _, _, _, h2⟩

theorem Cm.set4 {k : Nat} {w : World} (h : Cm k w) (x : ByteArray) : Cm k (w.setCell ⟨k, 4, none⟩ (.string x)) := by
  obtain ⟨a0, a1, a2, a3, a4, a5, a6, a7, a8, a9, n9, c9, a10, n10, c10, h⟩ := h
  have h2 : Cb k #[.string a0, .string a1, .int .i64 a2, .string a3, .string x, .int .i64 a5, .string a6, .int .i64 a7, .string a8, .slice a9 n9 c9, .slice a10 n10 c10] 153 (w.setCell ⟨k, 4, none⟩ (.string x)) := h.set 4 (.string x)
  exact ⟨_, _, _, _, _, _, _, _, _, _, _, _, _, _, _, h2⟩

theorem Cm.set5 {k : Nat} {w : World} (h : Cm k w) (x : Int) : Cm k (w.setCell ⟨k, 5, none⟩ (.int .i64 x)) := by
  obtain ⟨a0, a1, a2, a3, a4, a5, a6, a7, a8, a9, n9, c9, a10, n10, c10, h⟩ := h
  have h2 : Cb k #[.string a0, .string a1, .int .i64 a2, .string a3, .string a4, .int .i64 x, .string a6, .int .i64 a7, .string a8, .slice a9 n9 c9, .slice a10 n10 c10] 153 (w.setCell ⟨k, 5, none⟩ (.int .i64 x)) := h.set 5 (.int .i64 x)
  exact ⟨_, _, _, _, _, _, _, _, _, _, _, _, _, _, _, h2⟩

theorem Cm.set6 {k : Nat} {w : World} (h : Cm k w) (x : ByteArray) : Cm k (w.setCell ⟨k, 6, none⟩ (.string x)) := by
  obtain ⟨a0, a1, a2, a3, a4, a5, a6, a7, a8, a9, n9, c9, a10, n10, c10, h⟩ := h
  have h2 : Cb k #[.string a0, .string a1, .int .i64 a2, .string a3, .string a4, .int .i64 a5, .string x, .int .i64 a7, .string a8, .slice a9 n9 c9, .slice a10 n10 c10] 153 (w.setCell ⟨k, 6, none⟩ (.string x)) := h.set 6 (.string x)
  exact ⟨_, _, _, _, _, _, _, _, _, _, _, _, _, _, _, h2⟩

theorem Cm.set7 {k : Nat} {w : World} (h : Cm k w) (x : Int) : Cm k (w.setCell ⟨k, 7, none⟩ (.int .i64 x)) := by
  obtain ⟨a0, a1, a2, a3, a4, a5, a6, a7, a8, a9, n9, c9, a10, n10, c10, h⟩ := h
  have h2 : Cb k #[.string a0, .string a1, .int .i64 a2, .string a3, .string a4, .int .i64 a5, .string a6, .int .i64 x, .string a8, .slice a9 n9 c9, .slice a10 n10 c10] 153 (w.setCell ⟨k, 7, none⟩ (.int .i64 x)) := h.set 7 (.int .i64 x)
  exact ⟨_, _, _, _, _, _, _, _, _, _, _, _, _, _, _, h2⟩

theorem Cm.set8 {k : Nat} {w : World} (h : Cm k w) (x : ByteArray) : Cm k (w.setCell ⟨k, 8, none⟩ (.string x)) := by
  obtain ⟨a0, a1, a2, a3, a4, a5, a6, a7, a8, a9, n9, c9, a10, n10, c10, h⟩ := h
  have h2 : Cb k #[.string a0, .string a1, .int .i64 a2, .string a3, .string a4, .int .i64 a5, .string a6, .int .i64 a7, .string x, .slice a9 n9 c9, .slice a10 n10 c10] 153 (w.setCell ⟨k, 8, none⟩ (.string x)) := h.set 8 (.string x)
  exact ⟨_, _, _, _, _, _, _, _, _, _, _, _, _, _, _, h2⟩

theorem Cm.set9 {k : Nat} {w : World} (h : Cm k w) (x : Option Addr) (n c : Nat) : Cm k (w.setCell ⟨k, 9, none⟩ (.slice x n c)) := by
  obtain ⟨a0, a1, a2, a3, a4, a5, a6, a7, a8, a9, n9, c9, a10, n10, c10, h⟩ := h
  have h2 : Cb k #[.string a0, .string a1, .int .i64 a2, .string a3, .string a4, .int .i64 a5, .string a6, .int .i64 a7, .string a8, .slice x n c, .slice a10 n10 c10] 153 (w.setCell ⟨k, 9, none⟩ (.slice x n c)) := h.set 9 (.slice x n c)
  exact ⟨_, _, _, _, _, _, _, _, _, _, _, _, _, _, _, h2⟩

theorem Cm.set10 {k : Nat} {w : World} (h : Cm k w) (x : Option Addr) (n c : Nat) : Cm k (w.setCell ⟨k, 10, none⟩ (.slice x n c)) := by
  obtain ⟨a0, a1, a2, a3, a4, a5, a6, a7, a8, a9, n9, c9, a10, n10, c10, h⟩ := h
  have h2 : Cb k #[.string a0, .string a1, .int .i64 a2, .string a3, .string a4, .int .i64 a5, .string a6, .int .i64 a7, .string a8, .slice a9 n9 c9, .slice x n c] 153 (w.setCell ⟨k, 10, none⟩ (.slice x n c)) := h.set 10 (.slice x n c)
  exact ⟨_, _, _, _, _, _, _, _, _, _, _, _, _, _, _, h2⟩

/-- The reader's block and the command's. -/
def Two (b k : Nat) : Nat → Prop := fun j => j = b ∨ j = k

theorem Kx.two {b k : Nat} {w w' : World} (h : Kx (Only b) w w') : Kx (Two b k) w w' := h.mono (fun _ _ e => Or.inl e)

theorem Kx.two_set {b k o : Nat} {a w : World} (h : Kx (Two b k) a w) (u : Value) : Kx (Two b k) a (w.setCell ⟨k, o, none⟩ u) :=
  h.setCell (p := ⟨k, o, none⟩) (fun _ => Or.inr rfl) u

set_option maxHeartbeats 1000000 in
theorem readBlob_any (b k : Nat) (s : List UInt8) (bad : Bool) (w : World) (h : Rd b s bad w) (hbk : b < k) (hC : Cm k w) :
    Calls Tryz.prog 113 #[.pointer (some ⟨b, 0, none⟩), .pointer (some ⟨k, 0, none⟩)] w fun e w' => e = .returned (.tuple #[]) ∧ Rd b (Pu.readBlob s bad).1 (Pu.readBlob s bad).2 w' ∧ Cm k w' ∧ Kx (Two b k) w w' := by
  have HE : Hid (Pu.readBlob s bad = (Pu.data (Pu.rmark (Pu.exactly Pu.sBlob s bad).1 (Pu.exactly Pu.sBlob s bad).2).2.1 (Pu.rmark (Pu.exactly Pu.sBlob s bad).1 (Pu.exactly Pu.sBlob s bad).2).2.2).2) := rfl
  go_enter Tryz.func113, Tryz.ntmps113
  go_wp2_with fail
  refine (exactly_any b s bad Pu.sBlob _ h).mono ?_
  rintro e w1 ⟨rfl, hr1, hk1⟩
  generalize Pu.exactly Pu.sBlob s bad = st1 at *
  obtain ⟨s1, bad1⟩ := st1
  have hC1 := (hC).only hk1 hbk
  have hx1 := ((Kx.refl (Two b k) w)).trans hk1.two
  go_wp2_with fail
  refine (rmark_any b s1 bad1 _ hr1).mono ?_
  rintro e w2 ⟨⟨q2, rfl⟩, hr2, hk2⟩
  generalize Pu.rmark s1 bad1 = st2 at *
  obtain ⟨z2, s2, bad2⟩ := st2
  have hC2 := (hC1).only hk2 hbk
  have hx2 := (hx1).trans hk2.two
  obtain ⟨v2_2, e2_2⟩ := hC2.at 2 (by omega)
  have g2_2 := hC2.frozen 2
  go_wp2_with fail
  refine (data_any b s2 bad2 _ (hr2.setNew hbk _)).mono ?_
  rintro e w3 ⟨⟨q3, rfl⟩, hr3, hk3⟩
  generalize Pu.data s2 bad2 = st3 at *
  obtain ⟨z3, s3, bad3⟩ := st3
  have hC3 := ((hC2.set2 q2)).only hk3 hbk
  have hx3 := ((hx2.two_set _)).trans hk3.two
  obtain ⟨v3_6, e3_6⟩ := hC3.at 6 (by omega)
  have g3_6 := hC3.frozen 6
  go_wp2
  go_end0
  exact ⟨rfl, by rw [HE.out]; exact (hr3.setNew hbk _), (hC3.set6 q3), (hx3.two_set _)⟩

set_option maxHeartbeats 1000000 in
theorem readTag_any (b k : Nat) (s : List UInt8) (bad : Bool) (w : World) (h : Rd b s bad w) (hbk : b < k) (hC : Cm k w) :
    Calls Tryz.prog 115 #[.pointer (some ⟨b, 0, none⟩), .pointer (some ⟨k, 0, none⟩)] w fun e w' => e = .returned (.tuple #[]) ∧ Rd b (Pu.readTag s bad).1 (Pu.readTag s bad).2 w' ∧ Cm k w' ∧ Kx (Two b k) w w' := by
  have HE : Hid (Pu.readTag s bad = (Pu.data (Pu.which Pu.sFrom (Pu.ref Pu.sTag1 s bad).2.1 (Pu.ref Pu.sTag1 s bad).2.2).1 (Pu.which Pu.sFrom (Pu.ref Pu.sTag1 s bad).2.1 (Pu.ref Pu.sTag1 s bad).2.2).2).2) := rfl
  go_enter Tryz.func115, Tryz.ntmps115
  go_wp2_with fail
  refine (ref_any b s bad Pu.sTag1 _ h).mono ?_
  rintro e w1 ⟨⟨q1, rfl⟩, hr1, hk1⟩
  generalize Pu.ref Pu.sTag1 s bad = st1 at *
  obtain ⟨z1, s1, bad1⟩ := st1
  have hC1 := (hC).only hk1 hbk
  have hx1 := ((Kx.refl (Two b k) w)).trans hk1.two
  obtain ⟨v1_1, e1_1⟩ := hC1.at 1 (by omega)
  have g1_1 := hC1.frozen 1
  go_wp2_with fail
  refine (which_any b s1 bad1 Pu.sFrom _ (hr1.setNew hbk _)).mono ?_
  rintro e w2 ⟨⟨q2, p2, rfl⟩, hr2, hk2⟩
  generalize Pu.which Pu.sFrom s1 bad1 = st2 at *
  obtain ⟨s2, bad2⟩ := st2
  have hC2 := ((hC1.set1 q1)).only hk2 hbk
  have hx2 := ((hx1.two_set _)).trans hk2.two
  obtain ⟨v2_7, e2_7⟩ := hC2.at 7 (by omega)
  have g2_7 := hC2.frozen 7
  obtain ⟨v2_8, e2_8⟩ := hC2.at 8 (by omega)
  have g2_8 := hC2.frozen 8
  go_wp2_with fail
  refine (data_any b s2 bad2 _ ((hr2.setNew hbk _).setNew hbk _)).mono ?_
  rintro e w3 ⟨⟨q3, rfl⟩, hr3, hk3⟩
  generalize Pu.data s2 bad2 = st3 at *
  obtain ⟨z3, s3, bad3⟩ := st3
  have hC3 := (((hC2.set7 q2).set8 p2)).only hk3 hbk
  have hx3 := (((hx2.two_set _).two_set _)).trans hk3.two
  obtain ⟨v3_6, e3_6⟩ := hC3.at 6 (by omega)
  have g3_6 := hC3.frozen 6
  go_wp2
  go_end0
  exact ⟨rfl, by rw [HE.out]; exact (hr3.setNew hbk _), (hC3.set6 q3), (hx3.two_set _)⟩

set_option maxHeartbeats 1000000 in
theorem readReset_any (b k : Nat) (s : List UInt8) (bad : Bool) (w : World) (h : Rd b s bad w) (hbk : b < k) (hC : Cm k w) :
    Calls Tryz.prog 116 #[.pointer (some ⟨b, 0, none⟩), .pointer (some ⟨k, 0, none⟩)] w fun e w' => e = .returned (.tuple #[]) ∧ Rd b (Pu.readReset s bad).1 (Pu.readReset s bad).2 w' ∧ Cm k w' ∧ Kx (Two b k) w w' := by
  have HE : Hid (Pu.readReset s bad = Pu.exactly [] (Pu.fromOr (Pu.ref Pu.sReset1 s bad).2.1 (Pu.ref Pu.sReset1 s bad).2.2).1 (Pu.fromOr (Pu.ref Pu.sReset1 s bad).2.1 (Pu.ref Pu.sReset1 s bad).2.2).2) := rfl
  go_enter Tryz.func116, Tryz.ntmps116
  go_wp2_with fail
  refine (ref_any b s bad Pu.sReset1 _ h).mono ?_
  rintro e w1 ⟨⟨q1, rfl⟩, hr1, hk1⟩
  generalize Pu.ref Pu.sReset1 s bad = st1 at *
  obtain ⟨z1, s1, bad1⟩ := st1
  have hC1 := (hC).only hk1 hbk
  have hx1 := ((Kx.refl (Two b k) w)).trans hk1.two
  obtain ⟨v1_1, e1_1⟩ := hC1.at 1 (by omega)
  have g1_1 := hC1.frozen 1
  go_wp2_with fail
  refine (fromOr_any b s1 bad1 _ (hr1.setNew hbk _)).mono ?_
  rintro e w2 ⟨⟨q2, p2, rfl⟩, hr2, hk2⟩
  generalize Pu.fromOr s1 bad1 = st2 at *
  obtain ⟨s2, bad2⟩ := st2
  have hC2 := ((hC1.set1 q1)).only hk2 hbk
  have hx2 := ((hx1.two_set _)).trans hk2.two
  obtain ⟨v2_7, e2_7⟩ := hC2.at 7 (by omega)
  have g2_7 := hC2.frozen 7
  obtain ⟨v2_8, e2_8⟩ := hC2.at 8 (by omega)
  have g2_8 := hC2.frozen 8
  go_wp2_with fail
  refine (exactly_any b s2 bad2 [] _ ((hr2.setNew hbk _).setNew hbk _)).mono ?_
  rintro e w3 ⟨rfl, hr3, hk3⟩
  generalize Pu.exactly [] s2 bad2 = st3 at *
  obtain ⟨s3, bad3⟩ := st3
  have hC3 := (((hC2.set7 q2).set8 p2)).only hk3 hbk
  have hx3 := (((hx2.two_set _).two_set _)).trans hk3.two
  go_wp2
  go_end0
  exact ⟨rfl, by rw [HE.out]; exact hr3, hC3, hx3⟩

end Go.Proofs.YtgokbjgojmlhmaaGreatDoor
