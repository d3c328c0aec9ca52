/- The reader's methods: ref, mark, which, author, data, fromOrNothing, mode, path, content. -/
import Derived.Test.YtepgoppgblfjbaaGreatDoorLine
import Derived.Test.YtepgoppgblfjbaaGreatDoorCont
import Derived.Test.YtepgoppgblfjbaaGreatDoorPath
namespace Go.Proofs.YtepgoppgblfjbaaGreatDoor
open Go.RowKit

set_option maxHeartbeats 400000 in
theorem ref_any (b : Nat) (s : List UInt8) (bad : Bool) (head : List UInt8) (w : World) (h : Rd b s bad w) :
    Calls Tryz.prog 222 #[.pointer (some ⟨b, 0, none⟩), .string ⟨head.toArray⟩] w fun e w' => e = .returned (.string ⟨(Pu.ref head s bad).1.toArray⟩) ∧ Rd b (Pu.ref head s bad).2.1 (Pu.ref head s bad).2.2 w' ∧ Kx (Only b) w w' := by
  have hl := Pu.after_len head s bad
  have hs := h.short
  go_enter Tryz.func222, Tryz.ntmps222
  go_wp2_with fail
  refine (after_any b s bad head _ h).mono ?_
  rintro e w1 ⟨rfl, hr, hk⟩
  have HE : Hid (Pu.ref head s bad = ((Pu.after head s bad).1, Pu.need (Pu.isRef (Pu.after head s bad).1) (Pu.after head s bad).2.1 (Pu.after head s bad).2.2)) := rfl
  generalize Pu.after head s bad = x at *
  obtain ⟨x0, x1, x2⟩ := x
  obtain ⟨m, hm⟩ := hr.max
  go_wp2_with fail
  refine (isRef_any x0 m _ (by omega) hm).mono ?_
  rintro e w2 ⟨rfl, rfl⟩
  go_wp2_with fail
  refine (need_any b _ _ _ _ hr).mono ?_
  rintro e w3 ⟨rfl, hr2, hk2⟩
  go_wp2
  go_ret
  exact ⟨by rw [HE.out]; rfl, by rw [HE.out]; exact hr2, hk.trans hk2⟩

set_option maxHeartbeats 400000 in
theorem rmark_any (b : Nat) (s : List UInt8) (bad : Bool) (w : World) (h : Rd b s bad w) :
    Calls Tryz.prog 216 #[.pointer (some ⟨b, 0, none⟩)] w fun e w' => e = .returned (.int .i64 (Pu.rmark s bad).1) ∧ Rd b (Pu.rmark s bad).2.1 (Pu.rmark s bad).2.2 w' ∧ Kx (Only b) w w' := by
  have hl := Pu.after_len Pu.sMark s bad
  have hs := h.short
  go_enter Tryz.func216, Tryz.ntmps216
  go_wp2_with fail
  refine (after_any b s bad Pu.sMark _ h).mono ?_
  rintro e w1 ⟨rfl, hr, hk⟩
  have HE : Hid (Pu.rmark s bad = ((Pu.mark (Pu.after Pu.sMark s bad).1).1, Pu.need (Pu.mark (Pu.after Pu.sMark s bad).1).2 (Pu.after Pu.sMark s bad).2.1 (Pu.after Pu.sMark s bad).2.2)) := rfl
  generalize Pu.after Pu.sMark s bad = x at *
  obtain ⟨x0, x1, x2⟩ := x
  go_wp2_with fail
  refine (mark_any x0 _ (by omega)).mono ?_
  rintro e w2 ⟨rfl, rfl⟩
  go_wp2_with fail
  refine (need_any b _ _ _ _ hr).mono ?_
  rintro e w3 ⟨rfl, hr2, hk2⟩
  go_wp2
  go_ret
  exact ⟨by rw [HE.out]; rfl, by rw [HE.out]; exact hr2, hk.trans hk2⟩

set_option maxHeartbeats 400000 in
theorem which_any (b : Nat) (s : List UInt8) (bad : Bool) (head : List UInt8) (w : World) (h : Rd b s bad w) :
    Calls Tryz.prog 238 #[.pointer (some ⟨b, 0, none⟩), .string ⟨head.toArray⟩] w fun e w' => e = .returned (.agg #[.int .i64 (Pu.whichV head s bad).mark, .string ⟨(Pu.whichV head s bad).ref.toArray⟩]) ∧ Rd b (Pu.which head s bad).1 (Pu.which head s bad).2 w' ∧ Kx (Only b) w w' := by
  have hl := Pu.after_len head s bad
  have hs := h.short
  have hb := h.lt
  go_enter Tryz.func238, Tryz.ntmps238
  go_wp2_with fail
  refine (after_any b s bad head _ (h.alloc _)).mono ?_
  rintro e w1 ⟨rfl, hr, hk⟩
  have HV : Hid (Pu.whichV head s bad = if (Pu.mark (Pu.after head s bad).1).2 then ⟨(Pu.mark (Pu.after head s bad).1).1, []⟩ else ⟨0, (Pu.after head s bad).1⟩) := rfl
  have HE : Hid (Pu.which head s bad = if (Pu.mark (Pu.after head s bad).1).2 then (Pu.after head s bad).2 else Pu.need (Pu.isRef (Pu.after head s bad).1) (Pu.after head s bad).2.1 (Pu.after head s bad).2.2) := rfl
  generalize Pu.after head s bad = x at *
  obtain ⟨x0, x1, x2⟩ := x
  obtain ⟨m, hm⟩ := hr.max
  obtain ⟨n0, g0⟩ := new_cell hk hb 0
  obtain ⟨n1, g1⟩ := new_cell hk hb 1
  go_wp2_with fail
  refine (mark_any x0 _ (by omega)).mono ?_
  rintro e w2 ⟨rfl, rfl⟩
  generalize Pu.mark x0 = y at *
  obtain ⟨y0, y1⟩ := y
  cases y1
  · go_wp2_with fail
    refine (isRef_any x0 m _ (by omega) hm).mono ?_
    rintro e w2 ⟨rfl, rfl⟩
    go_wp2_with fail
    refine (need_any b _ _ _ _ hr).mono ?_
    rintro e w3 ⟨rfl, hr2, hk2⟩
    clear n0 n1 g0 g1
    obtain ⟨n0, g0⟩ := new_cell (hk.trans hk2) hb 0
    obtain ⟨n1, g1⟩ := new_cell (hk.trans hk2) hb 1
    go_wp2
    refine bodyPost_ret (v := .agg #[.int .i64 0, .string ⟨x0.toArray⟩]) (by simp [results, Tryz.results238, go_sem, n0, n1]) rfl ⟨by rw [HV.out]; rfl, ?_, ?_⟩
    · rw [HE.out]
      exact (hr2.setNew hb _).setNew hb _
    · exact ((((Kx.refl _ w).alloc _).trans (hk.trans hk2)).setNew (by simp) _).setNew (by simp) _
  · go_wp2
    refine bodyPost_ret (v := .agg #[.int .i64 y0, .string ⟨#[]⟩]) (by simp [results, Tryz.results238, go_sem, n0, n1]) rfl ⟨by rw [HV.out]; rfl, ?_, ?_⟩
    · rw [HE.out]
      exact (hr.setNew hb _).setNew hb _
    · exact ((((Kx.refl _ w).alloc _).trans hk).setNew (by simp) _).setNew (by simp) _

set_option maxHeartbeats 400000 in
theorem fromOr_any (b : Nat) (s : List UInt8) (bad : Bool) (w : World) (h : Rd b s bad w) :
    Calls Tryz.prog 224 #[.pointer (some ⟨b, 0, none⟩)] w fun e w' => e = .returned (.agg #[.int .i64 (Pu.fromOrV s bad).mark, .string ⟨(Pu.fromOrV s bad).ref.toArray⟩]) ∧ Rd b (Pu.fromOr s bad).1 (Pu.fromOr s bad).2 w' ∧ Kx (Only b) w w' := by
  have hb := h.lt
  have h' := h
  obtain ⟨c0, c1, f0, f1, pos, ⟨m, hm⟩, short⟩ := h
  have HV : Hid (Pu.fromOrV s bad = if Lib.hasPrefix s Pu.sFrom then Pu.whichV Pu.sFrom s bad else ⟨0, []⟩) := rfl
  have HE : Hid (Pu.fromOr s bad = if Lib.hasPrefix s Pu.sFrom then Pu.which Pu.sFrom s bad else (s, bad)) := rfl
  go_enter Tryz.func224, Tryz.ntmps224
  go_wp2_with fail
  refine (hasPrefix_any s Pu.sFrom _).mono ?_
  rintro e w1 ⟨rfl, rfl⟩
  generalize Lib.hasPrefix s Pu.sFrom = f at *
  cases f
  · go_wp2
    refine bodyPost_ret (v := .agg #[.int .i64 0, .string ⟨#[]⟩]) (by simp [results, Tryz.results224, go_sem]) rfl ⟨by rw [HV.out]; rfl, ?_, ?_⟩
    · rw [HE.out]
      exact h'.alloc _
    · exact (Kx.refl _ w).alloc _
  · go_wp2_with fail
    refine (which_any b s bad Pu.sFrom _ (h'.alloc _)).mono ?_
    rintro e w1 ⟨rfl, hr, hk⟩
    generalize Pu.whichV Pu.sFrom s bad = wv at *
    obtain ⟨n, x⟩ := wv
    obtain ⟨n0, g0⟩ := new_cell hk hb 0
    obtain ⟨n1, g1⟩ := new_cell hk hb 1
    go_wp2
    refine bodyPost_ret (v := .agg #[.int .i64 n, .string ⟨x.toArray⟩]) (by simp [results, Tryz.results224, go_sem, n0, n1]) rfl ⟨by rw [HV.out]; rfl, ?_, ?_⟩
    · rw [HE.out]
      exact (hr.setNew hb _).setNew hb _
    · exact ((((Kx.refl _ w).alloc _).trans hk).setNew (by simp) _).setNew (by simp) _

set_option maxHeartbeats 400000 in
theorem author_any (b : Nat) (s : List UInt8) (bad : Bool) (w : World) (h : Rd b s bad w) :
    Calls Tryz.prog 223 #[.pointer (some ⟨b, 0, none⟩)] w fun e w' => e = .returned (.agg #[.string ⟨(Pu.authorV s bad).name.toArray⟩, .string ⟨(Pu.authorV s bad).mail.toArray⟩, .int .i64 (Pu.authorV s bad).time]) ∧ Rd b (Pu.author s bad).1 (Pu.author s bad).2 w' ∧ Kx (Only b) w w' := by
  have hl := (Pu.after_len Pu.sAuthor s bad).1
  have hs := h.short
  have hb := h.lt
  go_enter Tryz.func223, Tryz.ntmps223
  go_wp2_with fail
  refine (after_any b s bad Pu.sAuthor _ (h.alloc _)).mono ?_
  rintro e w1 ⟨rfl, hr, hk⟩
  have HV : Hid (Pu.authorV s bad = ⟨(Lib.cut (Pu.after Pu.sAuthor s bad).1 [32, 60]).1, (Lib.cut (Lib.cut (Pu.after Pu.sAuthor s bad).1 [32, 60]).2.1 [62, 32]).1, (Pu.number (Lib.cut (Lib.cut (Pu.after Pu.sAuthor s bad).1 [32, 60]).2.1 [62, 32]).2.1 0 9999999999).1⟩) := rfl
  have HE : Hid (Pu.author s bad = Pu.need (Pu.isAuthor (Pu.after Pu.sAuthor s bad).1) (Pu.after Pu.sAuthor s bad).2.1 (Pu.after Pu.sAuthor s bad).2.2) := rfl
  generalize Pu.after Pu.sAuthor s bad = x at *
  obtain ⟨x0, x1, x2⟩ := x
  obtain ⟨m, hm⟩ := hr.max
  have hl2 := Pu.cut_lens x0 [32, 60]
  have HA : Hid (Pu.isAuthor x0 = ((Lib.cut x0 [32, 60]).2.2 && (Lib.cut (Lib.cut x0 [32, 60]).2.1 [62, 32]).2.2 && (Pu.number (Lib.cut (Lib.cut x0 [32, 60]).2.1 [62, 32]).2.1 0 9999999999).2
    && Pu.isName (Lib.cut x0 [32, 60]).1 && Pu.isMail (Lib.cut (Lib.cut x0 [32, 60]).2.1 [62, 32]).1)) := rfl
  go_wp2_with fail
  refine (cut_any x0 [32, 60] m _ (by omega) hm).mono ?_
  rintro e w2 ⟨rfl, q1, rfl⟩
  generalize Lib.cut x0 [32, 60] = y at *
  obtain ⟨y0, y1, y2⟩ := y
  have hl3 := Pu.cut_lens y1 [62, 32]
  go_wp2_with fail
  refine (cut_any y1 [62, 32] m _ (by omega) (by exact hm)).mono ?_
  rintro e w2 ⟨rfl, q2, rfl⟩
  generalize Lib.cut y1 [62, 32] = z at *
  obtain ⟨z0, z1, z2⟩ := z
  go_wp2_with fail
  refine (number_any z1 0 9999999999 _ (by omega)).mono ?_
  rintro e w2 ⟨rfl, rfl⟩
  generalize Pu.number z1 0 9999999999 = v at *
  obtain ⟨v0, v1⟩ := v
  cases y2
  · go_wp2_with fail
    refine (need_any b x1 x2 _ _ (hr.drewN _)).mono ?_
    rintro e w3 ⟨rfl, hr2, hk2⟩
    have hk3 := (hk.drewN _).trans hk2
    obtain ⟨n0, g0⟩ := new_cell hk3 hb 0
    obtain ⟨n1, g1⟩ := new_cell hk3 hb 1
    obtain ⟨n2, g2⟩ := new_cell hk3 hb 2
    go_wp2
    refine bodyPost_ret (v := .agg #[.string ⟨y0.toArray⟩, .string ⟨z0.toArray⟩, .int .i64 v0]) (by simp [results, Tryz.results223, go_sem, n0, n1, n2]) rfl ⟨by rw [HV.out], ?_, ?_⟩
    · rw [HE.out, HA.out]
      simp only [Bool.false_and]
      exact ((hr2.setNew hb _).setNew hb _).setNew hb _
    · exact (((((Kx.refl _ w).alloc _).trans hk3).setNew (by simp) _).setNew (by simp) _).setNew (by simp) _
  cases z2
  · go_wp2_with fail
    refine (need_any b x1 x2 _ _ (hr.drewN _)).mono ?_
    rintro e w3 ⟨rfl, hr2, hk2⟩
    have hk3 := (hk.drewN _).trans hk2
    obtain ⟨n0, g0⟩ := new_cell hk3 hb 0
    obtain ⟨n1, g1⟩ := new_cell hk3 hb 1
    obtain ⟨n2, g2⟩ := new_cell hk3 hb 2
    go_wp2
    refine bodyPost_ret (v := .agg #[.string ⟨y0.toArray⟩, .string ⟨z0.toArray⟩, .int .i64 v0]) (by simp [results, Tryz.results223, go_sem, n0, n1, n2]) rfl ⟨by rw [HV.out], ?_, ?_⟩
    · rw [HE.out, HA.out]
      simp only [Bool.false_and, Bool.and_false]
      exact ((hr2.setNew hb _).setNew hb _).setNew hb _
    · exact (((((Kx.refl _ w).alloc _).trans hk3).setNew (by simp) _).setNew (by simp) _).setNew (by simp) _
  cases v1
  · go_wp2_with fail
    refine (need_any b x1 x2 _ _ (hr.drewN _)).mono ?_
    rintro e w3 ⟨rfl, hr2, hk2⟩
    have hk3 := (hk.drewN _).trans hk2
    obtain ⟨n0, g0⟩ := new_cell hk3 hb 0
    obtain ⟨n1, g1⟩ := new_cell hk3 hb 1
    obtain ⟨n2, g2⟩ := new_cell hk3 hb 2
    go_wp2
    refine bodyPost_ret (v := .agg #[.string ⟨y0.toArray⟩, .string ⟨z0.toArray⟩, .int .i64 v0]) (by simp [results, Tryz.results223, go_sem, n0, n1, n2]) rfl ⟨by rw [HV.out], ?_, ?_⟩
    · rw [HE.out, HA.out]
      simp only [Bool.false_and, Bool.and_false]
      exact ((hr2.setNew hb _).setNew hb _).setNew hb _
    · exact (((((Kx.refl _ w).alloc _).trans hk3).setNew (by simp) _).setNew (by simp) _).setNew (by simp) _
  go_wp2_with fail
  refine (isName_any y0 _ (by omega)).mono ?_
  rintro e w2 ⟨rfl, rfl⟩
  generalize Pu.isName y0 = nm at *
  cases nm
  · go_wp2_with fail
    refine (need_any b x1 x2 _ _ (hr.drewN _)).mono ?_
    rintro e w3 ⟨rfl, hr2, hk2⟩
    have hk3 := (hk.drewN _).trans hk2
    obtain ⟨n0, g0⟩ := new_cell hk3 hb 0
    obtain ⟨n1, g1⟩ := new_cell hk3 hb 1
    obtain ⟨n2, g2⟩ := new_cell hk3 hb 2
    go_wp2
    refine bodyPost_ret (v := .agg #[.string ⟨y0.toArray⟩, .string ⟨z0.toArray⟩, .int .i64 v0]) (by simp [results, Tryz.results223, go_sem, n0, n1, n2]) rfl ⟨by rw [HV.out], ?_, ?_⟩
    · rw [HE.out, HA.out]
      simp only [Bool.false_and, Bool.and_false]
      exact ((hr2.setNew hb _).setNew hb _).setNew hb _
    · exact (((((Kx.refl _ w).alloc _).trans hk3).setNew (by simp) _).setNew (by simp) _).setNew (by simp) _
  go_wp2_with fail
  refine (isMail_any z0 _ (by omega)).mono ?_
  rintro e w2 ⟨rfl, rfl⟩
  generalize Pu.isMail z0 = ml at *
  go_wp2_with fail
  refine (need_any b x1 x2 _ _ (hr.drewN _)).mono ?_
  rintro e w3 ⟨rfl, hr2, hk2⟩
  have hk3 := (hk.drewN _).trans hk2
  obtain ⟨n0, g0⟩ := new_cell hk3 hb 0
  obtain ⟨n1, g1⟩ := new_cell hk3 hb 1
  obtain ⟨n2, g2⟩ := new_cell hk3 hb 2
  go_wp2
  refine bodyPost_ret (v := .agg #[.string ⟨y0.toArray⟩, .string ⟨z0.toArray⟩, .int .i64 v0]) (by simp [results, Tryz.results223, go_sem, n0, n1, n2]) rfl ⟨by rw [HV.out], ?_, ?_⟩
  · rw [HE.out, HA.out]
    simp only [Bool.true_and]
    exact ((hr2.setNew hb _).setNew hb _).setNew hb _
  · exact (((((Kx.refl _ w).alloc _).trans hk3).setNew (by simp) _).setNew (by simp) _).setNew (by simp) _

end Go.Proofs.YtepgoppgblfjbaaGreatDoor
