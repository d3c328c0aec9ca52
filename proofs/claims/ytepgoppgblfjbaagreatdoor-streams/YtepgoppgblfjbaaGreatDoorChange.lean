/- The reader's change: one change of a commit. -/
import Derived.Test.YtepgoppgblfjbaaGreatDoorData
import Derived.Test.YtepgoppgblfjbaaGreatDoorBlock
namespace Go.Proofs.YtepgoppgblfjbaaGreatDoor
open Go.RowKit

/-- What a change's struct is as cells. -/
def chg (a c : ByteArray) (n : Int) (d e f : ByteArray) : Array Value := #[.string a, .string c, .int .i64 n, .string d, .string e, .string f]

/-- A change as cells. -/
def chC (c : Pu.Ch) : Array Value := #[.string ⟨c.word.toArray⟩, .string ⟨c.mode.toArray⟩, .int .i64 c.mark, .string ⟨c.data.toArray⟩, .string ⟨c.path.toArray⟩, .string ⟨c.to.toArray⟩]

/-- The world behind the split: the result's block and the fields'. -/
structure Sp (b : Nat) (s : List UInt8) (bad : Bool) (L : List (List UInt8)) (w W : World) : Prop where
  size : W.heap.size = w.heap.size + 2
  res : Cb w.heap.size #[.string ⟨#[]⟩, .string ⟨#[]⟩, .int .i64 0, .string ⟨#[]⟩, .string ⟨#[]⟩, .string ⟨#[]⟩] 332 W
  fld : Cb (w.heap.size + 1) (L.map (fun x => Value.string ⟨x.toArray⟩)).toArray 9 W
  rd : Rd b s bad W
  kx : Kx (Only b) w W

theorem Sp.mk' {b : Nat} {s : List UInt8} {bad : Bool} (L : List (List UInt8)) {w : World} (h : Rd b s bad w) :
    Sp b s bad L w ((w.alloc (.cells #[.string ⟨#[]⟩, .string ⟨#[]⟩, .int .i64 0, .string ⟨#[]⟩, .string ⟨#[]⟩, .string ⟨#[]⟩] 332)).alloc (.cells (L.map (fun x => Value.string ⟨x.toArray⟩)).toArray 9)) := by
  refine ⟨by simp, (Cb.new _ _ _).alloc _, ?_, (h.alloc _).alloc _, ((Kx.refl _ _).alloc _).alloc _⟩
  have := Cb.new (L.map (fun x => Value.string ⟨x.toArray⟩)).toArray 9 (w.alloc (.cells #[.string ⟨#[]⟩, .string ⟨#[]⟩, .int .i64 0, .string ⟨#[]⟩, .string ⟨#[]⟩, .string ⟨#[]⟩] 332))
  rw [World.size_alloc] at this
  exact this

theorem split_pos (s : List UInt8) (c : UInt8) : ∃ f0 r, Lib.split s [c] = f0 :: r := by
  unfold Lib.split
  cases Lib.count s [c] with
  | zero => exact ⟨_, _, by unfold Lib.splitK; rfl⟩
  | succ k => unfold Lib.splitK; split <;> exact ⟨_, _, rfl⟩

/-- Behind the split, where no form is met. -/
theorem change_none (l s : List UInt8) (bad : Bool) (f0 : List UInt8) (r : List (List UInt8)) (hs : Lib.split l [32] = f0 :: r)
    (h1 : ¬ (f0 = [77] ∧ r.length = 3)) (h2 : ¬ (f0 = [68] ∧ r.length = 1)) (h3 : ¬ ((f0 = [67] ∨ f0 = [82]) ∧ r.length = 2)) :
    Pu.change l s bad = Pu.need (l == Pu.sAll) s bad ∧ Pu.changeV l s bad = ⟨f0, [], 0, [], [], []⟩ := by
  unfold Pu.change Pu.changeV
  rw [hs]
  match r with
  | [] => exact ⟨rfl, rfl⟩
  | [f1] => simp only; rw [if_neg (by simpa using h2), if_neg (by simpa using h2)]; exact ⟨rfl, rfl⟩
  | [f1, f2] => simp only; rw [if_neg (by simpa using h3), if_neg (by simpa using h3)]; exact ⟨rfl, rfl⟩
  | [f1, f2, f3] => simp only; rw [if_neg (by simpa using h1), if_neg (by simpa using h1)]; exact ⟨rfl, rfl⟩
  | f1 :: f2 :: f3 :: f4 :: r => exact ⟨rfl, rfl⟩

set_option maxHeartbeats 1000000 in
theorem change_default (b : Nat) (l s : List UInt8) (bad : Bool) (w : World) (h : Rd b s bad w) (hl : l.length ≤ 8000) (f0 : List UInt8) (r : List (List UInt8)) (hs : Lib.split l [32] = f0 :: r)
    (hcase : ((f0 == [77]) = true ∧ (f0 == [68]) = false ∧ (f0 == [67]) = false ∧ (f0 == [82]) = false ∧ ((r.length : Int) + 1 == 4) = false) ∨ ((f0 == [77]) = false ∧ (f0 == [68]) = true ∧ (f0 == [67]) = false ∧ (f0 == [82]) = false ∧ ((r.length : Int) + 1 == 2) = false) ∨ ((f0 == [77]) = false ∧ (f0 == [68]) = false ∧ (f0 == [67]) = true ∧ (f0 == [82]) = false ∧ ((r.length : Int) + 1 == 3) = false) ∨ ((f0 == [77]) = false ∧ (f0 == [68]) = false ∧ (f0 == [67]) = false ∧ (f0 == [82]) = true ∧ ((r.length : Int) + 1 == 3) = false) ∨ ((f0 == [77]) = false ∧ (f0 == [68]) = false ∧ (f0 == [67]) = false ∧ (f0 == [82]) = false))
    (hE : Pu.change l s bad = Pu.need (l == Pu.sAll) s bad ∧ Pu.changeV l s bad = ⟨f0, [], 0, [], [], []⟩) :
    Calls Tryz.prog 294 #[.pointer (some ⟨b, 0, none⟩), .string ⟨l.toArray⟩] w fun e w' => e = .returned (.agg (chC (Pu.changeV l s bad))) ∧ Rd b (Pu.change l s bad).1 (Pu.change l s bad).2 w' ∧ Kx (Only b) w w' := by
  have hb := h.lt
  have HE : Hid (Pu.change l s bad = Pu.need (l == Pu.sAll) s bad) := hE.1
  have HV : Hid (Pu.changeV l s bad = ⟨f0, [], 0, [], [], []⟩) := hE.2
  clear hE
  obtain ⟨m, hm⟩ := (h.alloc (.cells #[.string ⟨#[]⟩, .string ⟨#[]⟩, .int .i64 0, .string ⟨#[]⟩, .string ⟨#[]⟩, .string ⟨#[]⟩] 332)).max
  have hsp := Sp.mk' (f0 :: r) h
  have HS : Hid (Lib.split l [32] = f0 :: r) := hs
  clear hs
  go_enter Tryz.func294, Tryz.ntmps294
  go_wp2_with fail
  refine (split_any l 32 m _ hl hm).mono ?_
  rintro e w1 ⟨rfl, rfl⟩
  clear hm
  rw [HS.out]
  generalize ((w.alloc (.cells #[.string ⟨#[]⟩, .string ⟨#[]⟩, .int .i64 0, .string ⟨#[]⟩, .string ⟨#[]⟩, .string ⟨#[]⟩] 332)).alloc (.cells ((f0 :: r).map (fun x => Value.string ⟨x.toArray⟩)).toArray 9)) = W at *
  obtain ⟨hz, hres, hfld, hrd, hkx⟩ := hsp
  have a0 : W.cell? ⟨w.heap.size + 1, 0, none⟩ = some (.string ⟨f0.toArray⟩) := hfld.cell 0
  rcases hcase with ⟨q1, q2, q3, q4, hn⟩ | ⟨q1, q2, q3, q4, hn⟩ | ⟨q1, q2, q3, q4, hn⟩ | ⟨q1, q2, q3, q4, hn⟩ | ⟨q1, q2, q3, q4⟩
  all_goals
    go_wp2_with fail
    refine (need_any b s bad _ _ (hrd.alloc _)).mono ?_
    rintro e w2 ⟨rfl, hr2, hk2⟩
    have hC := (Cb.new #[.string ⟨f0.toArray⟩, .string ⟨#[]⟩, .int .i64 0, .string ⟨#[]⟩, .string ⟨#[]⟩, .string ⟨#[]⟩] 332 W).only hk2 (by omega)
    rw [hz] at hC
    have hR := (hres.alloc _).only hk2 hb
    have c0 := hC.cell 0
    have c1 := hC.cell 1
    have c2 := hC.cell 2
    have c3 := hC.cell 3
    have c4 := hC.cell 4
    have c5 := hC.cell 5
    have r0 := hR.cell 0
    have r1 := hR.cell 1
    have r2 := hR.cell 2
    have r3 := hR.cell 3
    have r4 := hR.cell 4
    have r5 := hR.cell 5
    have fr := hR.frozen
    clear hC hR
    go_wp2
    refine bodyPost_ret (v := .agg #[.string ⟨f0.toArray⟩, .string ⟨#[]⟩, .int .i64 0, .string ⟨#[]⟩, .string ⟨#[]⟩, .string ⟨#[]⟩]) (by simp [results, Tryz.results294, go_sem, r0, r1, r2, r3, r4, r5]) rfl ⟨by rw [HV.out]; rfl, ?_, ?_⟩
    · rw [HE.out]
      exact (((((hr2.setNew hb _).setNew hb _).setNew hb _).setNew hb _).setNew hb _).setNew hb _
    · exact ((((((((hkx.alloc _).trans hk2).setNew (Nat.le_refl _) _).setNew (Nat.le_refl _) _).setNew (Nat.le_refl _) _).setNew (Nat.le_refl _) _).setNew (Nat.le_refl _) _).setNew (Nat.le_refl _) _)

set_option maxHeartbeats 1000000 in
theorem change_D (b : Nat) (l s : List UInt8) (bad : Bool) (w : World) (h : Rd b s bad w) (hl : l.length ≤ 8000) (f1 : List UInt8) (hs : Lib.split l [32] = [[68], f1]) :
    Calls Tryz.prog 294 #[.pointer (some ⟨b, 0, none⟩), .string ⟨l.toArray⟩] w fun e w' => e = .returned (.agg (chC (Pu.changeV l s bad))) ∧ Rd b (Pu.change l s bad).1 (Pu.change l s bad).2 w' ∧ Kx (Only b) w w' := by
  have hb := h.lt
  have HE : Hid (Pu.change l s bad = Pu.need (Pu.isPath f1) s bad) := by show _ = _; unfold Pu.change; rw [hs]; rfl
  have HV : Hid (Pu.changeV l s bad = ⟨[68], [], 0, [], f1, []⟩) := by show _ = _; unfold Pu.changeV; rw [hs]; rfl
  obtain ⟨m, hm⟩ := (h.alloc (.cells #[.string ⟨#[]⟩, .string ⟨#[]⟩, .int .i64 0, .string ⟨#[]⟩, .string ⟨#[]⟩, .string ⟨#[]⟩] 332)).max
  have hsp := Sp.mk' [[68], f1] h
  have HS : Hid (Lib.split l [32] = [[68], f1]) := hs
  have hln := split_lens l [32]
  rw [hs] at hln
  have l1 := hln f1 (by simp)
  clear hs hln
  go_enter Tryz.func294, Tryz.ntmps294
  go_wp2_with fail
  refine (split_any l 32 m _ hl hm).mono ?_
  rintro e w1 ⟨rfl, rfl⟩
  clear hm
  rw [HS.out]
  clear HS
  generalize ((w.alloc (.cells #[.string ⟨#[]⟩, .string ⟨#[]⟩, .int .i64 0, .string ⟨#[]⟩, .string ⟨#[]⟩, .string ⟨#[]⟩] 332)).alloc (.cells ([[68], f1].map (fun x => Value.string ⟨x.toArray⟩)).toArray 9)) = W at *
  obtain ⟨hz, hres, hfld, hrd, hkx⟩ := hsp
  have a0 : W.cell? ⟨w.heap.size + 1, 0, none⟩ = some (.string ⟨[68].toArray⟩) := hfld.cell 0
  have a1 : W.cell? ⟨w.heap.size + 1, 1, none⟩ = some (.string ⟨f1.toArray⟩) := hfld.cell 1
  go_wp2_with fail
  refine (path_any b s bad f1 _ (hrd.alloc _) (by omega)).mono ?_
  rintro e w2 ⟨rfl, hr2, hk2⟩
  have hC := (Cb.new #[.string ⟨#[68]⟩, .string ⟨#[]⟩, .int .i64 0, .string ⟨#[]⟩, .string ⟨#[]⟩, .string ⟨#[]⟩] 332 W).only hk2 (by omega)
  rw [hz] at hC
  have hR := (hres.alloc _).only hk2 hb
  have c0 := hC.cell 0
  have c1 := hC.cell 1
  have c2 := hC.cell 2
  have c3 := hC.cell 3
  have c4 := hC.cell 4
  have c5 := hC.cell 5
  have fc := hC.frozen
  have r0 := hR.cell 0
  have r1 := hR.cell 1
  have r2 := hR.cell 2
  have r3 := hR.cell 3
  have r4 := hR.cell 4
  have r5 := hR.cell 5
  have fr := hR.frozen
  clear hC hR
  go_wp2
  refine bodyPost_ret (v := .agg #[.string ⟨#[68]⟩, .string ⟨#[]⟩, .int .i64 0, .string ⟨#[]⟩, .string ⟨f1.toArray⟩, .string ⟨#[]⟩]) (by simp [results, Tryz.results294, go_sem, r0, r1, r2, r3, r4, r5]) rfl ⟨by rw [HV.out]; rfl, ?_, ?_⟩
  · rw [HE.out]
    exact (((((((hr2).setNew (by omega) _).setNew (by omega) _).setNew (by omega) _).setNew (by omega) _).setNew (by omega) _).setNew (by omega) _).setNew (by omega) _
  · exact ((((((((hkx.alloc _).trans hk2).setNew (by simp) _).setNew (by simp) _).setNew (by simp) _).setNew (by simp) _).setNew (by simp) _).setNew (by simp) _).setNew (by simp) _

set_option maxHeartbeats 1000000 in
theorem change_C (b : Nat) (l s : List UInt8) (bad : Bool) (w : World) (h : Rd b s bad w) (hl : l.length ≤ 8000) (f1 f2 : List UInt8) (hs : Lib.split l [32] = [[67], f1, f2]) :
    Calls Tryz.prog 294 #[.pointer (some ⟨b, 0, none⟩), .string ⟨l.toArray⟩] w fun e w' => e = .returned (.agg (chC (Pu.changeV l s bad))) ∧ Rd b (Pu.change l s bad).1 (Pu.change l s bad).2 w' ∧ Kx (Only b) w w' := by
  have hb := h.lt
  have HE : Hid (Pu.change l s bad = Pu.need (Pu.isPath f2) (Pu.need (Pu.isPath f1) s bad).1 (Pu.need (Pu.isPath f1) s bad).2) := by show _ = _; unfold Pu.change; rw [hs]; rfl
  have HV : Hid (Pu.changeV l s bad = ⟨[67], [], 0, [], f1, f2⟩) := by show _ = _; unfold Pu.changeV; rw [hs]; rfl
  obtain ⟨m, hm⟩ := (h.alloc (.cells #[.string ⟨#[]⟩, .string ⟨#[]⟩, .int .i64 0, .string ⟨#[]⟩, .string ⟨#[]⟩, .string ⟨#[]⟩] 332)).max
  have hsp := Sp.mk' [[67], f1, f2] h
  have HS : Hid (Lib.split l [32] = [[67], f1, f2]) := hs
  have hln := split_lens l [32]
  rw [hs] at hln
  have l1 := hln f1 (by simp)
  have l2 := hln f2 (by simp)
  clear hs hln
  go_enter Tryz.func294, Tryz.ntmps294
  go_wp2_with fail
  refine (split_any l 32 m _ hl hm).mono ?_
  rintro e w1 ⟨rfl, rfl⟩
  clear hm
  rw [HS.out]
  clear HS
  generalize ((w.alloc (.cells #[.string ⟨#[]⟩, .string ⟨#[]⟩, .int .i64 0, .string ⟨#[]⟩, .string ⟨#[]⟩, .string ⟨#[]⟩] 332)).alloc (.cells ([[67], f1, f2].map (fun x => Value.string ⟨x.toArray⟩)).toArray 9)) = W at *
  obtain ⟨hz, hres, hfld, hrd, hkx⟩ := hsp
  have a0 : W.cell? ⟨w.heap.size + 1, 0, none⟩ = some (.string ⟨[67].toArray⟩) := hfld.cell 0
  have a1 : W.cell? ⟨w.heap.size + 1, 1, none⟩ = some (.string ⟨f1.toArray⟩) := hfld.cell 1
  have a2 : W.cell? ⟨w.heap.size + 1, 2, none⟩ = some (.string ⟨f2.toArray⟩) := hfld.cell 2
  go_wp2_with fail
  refine (path_any b s bad f1 _ (hrd.alloc _) (by omega)).mono ?_
  rintro e w2 ⟨rfl, hr2, hk2⟩
  generalize Pu.need (Pu.isPath f1) s bad = st at *
  obtain ⟨s2, bad2⟩ := st
  have hC := (Cb.new #[.string ⟨#[67]⟩, .string ⟨#[]⟩, .int .i64 0, .string ⟨#[]⟩, .string ⟨#[]⟩, .string ⟨#[]⟩] 332 W).only hk2 (by omega)
  rw [hz] at hC
  have hR := (hres.alloc _).only hk2 hb
  have hF := (hfld.alloc _).only hk2 (by omega)
  have b2 := hF.cell 2
  have c4 := hC.cell 4
  have fc := hC.frozen
  have hsz := hk2.size
  rw [World.size_alloc, hz] at hsz
  go_wp2_with fail
  refine (path_any b s2 bad2 f2 _ (hr2.setNew (by omega) _) (by omega)).mono ?_
  rintro e w3 ⟨rfl, hr3, hk3⟩
  have hC3 := (hC.set 4 (.string ⟨f1.toArray⟩)).only hk3 (by omega)
  have hR3 := (hR.setOther (p := ⟨w.heap.size + 2, 4, none⟩) (by simp) (.string ⟨f1.toArray⟩)).only hk3 hb
  clear hC hR hF b2 c4 fc
  have hC : Cb (w.heap.size + 2) #[.string ⟨#[67]⟩, .string ⟨#[]⟩, .int .i64 0, .string ⟨#[]⟩, .string ⟨f1.toArray⟩, .string ⟨#[]⟩] 332 w3 := hC3
  have hR := hR3
  clear hC3 hR3
  have c0 := hC.cell 0
  have c1 := hC.cell 1
  have c2 := hC.cell 2
  have c3 := hC.cell 3
  have c4 := hC.cell 4
  have c5 := hC.cell 5
  have fc := hC.frozen
  have r0 := hR.cell 0
  have r1 := hR.cell 1
  have r2 := hR.cell 2
  have r3 := hR.cell 3
  have r4 := hR.cell 4
  have r5 := hR.cell 5
  have fr := hR.frozen
  clear hC hR
  go_wp2
  refine bodyPost_ret (v := .agg #[.string ⟨#[67]⟩, .string ⟨#[]⟩, .int .i64 0, .string ⟨#[]⟩, .string ⟨f1.toArray⟩, .string ⟨f2.toArray⟩]) (by simp [results, Tryz.results294, go_sem, r0, r1, r2, r3, r4, r5]) rfl ⟨by rw [HV.out]; rfl, ?_, ?_⟩
  · rw [HE.out]
    exact (((((((hr3).setNew (by omega) _).setNew (by omega) _).setNew (by omega) _).setNew (by omega) _).setNew (by omega) _).setNew (by omega) _).setNew (by omega) _
  · exact ((((((((((hkx.alloc _).trans hk2).setNew (by simp) _).trans hk3).setNew (by simp) _).setNew (by simp) _).setNew (by simp) _).setNew (by simp) _).setNew (by simp) _).setNew (by simp) _).setNew (by simp) _

set_option maxHeartbeats 1000000 in
theorem change_R (b : Nat) (l s : List UInt8) (bad : Bool) (w : World) (h : Rd b s bad w) (hl : l.length ≤ 8000) (f1 f2 : List UInt8) (hs : Lib.split l [32] = [[82], f1, f2]) :
    Calls Tryz.prog 294 #[.pointer (some ⟨b, 0, none⟩), .string ⟨l.toArray⟩] w fun e w' => e = .returned (.agg (chC (Pu.changeV l s bad))) ∧ Rd b (Pu.change l s bad).1 (Pu.change l s bad).2 w' ∧ Kx (Only b) w w' := by
  have hb := h.lt
  have HE : Hid (Pu.change l s bad = Pu.need (Pu.isPath f2) (Pu.need (Pu.isPath f1) s bad).1 (Pu.need (Pu.isPath f1) s bad).2) := by show _ = _; unfold Pu.change; rw [hs]; rfl
  have HV : Hid (Pu.changeV l s bad = ⟨[82], [], 0, [], f1, f2⟩) := by show _ = _; unfold Pu.changeV; rw [hs]; rfl
  obtain ⟨m, hm⟩ := (h.alloc (.cells #[.string ⟨#[]⟩, .string ⟨#[]⟩, .int .i64 0, .string ⟨#[]⟩, .string ⟨#[]⟩, .string ⟨#[]⟩] 332)).max
  have hsp := Sp.mk' [[82], f1, f2] h
  have HS : Hid (Lib.split l [32] = [[82], f1, f2]) := hs
  have hln := split_lens l [32]
  rw [hs] at hln
  have l1 := hln f1 (by simp)
  have l2 := hln f2 (by simp)
  clear hs hln
  go_enter Tryz.func294, Tryz.ntmps294
  go_wp2_with fail
  refine (split_any l 32 m _ hl hm).mono ?_
  rintro e w1 ⟨rfl, rfl⟩
  clear hm
  rw [HS.out]
  clear HS
  generalize ((w.alloc (.cells #[.string ⟨#[]⟩, .string ⟨#[]⟩, .int .i64 0, .string ⟨#[]⟩, .string ⟨#[]⟩, .string ⟨#[]⟩] 332)).alloc (.cells ([[82], f1, f2].map (fun x => Value.string ⟨x.toArray⟩)).toArray 9)) = W at *
  obtain ⟨hz, hres, hfld, hrd, hkx⟩ := hsp
  have a0 : W.cell? ⟨w.heap.size + 1, 0, none⟩ = some (.string ⟨[82].toArray⟩) := hfld.cell 0
  have a1 : W.cell? ⟨w.heap.size + 1, 1, none⟩ = some (.string ⟨f1.toArray⟩) := hfld.cell 1
  have a2 : W.cell? ⟨w.heap.size + 1, 2, none⟩ = some (.string ⟨f2.toArray⟩) := hfld.cell 2
  go_wp2_with fail
  refine (path_any b s bad f1 _ (hrd.alloc _) (by omega)).mono ?_
  rintro e w2 ⟨rfl, hr2, hk2⟩
  generalize Pu.need (Pu.isPath f1) s bad = st at *
  obtain ⟨s2, bad2⟩ := st
  have hC := (Cb.new #[.string ⟨#[82]⟩, .string ⟨#[]⟩, .int .i64 0, .string ⟨#[]⟩, .string ⟨#[]⟩, .string ⟨#[]⟩] 332 W).only hk2 (by omega)
  rw [hz] at hC
  have hR := (hres.alloc _).only hk2 hb
  have hF := (hfld.alloc _).only hk2 (by omega)
  have b2 := hF.cell 2
  have c4 := hC.cell 4
  have fc := hC.frozen
  have hsz := hk2.size
  rw [World.size_alloc, hz] at hsz
  go_wp2_with fail
  refine (path_any b s2 bad2 f2 _ (hr2.setNew (by omega) _) (by omega)).mono ?_
  rintro e w3 ⟨rfl, hr3, hk3⟩
  have hC3 := (hC.set 4 (.string ⟨f1.toArray⟩)).only hk3 (by omega)
  have hR3 := (hR.setOther (p := ⟨w.heap.size + 2, 4, none⟩) (by simp) (.string ⟨f1.toArray⟩)).only hk3 hb
  clear hC hR hF b2 c4 fc
  have hC : Cb (w.heap.size + 2) #[.string ⟨#[82]⟩, .string ⟨#[]⟩, .int .i64 0, .string ⟨#[]⟩, .string ⟨f1.toArray⟩, .string ⟨#[]⟩] 332 w3 := hC3
  have hR := hR3
  clear hC3 hR3
  have c0 := hC.cell 0
  have c1 := hC.cell 1
  have c2 := hC.cell 2
  have c3 := hC.cell 3
  have c4 := hC.cell 4
  have c5 := hC.cell 5
  have fc := hC.frozen
  have r0 := hR.cell 0
  have r1 := hR.cell 1
  have r2 := hR.cell 2
  have r3 := hR.cell 3
  have r4 := hR.cell 4
  have r5 := hR.cell 5
  have fr := hR.frozen
  clear hC hR
  go_wp2
  refine bodyPost_ret (v := .agg #[.string ⟨#[82]⟩, .string ⟨#[]⟩, .int .i64 0, .string ⟨#[]⟩, .string ⟨f1.toArray⟩, .string ⟨f2.toArray⟩]) (by simp [results, Tryz.results294, go_sem, r0, r1, r2, r3, r4, r5]) rfl ⟨by rw [HV.out]; rfl, ?_, ?_⟩
  · rw [HE.out]
    exact (((((((hr3).setNew (by omega) _).setNew (by omega) _).setNew (by omega) _).setNew (by omega) _).setNew (by omega) _).setNew (by omega) _).setNew (by omega) _
  · exact ((((((((((hkx.alloc _).trans hk2).setNew (by simp) _).trans hk3).setNew (by simp) _).setNew (by simp) _).setNew (by simp) _).setNew (by simp) _).setNew (by simp) _).setNew (by simp) _).setNew (by simp) _

end Go.Proofs.YtepgoppgblfjbaaGreatDoor
