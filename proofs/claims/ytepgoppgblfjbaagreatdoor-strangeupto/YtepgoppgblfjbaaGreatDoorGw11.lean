import Derived.Test.YtepgoppgblfjbaaGreatDoorGw10
import Derived.Test.YtepgoppgblfjbaaGreatDoorGw09
namespace Go.Proofs.YtepgoppgblfjbaaGreatDoor
open Go.RowKit

def chC (c : Pu.Ch) : Array Value := #[.string ⟨c.word.toArray⟩, .string ⟨c.mode.toArray⟩, .int .i64 c.mark, .string ⟨c.data.toArray⟩, .string ⟨c.path.toArray⟩, .string ⟨c.to.toArray⟩]

structure Sp (b : Nat) (s : List UInt8) (bad : Bool) (L : List (List UInt8)) (w W : World) : Prop where
  size : W.heap.size = w.heap.size + 2
  res : Cb w.heap.size #[.string ⟨#[]⟩, .string ⟨#[]⟩, .int .i64 0, .string ⟨#[]⟩, .string ⟨#[]⟩, .string ⟨#[]⟩] 332 W
  fld : Cb (w.heap.size + 1) (L.map (fun x => Value.string ⟨x.toArray⟩)).toArray 9 W
  rd : Rd b s bad W
  kx : Kx (Only b) w W

theorem Sp.mk' {b : Nat} {s : List UInt8} {bad : Bool} (L : List (List UInt8)) {w : World} (h : Rd b s bad w) :
    Sp b s bad L w ((w.alloc (.cells #[.string ⟨#[]⟩, .string ⟨#[]⟩, .int .i64 0, .string ⟨#[]⟩, .string ⟨#[]⟩, .string ⟨#[]⟩] 332)).alloc (.cells (L.map (fun x => Value.string ⟨x.toArray⟩)).toArray 9)) := by
  refine ⟨by simp, (Cb.new _ _ _).alloc _, ?_, (h.alloc _).alloc _, ((Kx.refl _ _).alloc _).alloc _⟩
  have := Cb.new (L.map (fun x => Value.string ⟨x.toArray⟩)).toArray 9 (w.alloc (.cells #[.string ⟨#[]⟩, .string ⟨#[]⟩, .int .i64 0, .string ⟨#[]⟩, .string ⟨#[]⟩, .string ⟨#[]⟩] 332))
  rw [World.size_alloc] at this
  exact this

theorem split_pos (s : List UInt8) (c : UInt8) : ∃ f0 r, Lib.split s [c] = f0 :: r := by
  unfold Lib.split
  cases Lib.count s [c] with
  | zero => exact ⟨_, _, by unfold Lib.splitK; rfl⟩
  | succ k => unfold Lib.splitK; split <;> exact ⟨_, _, rfl⟩

theorem change_none (l s : List UInt8) (bad : Bool) (f0 : List UInt8) (r : List (List UInt8)) (hs : Lib.split l [32] = f0 :: r)
    (h1 : ¬ (f0 = [77] ∧ r.length = 3)) (h2 : ¬ (f0 = [68] ∧ r.length = 1)) (h3 : ¬ ((f0 = [67] ∨ f0 = [82]) ∧ r.length = 2)) :
    Pu.change l s bad = Pu.need (l == Pu.sAll) s bad ∧ Pu.changeV l s bad = ⟨f0, [], 0, [], [], []⟩ := by
  unfold Pu.change Pu.changeV
  rw [hs]
  match r with
  | [] => exact ⟨rfl, rfl⟩
  | [f1] => simp only; rw [if_neg (by simpa using h2), if_neg (by simpa using h2)]; exact ⟨rfl, rfl⟩
  | [f1, f2] => simp only; rw [if_neg (by simpa using h3), if_neg (by simpa using h3)]; exact ⟨rfl, rfl⟩
  | [f1, f2, f3] => simp only; rw [if_neg (by simpa using h1), if_neg (by simpa using h1)]; exact ⟨rfl, rfl⟩
  | f1 :: f2 :: f3 :: f4 :: r => exact ⟨rfl, rfl⟩

set_option maxHeartbeats 1000000 in
theorem change_default (b : Nat) (l s : List UInt8) (bad : Bool) (w : World) (h : Rd b s bad w) (hl : l.length ≤ 8000) (f0 : List UInt8) (r : List (List UInt8)) (hs : Lib.split l [32] = f0 :: r)
    (hcase : ((f0 == [77]) = true ∧ (f0 == [68]) = false ∧ (f0 == [67]) = false ∧ (f0 == [82]) = false ∧ ((r.length : Int) + 1 == 4) = false) ∨ ((f0 == [77]) = false ∧ (f0 == [68]) = true ∧ (f0 == [67]) = false ∧ (f0 == [82]) = false ∧ ((r.length : Int) + 1 == 2) = false) ∨ ((f0 == [77]) = false ∧ (f0 == [68]) = false ∧ (f0 == [67]) = true ∧ (f0 == [82]) = false ∧ ((r.length : Int) + 1 == 3) = false) ∨ ((f0 == [77]) = false ∧ (f0 == [68]) = false ∧ (f0 == [67]) = false ∧ (f0 == [82]) = true ∧ ((r.length : Int) + 1 == 3) = false) ∨ ((f0 == [77]) = false ∧ (f0 == [68]) = false ∧ (f0 == [67]) = false ∧ (f0 == [82]) = false))
    (hE : Pu.change l s bad = Pu.need (l == Pu.sAll) s bad ∧ Pu.changeV l s bad = ⟨f0, [], 0, [], [], []⟩) :
    Calls Tryz.prog 294 #[.pointer (some ⟨b, 0, none⟩), .string ⟨l.toArray⟩] w fun e w' => e = .returned (.agg (chC (Pu.changeV l s bad))) ∧ Rd b (Pu.change l s bad).1 (Pu.change l s bad).2 w' ∧ Kx (Only b) w w' := by
  have hb := h.lt
  have HE : Hid (Pu.change l s bad = Pu.need (l == Pu.sAll) s bad) := hE.1
  have HV : Hid (Pu.changeV l s bad = ⟨f0, [], 0, [], [], []⟩) := hE.2
  clear hE
  obtain ⟨m, hm⟩ := (h.alloc (.cells #[.string ⟨#[]⟩, .string ⟨#[]⟩, .int .i64 0, .string ⟨#[]⟩, .string ⟨#[]⟩, .string ⟨#[]⟩] 332)).max
  have hsp := Sp.mk' (f0 :: r) h
  have HS : Hid (Lib.split l [32] = f0 :: r) := hs
  clear hs
  go_enter Tryz.func294, Tryz.ntmps294
  go_wp2_with fail
  refine (split_any l 32 m _ hl hm).mono ?_
  rintro e w1 ⟨rfl, rfl⟩
  clear hm
  rw [HS.out]
  generalize ((w.alloc (.cells #[.string ⟨#[]⟩, .string ⟨#[]⟩, .int .i64 0, .string ⟨#[]⟩, .string ⟨#[]⟩, .string ⟨#[]⟩] 332)).alloc (.cells ((f0 :: r).map (fun x => Value.string ⟨x.toArray⟩)).toArray 9)) = W at *
  obtain ⟨hz, hres, hfld, hrd, hkx⟩ := hsp
  have a0 : W.cell? ⟨w.heap.size + 1, 0, none⟩ = some (.string ⟨f0.toArray⟩) := hfld.cell 0
  rcases hcase with ⟨q1, q2, q3, q4, hn⟩ | ⟨q1, q2, q3, q4, hn⟩ | ⟨q1, q2, q3, q4, hn⟩ | ⟨q1, q2, q3, q4, hn⟩ | ⟨q1, q2, q3, q4⟩
  all_goals
    go_wp2_with fail
    refine (need_any b s bad _ _ (hrd.alloc _)).mono ?_
    rintro e w2 ⟨rfl, hr2, hk2⟩
    have hC := (Cb.new #[.string ⟨f0.toArray⟩, .string ⟨#[]⟩, .int .i64 0, .string ⟨#[]⟩, .string ⟨#[]⟩, .string ⟨#[]⟩] 332 W).only hk2 (by omega)
    rw [hz] at hC
    have hR := (hres.alloc _).only hk2 hb
    have c0 := hC.cell 0
    have c1 := hC.cell 1
    have c2 := hC.cell 2
    have c3 := hC.cell 3
    have c4 := hC.cell 4
    have c5 := hC.cell 5
    have r0 := hR.cell 0
    have r1 := hR.cell 1
    have r2 := hR.cell 2
    have r3 := hR.cell 3
    have r4 := hR.cell 4
    have r5 := hR.cell 5
    have fr := hR.frozen
    clear hC hR
    go_wp2
    refine bodyPost_ret (v := .agg #[.string ⟨f0.toArray⟩, .string ⟨#[]⟩, .int .i64 0, .string ⟨#[]⟩, .string ⟨#[]⟩, .string ⟨#[]⟩]) (by simp [results, Tryz.results294, go_sem, r0, r1, r2, r3, r4, r5]) rfl ⟨by rw [HV.out]; rfl, ?_, ?_⟩
    · rw [HE.out]
      exact (((((hr2.setNew hb _).setNew hb _).setNew hb _).setNew hb _).setNew hb _).setNew hb _
    · exact ((((((((hkx.alloc _).trans hk2).setNew (Nat.le_refl _) _).setNew (Nat.le_refl _) _).setNew (Nat.le_refl _) _).setNew (Nat.le_refl _) _).setNew (Nat.le_refl _) _).setNew (Nat.le_refl _) _)

set_option maxHeartbeats 1000000 in
theorem change_D (b : Nat) (l s : List UInt8) (bad : Bool) (w : World) (h : Rd b s bad w) (hl : l.length ≤ 8000) (f1 : List UInt8) (hs : Lib.split l [32] = [[68], f1]) :
    Calls Tryz.prog 294 #[.pointer (some ⟨b, 0, none⟩), .string ⟨l.toArray⟩] w fun e w' => e = .returned (.agg (chC (Pu.changeV l s bad))) ∧ Rd b (Pu.change l s bad).1 (Pu.change l s bad).2 w' ∧ Kx (Only b) w w' := by
  have hb := h.lt
  have HE : Hid (Pu.change l s bad = Pu.need (Pu.isPath f1) s bad) := by show _ = _; unfold Pu.change; rw [hs]; rfl
  have HV : Hid (Pu.changeV l s bad = ⟨[68], [], 0, [], f1, []⟩) := by show _ = _; unfold Pu.changeV; rw [hs]; rfl
  obtain ⟨m, hm⟩ := (h.alloc (.cells #[.string ⟨#[]⟩, .string ⟨#[]⟩, .int .i64 0, .string ⟨#[]⟩, .string ⟨#[]⟩, .string ⟨#[]⟩] 332)).max
  have hsp := Sp.mk' [[68], f1] h
  have HS : Hid (Lib.split l [32] = [[68], f1]) := hs
  have hln := split_lens l [32]
  rw [hs] at hln
  have l1 := hln f1 (by simp)
  clear hs hln
  go_enter Tryz.func294, Tryz.ntmps294
  go_wp2_with fail
  refine (split_any l 32 m _ hl hm).mono ?_
  rintro e w1 ⟨rfl, rfl⟩
  clear hm
  rw [HS.out]
  clear HS
  generalize ((w.alloc (.cells #[.string ⟨#[]⟩, .string ⟨#[]⟩, .int .i64 0, .string ⟨#[]⟩, .string ⟨#[]⟩, .string ⟨#[]⟩] 332)).alloc (.cells ([[68], f1].map (fun x => Value.string ⟨x.toArray⟩)).toArray 9)) = W at *
  obtain ⟨hz, hres, hfld, hrd, hkx⟩ := hsp
  have a0 : W.cell? ⟨w.heap.size + 1, 0, none⟩ = some (.string ⟨[68].toArray⟩) := hfld.cell 0
  have a1 : W.cell? ⟨w.heap.size + 1, 1, none⟩ = some (.string ⟨f1.toArray⟩) := hfld.cell 1
  go_wp2_with fail
  refine (path_any b s bad f1 _ (hrd.alloc _) (by omega)).mono ?_
  rintro e w2 ⟨rfl, hr2, hk2⟩
  have hC := (Cb.new #[.string ⟨#[68]⟩, .string ⟨#[]⟩, .int .i64 0, .string ⟨#[]⟩, .string ⟨#[]⟩, .string ⟨#[]⟩] 332 W).only hk2 (by omega)
  rw [hz] at hC
  have hR := (hres.alloc _).only hk2 hb
  have c0 := hC.cell 0
  have c1 := hC.cell 1
  have c2 := hC.cell 2
  have c3 := hC.cell 3
  have c4 := hC.cell 4
  have c5 := hC.cell 5
  have fc := hC.frozen
  have r0 := hR.cell 0
  have r1 := hR.cell 1
  have r2 := hR.cell 2
  have r3 := hR.cell 3
  have r4 := hR.cell 4
  have r5 := hR.cell 5
  have fr := hR.frozen
  clear hC hR
  go_wp2
  refine bodyPost_ret (v := .agg #[.string ⟨#[68]⟩, .string ⟨#[]⟩, .int .i64 0, .string ⟨#[]⟩, .string ⟨f1.toArray⟩, .string ⟨#[]⟩]) (by simp [results, Tryz.results294, go_sem, r0, r1, r2, r3, r4, r5]) rfl ⟨by rw [HV.out]; rfl, ?_, ?_⟩
  · rw [HE.out]
    exact (((((((hr2).setNew (by omega) _).setNew (by omega) _).setNew (by omega) _).setNew (by omega) _).setNew (by omega) _).setNew (by omega) _).setNew (by omega) _
  · exact ((((((((hkx.alloc _).trans hk2).setNew (by simp) _).setNew (by simp) _).setNew (by simp) _).setNew (by simp) _).setNew (by simp) _).setNew (by simp) _).setNew (by simp) _

set_option maxHeartbeats 1000000 in
theorem change_C (b : Nat) (l s : List UInt8) (bad : Bool) (w : World) (h : Rd b s bad w) (hl : l.length ≤ 8000) (f1 f2 : List UInt8) (hs : Lib.split l [32] = [[67], f1, f2]) :
    Calls Tryz.prog 294 #[.pointer (some ⟨b, 0, none⟩), .string ⟨l.toArray⟩] w fun e w' => e = .returned (.agg (chC (Pu.changeV l s bad))) ∧ Rd b (Pu.change l s bad).1 (Pu.change l s bad).2 w' ∧ Kx (Only b) w w' := by
  have hb := h.lt
  have HE : Hid (Pu.change l s bad = Pu.need (Pu.isPath f2) (Pu.need (Pu.isPath f1) s bad).1 (Pu.need (Pu.isPath f1) s bad).2) := by show _ = _; unfold Pu.change; rw [hs]; rfl
  have HV : Hid (Pu.changeV l s bad = ⟨[67], [], 0, [], f1, f2⟩) := by show _ = _; unfold Pu.changeV; rw [hs]; rfl
  obtain ⟨m, hm⟩ := (h.alloc (.cells #[.string ⟨#[]⟩, .string ⟨#[]⟩, .int .i64 0, .string ⟨#[]⟩, .string ⟨#[]⟩, .string ⟨#[]⟩] 332)).max
  have hsp := Sp.mk' [[67], f1, f2] h
  have HS : Hid (Lib.split l [32] = [[67], f1, f2]) := hs
  have hln := split_lens l [32]
  rw [hs] at hln
  have l1 := hln f1 (by simp)
  have l2 := hln f2 (by simp)
  clear hs hln
  go_enter Tryz.func294, Tryz.ntmps294
  go_wp2_with fail
  refine (split_any l 32 m _ hl hm).mono ?_
  rintro e w1 ⟨rfl, rfl⟩
  clear hm
  rw [HS.out]
  clear HS
  generalize ((w.alloc (.cells #[.string ⟨#[]⟩, .string ⟨#[]⟩, .int .i64 0, .string ⟨#[]⟩, .string ⟨#[]⟩, .string ⟨#[]⟩] 332)).alloc (.cells ([[67], f1, f2].map (fun x => Value.string ⟨x.toArray⟩)).toArray 9)) = W at *
  obtain ⟨hz, hres, hfld, hrd, hkx⟩ := hsp
  have a0 : W.cell? ⟨w.heap.size + 1, 0, none⟩ = some (.string ⟨[67].toArray⟩) := hfld.cell 0
  have a1 : W.cell? ⟨w.heap.size + 1, 1, none⟩ = some (.string ⟨f1.toArray⟩) := hfld.cell 1
  have a2 : W.cell? ⟨w.heap.size + 1, 2, none⟩ = some (.string ⟨f2.toArray⟩) := hfld.cell 2
  go_wp2_with fail
  refine (path_any b s bad f1 _ (hrd.alloc _) (by omega)).mono ?_
  rintro e w2 ⟨rfl, hr2, hk2⟩
  generalize Pu.need (Pu.isPath f1) s bad = st at *
  obtain ⟨s2, bad2⟩ := st
  have hC := (Cb.new #[.string ⟨#[67]⟩, .string ⟨#[]⟩, .int .i64 0, .string ⟨#[]⟩, .string ⟨#[]⟩, .string ⟨#[]⟩] 332 W).only hk2 (by omega)
  rw [hz] at hC
  have hR := (hres.alloc _).only hk2 hb
  have hF := (hfld.alloc _).only hk2 (by omega)
  have b2 := hF.cell 2
  have c4 := hC.cell 4
  have fc := hC.frozen
  have hsz := hk2.size
  rw [World.size_alloc, hz] at hsz
  go_wp2_with fail
  refine (path_any b s2 bad2 f2 _ (hr2.setNew (by omega) _) (by omega)).mono ?_
  rintro e w3 ⟨rfl, hr3, hk3⟩
  have hC3 := (hC.set 4 (.string ⟨f1.toArray⟩)).only hk3 (by omega)
  have hR3 := (hR.setOther (p := ⟨w.heap.size + 2, 4, none⟩) (by simp) (.string ⟨f1.toArray⟩)).only hk3 hb
  clear hC hR hF b2 c4 fc
  have hC : Cb (w.heap.size + 2) #[.string ⟨#[67]⟩, .string ⟨#[]⟩, .int .i64 0, .string ⟨#[]⟩, .string ⟨f1.toArray⟩, .string ⟨#[]⟩] 332 w3 := hC3
  have hR := hR3
  clear hC3 hR3
  have c0 := hC.cell 0
  have c1 := hC.cell 1
  have c2 := hC.cell 2
  have c3 := hC.cell 3
  have c4 := hC.cell 4
  have c5 := hC.cell 5
  have fc := hC.frozen
  have r0 := hR.cell 0
  have r1 := hR.cell 1
  have r2 := hR.cell 2
  have r3 := hR.cell 3
  have r4 := hR.cell 4
  have r5 := hR.cell 5
  have fr := hR.frozen
  clear hC hR
  go_wp2
  refine bodyPost_ret (v := .agg #[.string ⟨#[67]⟩, .string ⟨#[]⟩, .int .i64 0, .string ⟨#[]⟩, .string ⟨f1.toArray⟩, .string ⟨f2.toArray⟩]) (by simp [results, Tryz.results294, go_sem, r0, r1, r2, r3, r4, r5]) rfl ⟨by rw [HV.out]; rfl, ?_, ?_⟩
  · rw [HE.out]
    exact (((((((hr3).setNew (by omega) _).setNew (by omega) _).setNew (by omega) _).setNew (by omega) _).setNew (by omega) _).setNew (by omega) _).setNew (by omega) _
  · exact ((((((((((hkx.alloc _).trans hk2).setNew (by simp) _).trans hk3).setNew (by simp) _).setNew (by simp) _).setNew (by simp) _).setNew (by simp) _).setNew (by simp) _).setNew (by simp) _).setNew (by simp) _

set_option maxHeartbeats 1000000 in
theorem change_R (b : Nat) (l s : List UInt8) (bad : Bool) (w : World) (h : Rd b s bad w) (hl : l.length ≤ 8000) (f1 f2 : List UInt8) (hs : Lib.split l [32] = [[82], f1, f2]) :
    Calls Tryz.prog 294 #[.pointer (some ⟨b, 0, none⟩), .string ⟨l.toArray⟩] w fun e w' => e = .returned (.agg (chC (Pu.changeV l s bad))) ∧ Rd b (Pu.change l s bad).1 (Pu.change l s bad).2 w' ∧ Kx (Only b) w w' := by
  have hb := h.lt
  have HE : Hid (Pu.change l s bad = Pu.need (Pu.isPath f2) (Pu.need (Pu.isPath f1) s bad).1 (Pu.need (Pu.isPath f1) s bad).2) := by show _ = _; unfold Pu.change; rw [hs]; rfl
  have HV : Hid (Pu.changeV l s bad = ⟨[82], [], 0, [], f1, f2⟩) := by show _ = _; unfold Pu.changeV; rw [hs]; rfl
  obtain ⟨m, hm⟩ := (h.alloc (.cells #[.string ⟨#[]⟩, .string ⟨#[]⟩, .int .i64 0, .string ⟨#[]⟩, .string ⟨#[]⟩, .string ⟨#[]⟩] 332)).max
  have hsp := Sp.mk' [[82], f1, f2] h
  have HS : Hid (Lib.split l [32] = [[82], f1, f2]) := hs
  have hln := split_lens l [32]
  rw [hs] at hln
  have l1 := hln f1 (by simp)
  have l2 := hln f2 (by simp)
  clear hs hln
  go_enter Tryz.func294, Tryz.ntmps294
  go_wp2_with fail
  refine (split_any l 32 m _ hl hm).mono ?_
  rintro e w1 ⟨rfl, rfl⟩
  clear hm
  rw [HS.out]
  clear HS
  generalize ((w.alloc (.cells #[.string ⟨#[]⟩, .string ⟨#[]⟩, .int .i64 0, .string ⟨#[]⟩, .string ⟨#[]⟩, .string ⟨#[]⟩] 332)).alloc (.cells ([[82], f1, f2].map (fun x => Value.string ⟨x.toArray⟩)).toArray 9)) = W at *
  obtain ⟨hz, hres, hfld, hrd, hkx⟩ := hsp
  have a0 : W.cell? ⟨w.heap.size + 1, 0, none⟩ = some (.string ⟨[82].toArray⟩) := hfld.cell 0
  have a1 : W.cell? ⟨w.heap.size + 1, 1, none⟩ = some (.string ⟨f1.toArray⟩) := hfld.cell 1
  have a2 : W.cell? ⟨w.heap.size + 1, 2, none⟩ = some (.string ⟨f2.toArray⟩) := hfld.cell 2
  go_wp2_with fail
  refine (path_any b s bad f1 _ (hrd.alloc _) (by omega)).mono ?_
  rintro e w2 ⟨rfl, hr2, hk2⟩
  generalize Pu.need (Pu.isPath f1) s bad = st at *
  obtain ⟨s2, bad2⟩ := st
  have hC := (Cb.new #[.string ⟨#[82]⟩, .string ⟨#[]⟩, .int .i64 0, .string ⟨#[]⟩, .string ⟨#[]⟩, .string ⟨#[]⟩] 332 W).only hk2 (by omega)
  rw [hz] at hC
  have hR := (hres.alloc _).only hk2 hb
  have hF := (hfld.alloc _).only hk2 (by omega)
  have b2 := hF.cell 2
  have c4 := hC.cell 4
  have fc := hC.frozen
  have hsz := hk2.size
  rw [World.size_alloc, hz] at hsz
  go_wp2_with fail
  refine (path_any b s2 bad2 f2 _ (hr2.setNew (by omega) _) (by omega)).mono ?_
  rintro e w3 ⟨rfl, hr3, hk3⟩
  have hC3 := (hC.set 4 (.string ⟨f1.toArray⟩)).only hk3 (by omega)
  have hR3 := (hR.setOther (p := ⟨w.heap.size + 2, 4, none⟩) (by simp) (.string ⟨f1.toArray⟩)).only hk3 hb
  clear hC hR hF b2 c4 fc
  have hC : Cb (w.heap.size + 2) #[.string ⟨#[82]⟩, .string ⟨#[]⟩, .int .i64 0, .string ⟨#[]⟩, .string ⟨f1.toArray⟩, .string ⟨#[]⟩] 332 w3 := hC3
  have hR := hR3
  clear hC3 hR3
  have c0 := hC.cell 0
  have c1 := hC.cell 1
  have c2 := hC.cell 2
  have c3 := hC.cell 3
  have c4 := hC.cell 4
  have c5 := hC.cell 5
  have fc := hC.frozen
  have r0 := hR.cell 0
  have r1 := hR.cell 1
  have r2 := hR.cell 2
  have r3 := hR.cell 3
  have r4 := hR.cell 4
  have r5 := hR.cell 5
  have fr := hR.frozen
  clear hC hR
  go_wp2
  refine bodyPost_ret (v := .agg #[.string ⟨#[82]⟩, .string ⟨#[]⟩, .int .i64 0, .string ⟨#[]⟩, .string ⟨f1.toArray⟩, .string ⟨f2.toArray⟩]) (by simp [results, Tryz.results294, go_sem, r0, r1, r2, r3, r4, r5]) rfl ⟨by rw [HV.out]; rfl, ?_, ?_⟩
  · rw [HE.out]
    exact (((((((hr3).setNew (by omega) _).setNew (by omega) _).setNew (by omega) _).setNew (by omega) _).setNew (by omega) _).setNew (by omega) _).setNew (by omega) _
  · exact ((((((((((hkx.alloc _).trans hk2).setNew (by simp) _).trans hk3).setNew (by simp) _).setNew (by simp) _).setNew (by simp) _).setNew (by simp) _).setNew (by simp) _).setNew (by simp) _).setNew (by simp) _

set_option maxHeartbeats 1000000 in
theorem change_M (b : Nat) (l s : List UInt8) (bad : Bool) (w : World) (h : Rd b s bad w) (hl : l.length ≤ 8000) (f1 f2 f3 : List UInt8) (hs : Lib.split l [32] = [[77], f1, f2, f3]) :
    Calls Tryz.prog 294 #[.pointer (some ⟨b, 0, none⟩), .string ⟨l.toArray⟩] w fun e w' => e = .returned (.agg (chC (Pu.changeV l s bad))) ∧ Rd b (Pu.change l s bad).1 (Pu.change l s bad).2 w' ∧ Kx (Only b) w w' := by
  have hb := h.lt
  have HE : Hid (Pu.change l s bad = Pu.changeM f1 f2 f3 s bad) := by show _ = _; unfold Pu.change; rw [hs]; rfl
  have HV : Hid (Pu.changeV l s bad = ⟨[77], f1, (Pu.contentV f2 (Pu.need (Pu.isPath f3) (Pu.need (f1 == Pu.s644 || f1 == Pu.s755) s bad).1 (Pu.need (f1 == Pu.s644 || f1 == Pu.s755) s bad).2).1 (Pu.need (Pu.isPath f3) (Pu.need (f1 == Pu.s644 || f1 == Pu.s755) s bad).1 (Pu.need (f1 == Pu.s644 || f1 == Pu.s755) s bad).2).2).1, (Pu.contentV f2 (Pu.need (Pu.isPath f3) (Pu.need (f1 == Pu.s644 || f1 == Pu.s755) s bad).1 (Pu.need (f1 == Pu.s644 || f1 == Pu.s755) s bad).2).1 (Pu.need (Pu.isPath f3) (Pu.need (f1 == Pu.s644 || f1 == Pu.s755) s bad).1 (Pu.need (f1 == Pu.s644 || f1 == Pu.s755) s bad).2).2).2, f3, []⟩) := by show _ = _; unfold Pu.changeV; rw [hs]; rfl
  obtain ⟨m, hm⟩ := (h.alloc (.cells #[.string ⟨#[]⟩, .string ⟨#[]⟩, .int .i64 0, .string ⟨#[]⟩, .string ⟨#[]⟩, .string ⟨#[]⟩] 332)).max
  have hsp := Sp.mk' [[77], f1, f2, f3] h
  have HS : Hid (Lib.split l [32] = [[77], f1, f2, f3]) := hs
  have hln := split_lens l [32]
  rw [hs] at hln
  have l1 := hln f1 (by simp)
  have l2 := hln f2 (by simp)
  have l3 := hln f3 (by simp)
  clear hs hln
  go_enter Tryz.func294, Tryz.ntmps294
  go_wp2_with fail
  refine (split_any l 32 m _ hl hm).mono ?_
  rintro e w1 ⟨rfl, rfl⟩
  clear hm
  rw [HS.out]
  clear HS
  generalize ((w.alloc (.cells #[.string ⟨#[]⟩, .string ⟨#[]⟩, .int .i64 0, .string ⟨#[]⟩, .string ⟨#[]⟩, .string ⟨#[]⟩] 332)).alloc (.cells ([[77], f1, f2, f3].map (fun x => Value.string ⟨x.toArray⟩)).toArray 9)) = W at *
  obtain ⟨hz, hres, hfld, hrd, hkx⟩ := hsp
  have a0 : W.cell? ⟨w.heap.size + 1, 0, none⟩ = some (.string ⟨[77].toArray⟩) := hfld.cell 0
  have a1 : W.cell? ⟨w.heap.size + 1, 1, none⟩ = some (.string ⟨f1.toArray⟩) := hfld.cell 1
  have a2 : W.cell? ⟨w.heap.size + 1, 2, none⟩ = some (.string ⟨f2.toArray⟩) := hfld.cell 2
  have a3 : W.cell? ⟨w.heap.size + 1, 3, none⟩ = some (.string ⟨f3.toArray⟩) := hfld.cell 3
  go_wp2_with fail
  unfold Pu.changeM at HE
  refine (mode_any b s bad f1 _ (hrd.alloc _)).mono ?_
  rintro e w2 ⟨rfl, hr2, hk2⟩
  generalize Pu.need (f1 == Pu.s644 || f1 == Pu.s755) s bad = st at *
  obtain ⟨s2, bad2⟩ := st
  have hC := (Cb.new #[.string ⟨#[77]⟩, .string ⟨#[]⟩, .int .i64 0, .string ⟨#[]⟩, .string ⟨#[]⟩, .string ⟨#[]⟩] 332 W).only hk2 (by omega)
  rw [hz] at hC
  have hR := (hres.alloc _).only hk2 hb
  have hF := (hfld.alloc _).only hk2 (by omega)
  have b3 := hF.cell 3
  have c1 := hC.cell 1
  have fc := hC.frozen
  have hsz := hk2.size
  rw [World.size_alloc, hz] at hsz
  go_wp2_with fail
  refine (path_any b s2 bad2 f3 _ (hr2.setNew (by omega) _) (by omega)).mono ?_
  rintro e w3 ⟨rfl, hr3, hk3⟩
  generalize Pu.need (Pu.isPath f3) s2 bad2 = st at *
  obtain ⟨s3, bad3⟩ := st
  have hC3 := (hC.set 1 (.string ⟨f1.toArray⟩)).only hk3 (by omega)
  have hR3 := (hR.setOther (p := ⟨w.heap.size + 2, 1, none⟩) (by simp) (.string ⟨f1.toArray⟩)).only hk3 hb
  have hF3 := (hF.setOther (p := ⟨w.heap.size + 2, 1, none⟩) (by simp) (.string ⟨f1.toArray⟩)).only hk3 (by omega)
  clear hC hR hF b3 c1 fc
  have hC : Cb (w.heap.size + 2) #[.string ⟨#[77]⟩, .string ⟨f1.toArray⟩, .int .i64 0, .string ⟨#[]⟩, .string ⟨#[]⟩, .string ⟨#[]⟩] 332 w3 := hC3
  clear hC3
  have hsz3 := hk3.size
  rw [World.size_setCell] at hsz3
  have b2 := hF3.cell 2
  have c4 := hC.cell 4
  have fc := hC.frozen
  go_wp2_with fail
  refine (content_any b s3 bad3 f2 _ (hr3.setNew (by omega) _) (by omega)).mono ?_
  rintro e w4 ⟨rfl, hr4, hk4⟩
  generalize Pu.contentV f2 s3 bad3 = cv at *
  obtain ⟨n, d⟩ := cv
  have hC4 := (hC.set 4 (.string ⟨f3.toArray⟩)).only hk4 (by omega)
  have hR := (hR3.setOther (p := ⟨w.heap.size + 2, 4, none⟩) (by simp) (.string ⟨f3.toArray⟩)).only hk4 hb
  clear hC hR3 hF3 b2 c4 fc
  have hC : Cb (w.heap.size + 2) #[.string ⟨#[77]⟩, .string ⟨f1.toArray⟩, .int .i64 0, .string ⟨#[]⟩, .string ⟨f3.toArray⟩, .string ⟨#[]⟩] 332 w4 := hC4
  clear hC4
  have c0 := hC.cell 0
  have c1 := hC.cell 1
  have c2 := hC.cell 2
  have c3 := hC.cell 3
  have c4 := hC.cell 4
  have c5 := hC.cell 5
  have fc := hC.frozen
  have r0 := hR.cell 0
  have r1 := hR.cell 1
  have r2 := hR.cell 2
  have r3 := hR.cell 3
  have r4 := hR.cell 4
  have r5 := hR.cell 5
  have fr := hR.frozen
  clear hC hR
  go_wp2
  refine bodyPost_ret (v := .agg #[.string ⟨#[77]⟩, .string ⟨f1.toArray⟩, .int .i64 n, .string ⟨d.toArray⟩, .string ⟨f3.toArray⟩, .string ⟨#[]⟩]) (by simp [results, Tryz.results294, go_sem, r0, r1, r2, r3, r4, r5]) rfl ⟨by rw [HV.out]; rfl, ?_, ?_⟩
  · rw [HE.out]
    exact ((((((((hr4).setNew (by omega) _).setNew (by omega) _).setNew (by omega) _).setNew (by omega) _).setNew (by omega) _).setNew (by omega) _).setNew (by omega) _).setNew (by omega) _
  · exact (((((((((((((hkx.alloc _).trans hk2).setNew (by simp) _).trans hk3).setNew (by simp) _).trans hk4).setNew (by simp) _).setNew (by simp) _).setNew (by simp) _).setNew (by simp) _).setNew (by simp) _).setNew (by simp) _).setNew (by simp) _).setNew (by simp) _

theorem change_any (b : Nat) (l s : List UInt8) (bad : Bool) (w : World) (h : Rd b s bad w) (hl : l.length ≤ 8000) :
    Calls Tryz.prog 294 #[.pointer (some ⟨b, 0, none⟩), .string ⟨l.toArray⟩] w fun e w' => e = .returned (.agg (chC (Pu.changeV l s bad))) ∧ Rd b (Pu.change l s bad).1 (Pu.change l s bad).2 w' ∧ Kx (Only b) w w' := by
  obtain ⟨f0, r, hs⟩ := split_pos l 32
  by_cases h1 : f0 = [77] ∧ r.length = 3
  · obtain ⟨rfl, hr⟩ := h1
    match r, hr with
    | [f1, f2, f3], _ => exact change_M b l s bad w h hl f1 f2 f3 hs
  by_cases h2 : f0 = [68] ∧ r.length = 1
  · obtain ⟨rfl, hr⟩ := h2
    match r, hr with
    | [f1], _ => exact change_D b l s bad w h hl f1 hs
  by_cases h3 : f0 = [67] ∧ r.length = 2
  · obtain ⟨rfl, hr⟩ := h3
    match r, hr with
    | [f1, f2], _ => exact change_C b l s bad w h hl f1 f2 hs
  by_cases h4 : f0 = [82] ∧ r.length = 2
  · obtain ⟨rfl, hr⟩ := h4
    match r, hr with
    | [f1, f2], _ => exact change_R b l s bad w h hl f1 f2 hs
  have hE := change_none l s bad f0 r hs h1 h2 (by rintro ⟨rfl | rfl, h5⟩ <;> simp_all)
  refine change_default b l s bad w h hl f0 r hs ?_ hE
  by_cases e1 : f0 = [77]
  · subst e1
    exact Or.inl ⟨rfl, rfl, rfl, rfl, beq_eq_false_iff_ne.2 (fun h5 => h1 ⟨rfl, by omega⟩)⟩
  by_cases e2 : f0 = [68]
  · subst e2
    exact Or.inr (Or.inl ⟨rfl, rfl, rfl, rfl, beq_eq_false_iff_ne.2 (fun h5 => h2 ⟨rfl, by omega⟩)⟩)
  by_cases e3 : f0 = [67]
  · subst e3
    exact Or.inr (Or.inr (Or.inl ⟨rfl, rfl, rfl, rfl, beq_eq_false_iff_ne.2 (fun h5 => h3 ⟨rfl, by omega⟩)⟩))
  by_cases e4 : f0 = [82]
  · subst e4
    exact Or.inr (Or.inr (Or.inr (Or.inl ⟨rfl, rfl, rfl, rfl, beq_eq_false_iff_ne.2 (fun h5 => h4 ⟨rfl, by omega⟩)⟩)))
  exact Or.inr (Or.inr (Or.inr (Or.inr ⟨beq_eq_false_iff_ne.2 e1, beq_eq_false_iff_ne.2 e2, beq_eq_false_iff_ne.2 e3, beq_eq_false_iff_ne.2 e4⟩)))

def Reads (w : World) (v : Value) (n : Nat) (cs : List Value) : Prop :=
  ∃ q c, v = .slice q n c ∧ n ≤ c ∧ (n ≠ 0 → ∃ g o, q = some ⟨g, o, none⟩ ∧ ∀ k x, cs[k]? = some x → w.cell? ⟨g, o + k, none⟩ = some x)

theorem Reads.kept {w w' : World} {v : Value} {n : Nat} {cs : List Value} {X : Nat → Prop} (h : Reads w v n cs) (hk : Kx X w w') (hX : ∀ k, v.ownBlock = some k → ¬ X k) : Reads w' v n cs := by
  obtain ⟨q, c, rfl, hc, hr⟩ := h
  refine ⟨q, c, rfl, hc, fun hne => ?_⟩
  obtain ⟨g, o, rfl, hcell⟩ := hr hne
  refine ⟨g, o, rfl, fun k x hx => ?_⟩
  have := hcell k x hx
  rw [hk.cell (p := ⟨g, o + k, none⟩) (lt_of_cell (p := ⟨g, o + k, none⟩) this) (hX g rfl)]
  exact this

theorem Reads.of_own {w : World} {base n size : Nat} {t : TypeId} {v : Value} {cs : List Value} (h : w.ownsRow base t size v n cs) : Reads w v n cs := by
  rcases h.2 with ⟨rfl, h0⟩ | ⟨g, cap, cur, rfl, hb, hg, hc, hm, hs, ht⟩
  · exact ⟨none, 0, by rw [h0], by omega, fun hne => absurd h0 hne⟩
  · refine ⟨_, _, rfl, hc, fun _ => ⟨g, 0, rfl, fun k x hx => ?_⟩⟩
    have hk : k < n * size := by
      have := (List.getElem?_eq_some_iff.1 hx).1
      have := h.1
      omega
    rw [← ht, List.getElem?_take_of_lt hk] at hx
    rw [Nat.zero_add]
    unfold World.cell?
    rw [hg]
    simpa using hx

def whC (x : Pu.Wh) : List Value := [.int .i64 x.mark, .string ⟨x.ref.toArray⟩]
def chL (c : Pu.Ch) : List Value := (chC c).toList
def whsC (l : List Pu.Wh) : List Value := l.flatMap whC
def chsC (l : List Pu.Ch) : List Value := l.flatMap chL

theorem flat_at {α : Type} (f : α → List Value) (m : Nat) (hf : ∀ x, (f x).length = m) : ∀ (l : List α) (k : Nat) (a : α), l[k]? = some a → ∀ j x, (f a)[j]? = some x → (l.flatMap f)[m * k + j]? = some x
  | [], k, a, h, _, _, _ => by simp at h
  | b :: r, 0, a, h, j, x, hx => by
    simp at h; subst h
    rw [List.flatMap_cons, Nat.mul_zero, Nat.zero_add, List.getElem?_append_left (List.getElem?_eq_some_iff.1 hx).1]
    exact hx
  | b :: r, k + 1, a, h, j, x, hx => by
    have := flat_at f m hf r k a (by simpa using h) j x hx
    rw [List.flatMap_cons, List.getElem?_append_right (by rw [hf, Nat.mul_succ]; omega), hf]
    have e : m * (k + 1) + j - m = m * k + j := by rw [Nat.mul_succ]; omega
    rw [e]; exact this

def coC (c : Pu.Co) (vm vc : Value) : Array Value := #[.string ⟨c.word.toArray⟩, .string ⟨c.ref.toArray⟩, .int .i64 c.mark, .string ⟨c.au.name.toArray⟩, .string ⟨c.au.mail.toArray⟩, .int .i64 c.au.time, .string ⟨c.data.toArray⟩, .int .i64 c.frm.mark, .string ⟨c.frm.ref.toArray⟩, vm, vc]

structure CoS (w : World) (lo : Nat) (vm vc : Value) (c : Pu.Co) : Prop where
  ms : Reads w vm c.merges.length (whsC c.merges)
  cs : Reads w vc c.changes.length (chsC c.changes)
  mb : ∀ k, vm.ownBlock = some k → lo ≤ k ∧ k < w.heap.size
  cb : ∀ k, vc.ownBlock = some k → lo ≤ k ∧ k < w.heap.size

theorem CoS.kept {w w' : World} {lo : Nat} {vm vc : Value} {c : Pu.Co} {X : Nat → Prop} (h : CoS w lo vm vc c) (hk : Kx X w w') (hX : ∀ k, lo ≤ k → k < w.heap.size → ¬ X k) : CoS w' lo vm vc c :=
  ⟨h.ms.kept hk (fun k e => hX k (h.mb k e).1 (h.mb k e).2), h.cs.kept hk (fun k e => hX k (h.cb k e).1 (h.cb k e).2),
   fun k e => ⟨(h.mb k e).1, Nat.lt_of_lt_of_le (h.mb k e).2 hk.size⟩, fun k e => ⟨(h.cb k e).1, Nat.lt_of_lt_of_le (h.cb k e).2 hk.size⟩⟩

theorem CoS.mono {w : World} {lo lo' : Nat} {vm vc : Value} {c : Pu.Co} (h : CoS w lo vm vc c) (hl : lo' ≤ lo) : CoS w lo' vm vc c :=
  ⟨h.ms, h.cs, fun k e => ⟨Nat.le_trans hl (h.mb k e).1, (h.mb k e).2⟩, fun k e => ⟨Nat.le_trans hl (h.cb k e).1, (h.cb k e).2⟩⟩

theorem CoS.nil (w : World) (lo : Nat) (c : Pu.Co) (hm : c.merges = []) (hc : c.changes = []) : CoS w lo (.slice none 0 0) (.slice none 0 0) c :=
  ⟨by rw [hm]; exact ⟨none, 0, rfl, by simp, fun h => absurd rfl h⟩, by rw [hc]; exact ⟨none, 0, rfl, by simp, fun h => absurd rfl h⟩, fun k e => by simp [Value.ownBlock] at e, fun k e => by simp [Value.ownBlock] at e⟩

def CoAt (w : World) (lo g o : Nat) (c : Pu.Co) : Prop :=
  ∃ vm vc, (∀ j x, (coC c vm vc)[j]? = some x → w.cell? ⟨g, o + j, none⟩ = some x) ∧ CoS w lo vm vc c

def CosAt (w : World) (lo : Nat) (v : Value) (l : List Pu.Co) : Prop :=
  ∃ q c, v = .slice q l.length c ∧ l.length ≤ c ∧ (∀ k, v.ownBlock = some k → lo ≤ k ∧ k < w.heap.size) ∧
    (l ≠ [] → ∃ g o, q = some ⟨g, o, none⟩ ∧ ∀ k (hk : k < l.length), CoAt w lo g (o + 11 * k) l[k])

theorem CosAt.mono {w : World} {lo lo' : Nat} {v : Value} {l : List Pu.Co} (h : CosAt w lo v l) (hl : lo' ≤ lo) : CosAt w lo' v l := by
  obtain ⟨q, c, rfl, hc, hb, hr⟩ := h
  refine ⟨q, c, rfl, hc, fun k e => ⟨Nat.le_trans hl (hb k e).1, (hb k e).2⟩, fun hne => ?_⟩
  obtain ⟨g, o, rfl, hcell⟩ := hr hne
  refine ⟨g, o, rfl, fun k hk => ?_⟩
  obtain ⟨vm, vc, h1, h2⟩ := hcell k hk
  exact ⟨vm, vc, h1, h2.mono hl⟩

def CoRow (w : World) (lo : Nat) (G : Option Nat) : List Pu.Co → List Value → Prop
  | [], cs => cs = []
  | c :: r, cs => ∃ vm vc rest, cs = (coC c vm vc).toList ++ rest ∧ (CoS w lo vm vc c ∧ (∀ k, vm.ownBlock = some k → G ≠ some k) ∧ ∀ k, vc.ownBlock = some k → G ≠ some k) ∧ CoRow w lo G r rest

theorem CoS.keptG {w w' : World} {lo : Nat} {G : Option Nat} {vm vc : Value} {c : Pu.Co} {X : Nat → Prop} (h : CoS w lo vm vc c) (g1 : ∀ k, vm.ownBlock = some k → G ≠ some k) (g2 : ∀ k, vc.ownBlock = some k → G ≠ some k) (hk : Kx X w w') (hX : ∀ k, lo ≤ k → k < w.heap.size → G ≠ some k → ¬ X k) : CoS w' lo vm vc c :=
  ⟨h.ms.kept hk (fun k e => hX k (h.mb k e).1 (h.mb k e).2 (g1 k e)), h.cs.kept hk (fun k e => hX k (h.cb k e).1 (h.cb k e).2 (g2 k e)),
   fun k e => ⟨(h.mb k e).1, Nat.lt_of_lt_of_le (h.mb k e).2 hk.size⟩, fun k e => ⟨(h.cb k e).1, Nat.lt_of_lt_of_le (h.cb k e).2 hk.size⟩⟩

theorem CoRow.kept {w w' : World} {lo : Nat} {G : Option Nat} {X : Nat → Prop} (hk : Kx X w w') (hX : ∀ k, lo ≤ k → k < w.heap.size → G ≠ some k → ¬ X k) : ∀ {l : List Pu.Co} {cs : List Value}, CoRow w lo G l cs → CoRow w' lo G l cs
  | [], cs, h => h
  | c :: r, cs, h => by
    obtain ⟨vm, vc, rest, e, ⟨h1, g1, g2⟩, h2⟩ := h
    exact ⟨vm, vc, rest, e, ⟨h1.keptG g1 g2 hk hX, g1, g2⟩, CoRow.kept hk hX h2⟩

theorem CoRow.step {w w' : World} {lo : Nat} {G G' : Option Nat} {X : Nat → Prop} (hk : Kx X w w') (hX : ∀ k, lo ≤ k → k < w.heap.size → G ≠ some k → ¬ X k) (hG : ∀ k, k < w.heap.size → G ≠ some k → G' ≠ some k) :
    ∀ {l : List Pu.Co} {cs : List Value}, CoRow w lo G l cs → CoRow w' lo G' l cs
  | [], cs, h => h
  | c :: r, cs, h => by
    obtain ⟨vm, vc, rest, e, ⟨h1, g1, g2⟩, h2⟩ := h
    exact ⟨vm, vc, rest, e, ⟨h1.keptG g1 g2 hk hX, fun k e => hG k (h1.mb k e).2 (g1 k e), fun k e => hG k (h1.cb k e).2 (g2 k e)⟩, CoRow.step hk hX hG h2⟩

theorem CoRow.snoc {w : World} {lo : Nat} {G : Option Nat} {c : Pu.Co} {vm vc : Value} (hc : CoS w lo vm vc c) (g1 : ∀ k, vm.ownBlock = some k → G ≠ some k) (g2 : ∀ k, vc.ownBlock = some k → G ≠ some k) : ∀ {l : List Pu.Co} {cs : List Value}, CoRow w lo G l cs → CoRow w lo G (l ++ [c]) (cs ++ (coC c vm vc).toList)
  | [], cs, h => by
    have e : cs = [] := h
    subst e
    exact ⟨vm, vc, [], by simp, ⟨hc, g1, g2⟩, rfl⟩
  | d :: r, cs, h => by
    obtain ⟨vm', vc', rest, rfl, h1, h2⟩ := h
    exact ⟨vm', vc', rest ++ (coC c vm vc).toList, by simp, h1, CoRow.snoc hc g1 g2 h2⟩

theorem CoRow.at {w : World} {lo : Nat} {G : Option Nat} : ∀ {l : List Pu.Co} {cs : List Value}, CoRow w lo G l cs → ∀ k (hk : k < l.length), ∃ vm vc, CoS w lo vm vc l[k] ∧ ∀ j x, (coC l[k] vm vc)[j]? = some x → cs[11 * k + j]? = some x
  | [], cs, h, k, hk => by simp at hk
  | c :: r, cs, h, 0, hk => by
    obtain ⟨vm, vc, rest, rfl, h1, h2⟩ := h
    refine ⟨vm, vc, h1.1, fun j x hx => ?_⟩
    have hj : j < (coC c vm vc).toList.length := (Array.getElem?_eq_some_iff.1 hx).1
    rw [Nat.mul_zero, Nat.zero_add, List.getElem?_append_left hj, Array.getElem?_toList]
    exact hx
  | c :: r, cs, h, k + 1, hk => by
    obtain ⟨vm, vc, rest, rfl, h1, h2⟩ := h
    obtain ⟨vm', vc', h3, h4⟩ := CoRow.at h2 k (by simpa using hk)
    refine ⟨vm', vc', h3, fun j x hx => ?_⟩
    have hl : (coC c vm vc).toList.length = 11 := rfl
    rw [List.getElem?_append_right (by rw [hl]; omega), hl]
    have e : 11 * (k + 1) + j - 11 = 11 * k + j := by omega
    rw [e]
    exact h4 j x hx

theorem CosAt.of_own {w : World} {lo base : Nat} {G : Option Nat} {t : TypeId} {v : Value} {l : List Pu.Co} {cs : List Value} (h : w.ownsRow base t 11 v l.length cs) (hr : CoRow w lo G l cs) (hl : lo ≤ base) : CosAt w lo v l := by
  have hlt := h.lt
  obtain ⟨q, c, rfl, hc, hcell0⟩ := Reads.of_own h
  refine ⟨q, c, rfl, hc, fun k e => ⟨Nat.le_trans hl (hlt k e).1, (hlt k e).2⟩, fun hne => ?_⟩
  obtain ⟨g, o, rfl, hcell⟩ := hcell0 (fun e => hne (List.length_eq_zero_iff.1 e))
  refine ⟨g, o, rfl, fun k hk => ?_⟩
  obtain ⟨vm, vc, h1, h2⟩ := hr.at k hk
  refine ⟨vm, vc, fun j x hx => ?_, h1⟩
  have := hcell (11 * k + j) x (h2 j x hx)
  rw [← Nat.add_assoc] at this
  exact this

def Hi (w : World) (h o c r t : Nat) : Prop := Cb h #[.map (some o), .map (some c), .map (some r), .map (some t)] 150 w

def Dr (w : World) (d p m : Nat) : Prop := Cb d #[.pointer (some ⟨p, 0, none⟩), .pointer (some ⟨m, 0, none⟩)] 224 w

theorem Hi.kept {w w' : World} {h o c r t : Nat} {X : Nat → Prop} (x : Hi w h o c r t) (hk : Kx X w w') (hX : ¬ X h) : Hi w' h o c r t := Cb.kept x hk hX
theorem Dr.kept {w w' : World} {d p m : Nat} {X : Nat → Prop} (x : Dr w d p m) (hk : Kx X w w') (hX : ¬ X d) : Dr w' d p m := Cb.kept x hk hX

abbrev MpS (w : World) (b n : Nat) (f : List UInt8 → Option Value) : Prop := MapS Tryz.prog 9 w b n f

def objV (kind : Nat) (c id : List UInt8) : Value := .agg #[.int .i64 (kind : Int), .string ⟨c.toArray⟩, .string ⟨id.toArray⟩]

set_option maxHeartbeats 800000 in
set_option maxRecDepth 100000 in
theorem add_any (d p m o c r t n : Nat) (f : List UInt8 → Option Value) (kind : Nat) (x i : List UInt8) (w : World) (hd : Dr w d p m) (hm : Hi w m o c r t) (hf : MpS w o n f) (hn : n < maxLen) (hi : i.length ≤ maxLen) :
    Calls Tryz.prog 300 #[.pointer (some ⟨d, 0, none⟩), objV kind x i] w fun e w' => e = .returned (.tuple #[]) ∧ MpS w' o (n + 1) (upd f i (some (objV kind x i))) ∧ Kx (Only o) w w' := by
  unfold objV
  have hkxW := (Kx.refl (fun _ => False) w).alloc (.cells #[.int .i64 (kind : Int), .string ⟨x.toArray⟩, .string ⟨i.toArray⟩] 105)
  have hdW := hd.kept hkxW id
  have hmW := hm.kept hkxW id
  have hfW := hf.kept hkxW id
  have hB := Cb.new #[.int .i64 (kind : Int), .string ⟨x.toArray⟩, .string ⟨i.toArray⟩] 105 w
  obtain ⟨B, hBB⟩ : ∃ B, w.heap.size = B := ⟨_, rfl⟩
  rw [hBB] at hB
  go_enter Tryz.func300, Tryz.ntmps300
  go_wp2_with fail
  clear hBB
  have hBw : ∀ W, Kx (fun _ => False) w W → Kx (Only o) w W := fun W h => h.mono (fun _ _ h => h.elim)
  revert hkxW hdW hmW hfW hB
  generalize w.alloc (.cells #[.int .i64 (kind : Int), .string ⟨x.toArray⟩, .string ⟨i.toArray⟩] 105) = W
  intro hkxW hdW hmW hfW hB
  refine wp_region_quiet_tail (C := fun w' => Kx (fun _ => False) W w') 10 (by kernel_rfl) (by kernel_rfl) (Kx.refl _ _).drew ?_
  refine quiet_val rfl (.pointer (some ⟨d, 0, none⟩)) (fun w' hC => by go_simp) ?_
  refine quiet_val rfl (.pointer (some ⟨d, 0, none⟩)) (fun w' hC => by go_simp) ?_
  refine quiet_val rfl (.pointer (some ⟨d, 1, none⟩)) (fun w' hC => by go_simp) ?_
  refine quiet_val rfl (.pointer (some ⟨m, 0, none⟩)) (fun w' hC => by
    have hcw : w'.cell? ⟨d, 1, none⟩ = some (.pointer (some ⟨m, 0, none⟩)) := Cb.cell (hdW.kept hC id) 1
    go_simp) ?_
  refine quiet_val rfl (.pointer (some ⟨m, 0, none⟩)) (fun w' hC => by go_simp) ?_
  refine quiet_val rfl (.pointer (some ⟨m, 0, none⟩)) (fun w' hC => by go_simp) ?_
  refine quiet_val rfl (.map (some o)) (fun w' hC => by
    have hcw : w'.cell? ⟨m, 0, none⟩ = some (.map (some o)) := Cb.cell (hmW.kept hC id) 0
    go_simp) ?_
  refine quiet_val rfl (.pointer (some ⟨B, 2, none⟩)) (fun w' hC => by go_simp) ?_
  refine quiet_val rfl (.string ⟨i.toArray⟩) (fun w' hC => by
    have hcw : w'.cell? ⟨B, 2, none⟩ = some (.string ⟨i.toArray⟩) := Cb.cell (hB.kept hC id) 2
    go_simp) ?_
  refine quiet_val rfl (.agg #[.int .i64 (kind : Int), .string ⟨x.toArray⟩, .string ⟨i.toArray⟩]) (fun w' hC => by
    have hc0 : w'.cell? ⟨B, 0, none⟩ = some (.int .i64 (kind : Int)) := Cb.cell (hB.kept hC id) 0
    have hc1 : w'.cell? ⟨B, 1, none⟩ = some (.string ⟨x.toArray⟩) := Cb.cell (hB.kept hC id) 1
    have hc2 : w'.cell? ⟨B, 2, none⟩ = some (.string ⟨i.toArray⟩) := Cb.cell (hB.kept hC id) 2
    go_simp) ?_
  refine wpQuiet_nil (fun w' hC => ?_)
  simp only [Act.put, sI, sS, sZ, List.drop_succ_cons, List.drop_zero]
  have hf' := hfW.kept hC id
  have hk' := hkxW.trans hC
  refine wpList_putS rfl _ _ _ 146 rfl 105 (by kernel_rfl) (by kernel_rfl) o n f rfl hf' hn i rfl hi _ rfl ?_
  intro w2 hf2 hk2
  go_wp2
  go_end0
  exact ⟨rfl, hf2, (hBw _ hk').trans hk2⟩

theorem addBlob_any (d p m o c r t n : Nat) (f : List UInt8 → Option Value) (kind : Nat) (x i : List UInt8) (w : World) (hd : Dr w d p m) (hm : Hi w m o c r t) (hf : MpS w o n f) (hn : n < maxLen) (hi : i.length ≤ maxLen) :
    Calls Tryz.prog 290 #[.pointer (some ⟨d, 0, none⟩), objV kind x i] w fun e w' => e = .returned (.tuple #[]) ∧ MpS w' o (n + 1) (upd f i (some (objV kind x i))) ∧ Kx (Only o) w w' := by
  have hkxW := (Kx.refl (fun _ => False) w).alloc (.cells #[.int .i64 (kind : Int), .string ⟨x.toArray⟩, .string ⟨i.toArray⟩] 105)
  have hBw : Kx (Only o) w _ := hkxW.mono (fun _ _ h => h.elim)
  have hc := add_any d p m o c r t n f kind x i _ (hd.kept hkxW id) (hm.kept hkxW id) (hf.kept hkxW id) hn hi
  unfold objV at *
  clear hd hm hf hkxW
  go_enter Tryz.func290, Tryz.ntmps290
  go_wp2_with fail
  refine hc.mono ?_
  rintro _ w2 ⟨rfl, hf2, hk2⟩
  have hk3 := hBw.trans hk2
  clear hc hBw hk2
  go_wp2
  go_end0
  exact ⟨rfl, hf2, hk3⟩

theorem setRef_any (d p m o c r t n : Nat) (f : List UInt8 → Option Value) (name : List UInt8) (v : Value) (w : World) (hd : Dr w d p m) (hm : Hi w m o c r t) (hf : MpS w r n f) (hn : n < maxLen) (hi : name.length ≤ maxLen) :
    Calls Tryz.prog 233 #[.pointer (some ⟨d, 0, none⟩), .string ⟨name.toArray⟩, v] w fun e w' => e = .returned (.tuple #[]) ∧ MpS w' r (n + 1) (upd f name (some v)) ∧ Kx (Only r) w w' := by
  have hc1 : w.cell? ⟨d, 1, none⟩ = some (.pointer (some ⟨m, 0, none⟩)) := Cb.cell hd 1
  have hc2 : w.cell? ⟨m, 2, none⟩ = some (.map (some r)) := Cb.cell hm 2
  go_enter Tryz.func233, Tryz.ntmps233
  go_wp2_with (refine wpList_putS rfl _ _ _ 147 rfl 101 (by kernel_rfl) (by kernel_rfl) r n f rfl hf hn name rfl hi _ rfl ?_)
  intro w2 hf2 hk2
  go_wp2
  go_end0
  exact ⟨rfl, hf2, hk2⟩

theorem href_any (h o c r t n : Nat) (f : List UInt8 → Option Value) (name : List UInt8) (w : World) (hm : Hi w h o c r t) (hf : MpS w r n f) (hi : name.length ≤ maxLen) :
    Calls Tryz.prog 139 #[.pointer (some ⟨h, 0, none⟩), .string ⟨name.toArray⟩] w fun e w' => e = .returned ((f name).getD (.pointer none)) ∧ w' = w := by
  have hc2 : w.cell? ⟨h, 2, none⟩ = some (.map (some r)) := Cb.cell hm 2
  generalize hx : (f name).getD (.pointer none) = x
  go_enter Tryz.func139, Tryz.ntmps139
  go_wp2_with (refine wpList_lookS rfl _ _ 147 rfl 101 (by kernel_rfl) (by kernel_rfl) (.pointer none) (by kernel_rfl) r n f rfl hf name rfl hi ?_)
  go_ret
  exact ⟨rfl, rfl⟩

def drefV (fm fp : List UInt8 → Option Value) (name : List UInt8) : Value := match fm name with | some v => v | none => (fp name).getD (.pointer none)

theorem dref_any (d p m o c r t n o' c' r' t' n' : Nat) (fm fp : List UInt8 → Option Value) (name : List UInt8) (w : World) (hd : Dr w d p m) (hm : Hi w m o c r t) (hf : MpS w r n fm) (hp : Hi w p o' c' r' t') (hfp : MpS w r' n' fp) (hi : name.length ≤ maxLen) :
    Calls Tryz.prog 303 #[.pointer (some ⟨d, 0, none⟩), .string ⟨name.toArray⟩] w fun e w' => e = .returned (drefV fm fp name) ∧ w' = w := by
  have hc0 : w.cell? ⟨d, 0, none⟩ = some (.pointer (some ⟨p, 0, none⟩)) := Cb.cell hd 0
  have hc1 : w.cell? ⟨d, 1, none⟩ = some (.pointer (some ⟨m, 0, none⟩)) := Cb.cell hd 1
  have hc2 : w.cell? ⟨m, 2, none⟩ = some (.map (some r)) := Cb.cell hm 2
  have hc := href_any p o' c' r' t' n' fp name w hp hfp hi
  have HX : Hid (drefV fm fp name = match fm name with | some v => v | none => (fp name).getD (.pointer none)) := rfl
  generalize drefV fm fp name = X at *
  generalize (fp name).getD (.pointer none) = Y at *
  cases hfn : fm name with
  | some v =>
    have e : X = v := by rw [HX.out, hfn]
    subst e
    clear HX
    go_enter Tryz.func303, Tryz.ntmps303
    go_wp2_with (refine wpList_lookOkS rfl _ _ 147 rfl 101 (by kernel_rfl) (by kernel_rfl) (.pointer none) (by kernel_rfl) r n fm rfl hf name rfl hi ?_)
    go_ret
    exact ⟨rfl, rfl⟩
  | none =>
    have e : X = Y := by rw [HX.out, hfn]
    subst e
    clear HX
    go_enter Tryz.func303, Tryz.ntmps303
    go_wp2_with (first | refine wpList_lookOkS rfl _ _ 147 rfl 101 (by kernel_rfl) (by kernel_rfl) (.pointer none) (by kernel_rfl) r n fm rfl hf name rfl hi ?_ | (go_at_call 139; refine hc.mono ?_; rintro _ _ ⟨rfl, rfl⟩))
    go_ret
    exact ⟨rfl, rfl⟩

abbrev Objs := List UInt8 → Option (Nat × List UInt8)

def objF (g : Objs) : List UInt8 → Option Value := fun k => (g k).map fun x => objV x.1 x.2 k

theorem objF_upd (g : Objs) (i : List UInt8) (kind : Nat) (c : List UInt8) : objF (upd g i (some (kind, c))) = upd (objF g) i (some (objV kind c i)) := by
  funext k
  unfold objF upd
  by_cases h : k = i
  · subst h; simp
  · simp [h]

end Go.Proofs.YtepgoppgblfjbaaGreatDoor
