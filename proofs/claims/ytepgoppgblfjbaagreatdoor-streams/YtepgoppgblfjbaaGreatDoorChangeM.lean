/- The reader's change: an M; and all of them together. -/
import Derived.Test.YtepgoppgblfjbaaGreatDoorChange
namespace Go.Proofs.YtepgoppgblfjbaaGreatDoor
open Go.RowKit

set_option maxHeartbeats 1000000 in
theorem change_M (b : Nat) (l s : List UInt8) (bad : Bool) (w : World) (h : Rd b s bad w) (hl : l.length ≤ 8000) (f1 f2 f3 : List UInt8) (hs : Lib.split l [32] = [[77], f1, f2, f3]) :
    Calls Tryz.prog 294 #[.pointer (some ⟨b, 0, none⟩), .string ⟨l.toArray⟩] w fun e w' => e = .returned (.agg (chC (Pu.changeV l s bad))) ∧ Rd b (Pu.change l s bad).1 (Pu.change l s bad).2 w' ∧ Kx (Only b) w w' := by
  have hb := h.lt
  have HE : Hid (Pu.change l s bad = Pu.changeM f1 f2 f3 s bad) := by show _ = _; unfold Pu.change; rw [hs]; rfl
  have HV : Hid (Pu.changeV l s bad = ⟨[77], f1, (Pu.contentV f2 (Pu.need (Pu.isPath f3) (Pu.need (f1 == Pu.s644 || f1 == Pu.s755) s bad).1 (Pu.need (f1 == Pu.s644 || f1 == Pu.s755) s bad).2).1 (Pu.need (Pu.isPath f3) (Pu.need (f1 == Pu.s644 || f1 == Pu.s755) s bad).1 (Pu.need (f1 == Pu.s644 || f1 == Pu.s755) s bad).2).2).1, (Pu.contentV f2 (Pu.need (Pu.isPath f3) (Pu.need (f1 == Pu.s644 || f1 == Pu.s755) s bad).1 (Pu.need (f1 == Pu.s644 || f1 == Pu.s755) s bad).2).1 (Pu.need (Pu.isPath f3) (Pu.need (f1 == Pu.s644 || f1 == Pu.s755) s bad).1 (Pu.need (f1 == Pu.s644 || f1 == Pu.s755) s bad).2).2).2, f3, []⟩) := by show _ = _; unfold Pu.changeV; rw [hs]; rfl
  obtain ⟨m, hm⟩ := (h.alloc (.cells #[.string ⟨#[]⟩, .string ⟨#[]⟩, .int .i64 0, .string ⟨#[]⟩, .string ⟨#[]⟩, .string ⟨#[]⟩] 332)).max
  have hsp := Sp.mk' [[77], f1, f2, f3] h
  have HS : Hid (Lib.split l [32] = [[77], f1, f2, f3]) := hs
  have hln := split_lens l [32]
  rw [hs] at hln
  have l1 := hln f1 (by simp)
  have l2 := hln f2 (by simp)
  have l3 := hln f3 (by simp)
  clear hs hln
  go_enter Tryz.func294, Tryz.ntmps294
  go_wp2_with fail
  refine (split_any l 32 m _ hl hm).mono ?_
  rintro e w1 ⟨rfl, rfl⟩
  clear hm
  rw [HS.out]
  clear HS
  generalize ((w.alloc (.cells #[.string ⟨#[]⟩, .string ⟨#[]⟩, .int .i64 0, .string ⟨#[]⟩, .string ⟨#[]⟩, .string ⟨#[]⟩] 332)).alloc (.cells ([[77], f1, f2, f3].map (fun x => Value.string ⟨x.toArray⟩)).toArray 9)) = W at *
  obtain ⟨hz, hres, hfld, hrd, hkx⟩ := hsp
  have a0 : W.cell? ⟨w.heap.size + 1, 0, none⟩ = some (.string ⟨[77].toArray⟩) := hfld.cell 0
  have a1 : W.cell? ⟨w.heap.size + 1, 1, none⟩ = some (.string ⟨f1.toArray⟩) := hfld.cell 1
  have a2 : W.cell? ⟨w.heap.size + 1, 2, none⟩ = some (.string ⟨f2.toArray⟩) := hfld.cell 2
  have a3 : W.cell? ⟨w.heap.size + 1, 3, none⟩ = some (.string ⟨f3.toArray⟩) := hfld.cell 3
  go_wp2_with fail
  unfold Pu.changeM at HE
  refine (mode_any b s bad f1 _ (hrd.alloc _)).mono ?_
  rintro e w2 ⟨rfl, hr2, hk2⟩
  generalize Pu.need (f1 == Pu.s644 || f1 == Pu.s755) s bad = st at *
  obtain ⟨s2, bad2⟩ := st
  have hC := (Cb.new #[.string ⟨#[77]⟩, .string ⟨#[]⟩, .int .i64 0, .string ⟨#[]⟩, .string ⟨#[]⟩, .string ⟨#[]⟩] 332 W).only hk2 (by omega)
  rw [hz] at hC
  have hR := (hres.alloc _).only hk2 hb
  have hF := (hfld.alloc _).only hk2 (by omega)
  have b3 := hF.cell 3
  have c1 := hC.cell 1
  have fc := hC.frozen
  have hsz := hk2.size
  rw [World.size_alloc, hz] at hsz
  go_wp2_with fail
  refine (path_any b s2 bad2 f3 _ (hr2.setNew (by omega) _) (by omega)).mono ?_
  rintro e w3 ⟨rfl, hr3, hk3⟩
  generalize Pu.need (Pu.isPath f3) s2 bad2 = st at *
  obtain ⟨s3, bad3⟩ := st
  have hC3 := (hC.set 1 (.string ⟨f1.toArray⟩)).only hk3 (by omega)
  have hR3 := (hR.setOther (p := ⟨w.heap.size + 2, 1, none⟩) (by simp) (.string ⟨f1.toArray⟩)).only hk3 hb
  have hF3 := (hF.setOther (p := ⟨w.heap.size + 2, 1, none⟩) (by simp) (.string ⟨f1.toArray⟩)).only hk3 (by omega)
  clear hC hR hF b3 c1 fc
  have hC : Cb (w.heap.size + 2) #[.string ⟨#[77]⟩, .string ⟨f1.toArray⟩, .int .i64 0, .string ⟨#[]⟩, .string ⟨#[]⟩, .string ⟨#[]⟩] 332 w3 := hC3
  clear hC3
  have hsz3 := hk3.size
  rw [World.size_setCell] at hsz3
  have b2 := hF3.cell 2
  have c4 := hC.cell 4
  have fc := hC.frozen
  go_wp2_with fail
  refine (content_any b s3 bad3 f2 _ (hr3.setNew (by omega) _) (by omega)).mono ?_
  rintro e w4 ⟨rfl, hr4, hk4⟩
  generalize Pu.contentV f2 s3 bad3 = cv at *
  obtain ⟨n, d⟩ := cv
  have hC4 := (hC.set 4 (.string ⟨f3.toArray⟩)).only hk4 (by omega)
  have hR := (hR3.setOther (p := ⟨w.heap.size + 2, 4, none⟩) (by simp) (.string ⟨f3.toArray⟩)).only hk4 hb
  clear hC hR3 hF3 b2 c4 fc
  have hC : Cb (w.heap.size + 2) #[.string ⟨#[77]⟩, .string ⟨f1.toArray⟩, .int .i64 0, .string ⟨#[]⟩, .string ⟨f3.toArray⟩, .string ⟨#[]⟩] 332 w4 := hC4
  clear hC4
  have c0 := hC.cell 0
  have c1 := hC.cell 1
  have c2 := hC.cell 2
  have c3 := hC.cell 3
  have c4 := hC.cell 4
  have c5 := hC.cell 5
  have fc := hC.frozen
  have r0 := hR.cell 0
  have r1 := hR.cell 1
  have r2 := hR.cell 2
  have r3 := hR.cell 3
  have r4 := hR.cell 4
  have r5 := hR.cell 5
  have fr := hR.frozen
  clear hC hR
  go_wp2
  refine bodyPost_ret (v := .agg #[.string ⟨#[77]⟩, .string ⟨f1.toArray⟩, .int .i64 n, .string ⟨d.toArray⟩, .string ⟨f3.toArray⟩, .string ⟨#[]⟩]) (by simp [results, Tryz.results294, go_sem, r0, r1, r2, r3, r4, r5]) rfl ⟨by rw [HV.out]; rfl, ?_, ?_⟩
  · rw [HE.out]
    exact ((((((((hr4).setNew (by omega) _).setNew (by omega) _).setNew (by omega) _).setNew (by omega) _).setNew (by omega) _).setNew (by omega) _).setNew (by omega) _).setNew (by omega) _
  · exact (((((((((((((hkx.alloc _).trans hk2).setNew (by simp) _).trans hk3).setNew (by simp) _).trans hk4).setNew (by simp) _).setNew (by simp) _).setNew (by simp) _).setNew (by simp) _).setNew (by simp) _).setNew (by simp) _).setNew (by simp) _).setNew (by simp) _

theorem change_any (b : Nat) (l s : List UInt8) (bad : Bool) (w : World) (h : Rd b s bad w) (hl : l.length ≤ 8000) :
    Calls Tryz.prog 294 #[.pointer (some ⟨b, 0, none⟩), .string ⟨l.toArray⟩] w fun e w' => e = .returned (.agg (chC (Pu.changeV l s bad))) ∧ Rd b (Pu.change l s bad).1 (Pu.change l s bad).2 w' ∧ Kx (Only b) w w' := by
  obtain ⟨f0, r, hs⟩ := split_pos l 32
  by_cases h1 : f0 = [77] ∧ r.length = 3
  · obtain ⟨rfl, hr⟩ := h1
    match r, hr with
    | [f1, f2, f3], _ => exact change_M b l s bad w h hl f1 f2 f3 hs
  by_cases h2 : f0 = [68] ∧ r.length = 1
  · obtain ⟨rfl, hr⟩ := h2
    match r, hr with
    | [f1], _ => exact change_D b l s bad w h hl f1 hs
  by_cases h3 : f0 = [67] ∧ r.length = 2
  · obtain ⟨rfl, hr⟩ := h3
    match r, hr with
    | [f1, f2], _ => exact change_C b l s bad w h hl f1 f2 hs
  by_cases h4 : f0 = [82] ∧ r.length = 2
  · obtain ⟨rfl, hr⟩ := h4
    match r, hr with
    | [f1, f2], _ => exact change_R b l s bad w h hl f1 f2 hs
  have hE := change_none l s bad f0 r hs h1 h2 (by rintro ⟨rfl | rfl, h5⟩ <;> simp_all)
  refine change_default b l s bad w h hl f0 r hs ?_ hE
  by_cases e1 : f0 = [77]
  · subst e1
    exact Or.inl ⟨rfl, rfl, rfl, rfl, beq_eq_false_iff_ne.2 (fun h5 => h1 ⟨rfl, by omega⟩)⟩
  by_cases e2 : f0 = [68]
  · subst e2
    exact Or.inr (Or.inl ⟨rfl, rfl, rfl, rfl, beq_eq_false_iff_ne.2 (fun h5 => h2 ⟨rfl, by omega⟩)⟩)
  by_cases e3 : f0 = [67]
  · subst e3
    exact Or.inr (Or.inr (Or.inl ⟨rfl, rfl, rfl, rfl, beq_eq_false_iff_ne.2 (fun h5 => h3 ⟨rfl, by omega⟩)⟩))
  by_cases e4 : f0 = [82]
  · subst e4
    exact Or.inr (Or.inr (Or.inr (Or.inl ⟨rfl, rfl, rfl, rfl, beq_eq_false_iff_ne.2 (fun h5 => h4 ⟨rfl, by omega⟩)⟩)))
  exact Or.inr (Or.inr (Or.inr (Or.inr ⟨beq_eq_false_iff_ne.2 e1, beq_eq_false_iff_ne.2 e2, beq_eq_false_iff_ne.2 e3, beq_eq_false_iff_ne.2 e4⟩)))

end Go.Proofs.YtepgoppgblfjbaaGreatDoor
