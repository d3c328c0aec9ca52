/- The document's reader: change. -/
import Derived.Test.YtepgoppgblfjbaaGreatDoorRefFile
namespace Go.Proofs.YtepgoppgblfjbaaGreatDoor
open Go.RowKit
namespace Rf

/-- One change with its line: what is left, is it wrong? -/
def rchange (rest : List UInt8) (bad : Bool) : List UInt8 × Bool :=
  if (Pu.line rest bad).2.2 then ([], true) else Pu.change (Pu.line rest bad).1 (Pu.line rest bad).2.1 false

theorem Rs.setBad {b : Nat} {s rest : List UInt8} {bad : Bool} {w : World} (h : Rs b s rest bad w) (r : List UInt8) : Rs b s r true (w.setCell ⟨b, 2, none⟩ (.bool true)) := by
  obtain ⟨a, h, _⟩ := h; exact ⟨a, h.setBad true, fun e => by cases e⟩

theorem IsList.facts {L : List (List UInt8)} {f0 : List UInt8} {r : List (List UInt8)} {v : Value} {w w' : World} (h : IsList L v w w') (hL : L = f0 :: r) :
    ∃ g cap n, v = .slice (some ⟨g, 0, none⟩) (n + 1 : Nat) cap ∧ r.length = n ∧ w.heap.size ≤ g ∧ (w'.cell? ⟨g, 0, none⟩ = some (.string ⟨f0.toArray⟩)) ∧ ∀ k x, r[k]? = some x → w'.cell? ⟨g, k + 1, none⟩ = some (.string ⟨x.toArray⟩) := by
  subst hL
  obtain ⟨g, cap, e, hg, hc⟩ := h.slice (by simp)
  refine ⟨g, cap, r.length, by rw [e]; simp, rfl, hg, hc 0 (by simp), fun k x hx => ?_⟩
  obtain ⟨hk, rfl⟩ := List.getElem?_eq_some_iff.1 hx
  have := hc (k + 1) (by simpa using hk)
  simpa using this

theorem split_word (l : List UInt8) (f0 : List UInt8) (r : List (List UInt8)) (h : Lib.split l [32] = f0 :: r) (hr : 0 < r.length) : 0 < l.length := by
  cases l with
  | nil => have e : Lib.split [] [32] = [[]] := rfl
           rw [e] at h; cases h; simp at hr
  | cons a l => simp

set_option maxHeartbeats 4000000 in
set_option maxRecDepth 100000 in
theorem change_any (b : Nat) (s rest : List UInt8) (bad : Bool) (w : World) (h : Rs b s rest bad w) :
    Calls Tryz.prog 276 #[.pointer (some ⟨b, 0, none⟩)] w fun e w' => (∃ v, IsChg v ∧ e = .returned v) ∧ Rs b s (rchange rest bad).1 (rchange rest bad).2 w' ∧ Kx (Only b) w w' := by
  have hb := h.lt
  have hb2f : w.heap.size ≠ b := by omega
  have hb2g : b ≠ w.heap.size := by omega
  have HQ : Hid (rchange rest bad = if (Pu.line rest bad).2.2 then ([], true) else Pu.change (Pu.line rest bad).1 (Pu.line rest bad).2.1 false) := rfl
  have hk0 : Kx (Only b) w (w.alloc (.cells #[.int .u8 0, .string ⟨#[]⟩, .int .i64 0, .string ⟨#[]⟩, .string ⟨#[]⟩, .string ⟨#[]⟩] 368)) := (Kx.refl _ w).alloc _
  go_enter Tryz.func276, Tryz.ntmps276
  go_wp2_with fail
  refine (line_any b s rest bad _ (h.alloc _)).mono ?_
  rintro e w1 ⟨⟨v, rfl, hv, hvl⟩, hr1, hk1⟩
  have HV : Hid ((Pu.line rest bad).2.2 = false → v = (Pu.line rest bad).1) := hvl
  clear hvl
  generalize Pu.line rest bad = x at *
  obtain ⟨x0, x1, x2⟩ := x
  have hk01 := hk0.trans hk1
  have hN1 := (Cb.new #[.int .u8 0, .string ⟨#[]⟩, .int .i64 0, .string ⟨#[]⟩, .string ⟨#[]⟩, .string ⟨#[]⟩] 368 w).only hk1 hb
  clear hk0 hk1
  go_wp2_with fail
  refine (words_any v _ hv).mono ?_
  rintro e w2 ⟨u, rfl, hL⟩
  obtain ⟨f0, r, hsp⟩ := split_pos v 32
  obtain ⟨g, cap, n, rfl, hlen, hg, hc0, hcr⟩ := hL.facts hsp
  have hk2 := hL.2
  clear hL
  have hk02 := hk01.trans (hk2 _)
  have hr2 := hr1.kept (hk2 (fun _ => False)) id
  have hN2 := hN1.kept (hk2 (fun _ => False)) id
  have hgl : g < w2.heap.size := lt_of_cell hc0
  have hgb : g ≠ b := by have := hk01.size; omega
  have hgn : w.heap.size ≠ g := by have := hN1.lt; omega
  clear hk01 hr1 hN1 hk2
  have n0 := hN2.cell 0
  have n1 := hN2.cell 1
  have n2 := hN2.cell 2
  have n3 := hN2.cell 3
  have n4 := hN2.cell 4
  have n5 := hN2.cell 5
  have nf := hN2.frozen
  obtain ⟨a, hrr, he⟩ := id hr2
  obtain ⟨c0, c1, c2, e0, e1, e2, le, short⟩ := id hrr
  have HSP : Hid (Lib.split v [32] = f0 :: r) := hsp
  have HR : Hid (x2 = false → s.drop a = x1) := he
  clear hsp he
  have HLEN : Hid (r.length = n) := hlen
  clear hlen
  by_cases hbad : x2 = true ∨ (x2 = false ∧ (v == [100, 101, 108, 101, 116, 101, 97, 108, 108]) = false ∧ ((f0 == [68]) = false ∨ (f0 = [68] ∧ n ≠ 1)) ∧ (((f0 == [67]) = false ∧ (f0 == [82]) = false) ∨ ((f0 = [67] ∨ f0 = [82]) ∧ n ≠ 2)) ∧ ((f0 == [77]) = false ∨ (f0 = [77] ∧ n ≠ 3)))
  · have HB : Hid ((rchange rest bad).2 = true) := by
      show _ = _
      rw [HQ.out]
      rcases hbad with rfl | ⟨rfl, q1, q2, q3, q4⟩
      · rfl
      · have ev := HV.out rfl
        subst ev
        simp only [Bool.false_eq_true, if_false]
        rw [(change_none v x1 false f0 r HSP.out (by
            rintro ⟨rfl, h3⟩; rw [HLEN.out] at h3
            rcases q4 with q | ⟨_, q⟩
            · exact absurd q (by decide)
            · exact q h3) (by
            rintro ⟨rfl, h3⟩; rw [HLEN.out] at h3
            rcases q2 with q | ⟨_, q⟩
            · exact absurd q (by decide)
            · exact q h3) (by
            rintro ⟨h0, h3⟩; rw [HLEN.out] at h3
            rcases q3 with ⟨qa, qb⟩ | ⟨_, q⟩
            · rcases h0 with rfl | rfl
              · exact absurd qa (by decide)
              · exact absurd qb (by decide)
            · exact q h3)).1]
        have : (v == Pu.sAll) = false := q1
        rw [this]; rfl
    have hwalk : x2 = true ∨ (x2 = false ∧ (v == [100, 101, 108, 101, 116, 101, 97, 108, 108]) = false ∧ (((f0 == [68]) = false ∧ (f0 == [67]) = false ∧ (f0 == [82]) = false ∧ (f0 == [77]) = false) ∨ (f0 = [68] ∧ ((n : Int) + 1 == 2) = false) ∨ (f0 = [67] ∧ ((n : Int) + 1 == 3) = false) ∨ (f0 = [82] ∧ ((n : Int) + 1 == 3) = false) ∨ (f0 = [77] ∧ ((n : Int) + 1 == 4) = false))) := by
      rcases hbad with q | ⟨q0, q1, q2, q3, q4⟩
      · left; exact q
      · right
        refine ⟨q0, q1, ?_⟩
        rcases q2 with q2 | ⟨q2, q5⟩
        · rcases q3 with ⟨q3, q6⟩ | ⟨q3, q6⟩
          · rcases q4 with q4 | ⟨q4, q7⟩
            · left; exact ⟨q2, q3, q6, q4⟩
            · right; right; right; right; exact ⟨q4, beq_eq_false_iff_ne.2 (by omega)⟩
          · rcases q3 with q3 | q3
            · right; right; left; exact ⟨q3, beq_eq_false_iff_ne.2 (by omega)⟩
            · right; right; right; left; exact ⟨q3, beq_eq_false_iff_ne.2 (by omega)⟩
        · right; left; exact ⟨q2, beq_eq_false_iff_ne.2 (by omega)⟩
    clear hbad hcr
    rcases hwalk with rfl | ⟨rfl, q1, ⟨q2, q3, q4, q5⟩ | ⟨rfl, q2⟩ | ⟨rfl, q2⟩ | ⟨rfl, q2⟩ | ⟨rfl, q2⟩⟩
    all_goals
      go_wp2
      refine bodyPost_ret (v := .agg #[.int .u8 0, .string ⟨#[]⟩, .int .i64 0, .string ⟨#[]⟩, .string ⟨#[]⟩, .string ⟨#[]⟩]) (by simp [results, Tryz.results276, go_sem, n0, n1, n2, n3, n4, n5]) rfl ⟨⟨_, ⟨_, _, _, _, _, _, rfl⟩, rfl⟩, ?_, ?_⟩
      · rw [HB.out]
        exact ((((((hr2.setBad _).setNew hb2f _).setNew hb2f _).setNew hb2f _).setNew hb2f _).setNew hb2f _).setNew hb2f _
      · exact ((((((hk02.only_set _).setNew (Nat.le_refl _) _).setNew (Nat.le_refl _) _).setNew (Nat.le_refl _) _).setNew (Nat.le_refl _) _).setNew (Nat.le_refl _) _).setNew (Nat.le_refl _) _
  · have hcase : x2 = false ∧ (v = [100, 101, 108, 101, 116, 101, 97, 108, 108] ∨ ((v == [100, 101, 108, 101, 116, 101, 97, 108, 108]) = false ∧ ((f0 = [68] ∧ ∃ f1, r = [f1]) ∨ ((f0 = [67] ∨ f0 = [82]) ∧ ∃ f1 f2, r = [f1, f2]) ∨ (f0 = [77] ∧ ∃ f1 f2 f3, r = [f1, f2, f3])))) := by
      have hx2 : x2 = false := by
        cases x2
        · rfl
        · exact absurd (Or.inl rfl) hbad
      refine ⟨hx2, ?_⟩
      by_cases q1 : v = [100, 101, 108, 101, 116, 101, 97, 108, 108]
      · left; exact q1
      right
      have q1b : (v == [100, 101, 108, 101, 116, 101, 97, 108, 108]) = false := by simpa using q1
      refine ⟨q1b, ?_⟩
      have hl := HLEN.out
      by_cases a1 : f0 = [68] ∧ n = 1
      · left
        refine ⟨a1.1, ?_⟩
        match r, hl with
        | [f1], _ => exact ⟨f1, rfl⟩
        | [], hl => simp at hl; omega
        | _ :: _ :: _, hl => simp at hl; omega
      by_cases a2 : (f0 = [67] ∨ f0 = [82]) ∧ n = 2
      · right; left
        refine ⟨a2.1, ?_⟩
        match r, hl with
        | [f1, f2], _ => exact ⟨f1, f2, rfl⟩
        | [], hl => simp at hl; omega
        | [_], hl => simp at hl; omega
        | _ :: _ :: _ :: _, hl => simp at hl; omega
      by_cases a3 : f0 = [77] ∧ n = 3
      · right; right
        refine ⟨a3.1, ?_⟩
        match r, hl with
        | [f1, f2, f3], _ => exact ⟨f1, f2, f3, rfl⟩
        | [], hl => simp at hl; omega
        | [_], hl => simp at hl; omega
        | [_, _], hl => simp at hl; omega
        | _ :: _ :: _ :: _ :: _, hl => simp at hl; omega
      exfalso
      apply hbad
      right
      refine ⟨hx2, q1b, ?_, ?_, ?_⟩
      · by_cases e : f0 = [68]
        · right; exact ⟨e, fun e2 => a1 ⟨e, e2⟩⟩
        · left; simpa using e
      · by_cases e : f0 = [67] ∨ f0 = [82]
        · right; exact ⟨e, fun e2 => a2 ⟨e, e2⟩⟩
        · left; exact ⟨by simpa using fun e2 => e (Or.inl e2), by simpa using fun e2 => e (Or.inr e2)⟩
      · by_cases e : f0 = [77]
        · right; exact ⟨e, fun e2 => a3 ⟨e, e2⟩⟩
        · left; simpa using e
    clear hbad
    obtain ⟨rfl, hcase⟩ := hcase
    have ev := HV.out rfl
    have ev2 : v = x0 := ev
    subst ev2
    clear ev
    have HQ2 : Hid (rchange rest bad = Pu.change v x1 false) := HQ.out
    clear HQ HV
    have hlens := split_lens v [32]
    rw [HSP.out] at hlens
    rcases hcase with rfl | ⟨q1, ⟨rfl, f1, rfl⟩ | ⟨hcr2, f1, f2, rfl⟩ | ⟨rfl, f1, f2, f3, rfl⟩⟩
    · have HB : Hid (rchange rest bad = (x1, false)) := by show _ = _; rw [HQ2.out]; rfl
      clear hcr hlens
      go_wp2
      refine bodyPost_ret (v := .agg #[.int .u8 120, .string ⟨#[]⟩, .int .i64 0, .string ⟨#[]⟩, .string ⟨#[]⟩, .string ⟨#[]⟩]) (by simp [results, Tryz.results276, go_sem, n0, n1, n2, n3, n4, n5]) rfl ⟨⟨_, ⟨_, _, _, _, _, _, rfl⟩, rfl⟩, ?_, ?_⟩
      · rw [HB.out]
        exact (((((hr2.setNew hb2f _).setNew hb2f _).setNew hb2f _).setNew hb2f _).setNew hb2f _).setNew hb2f _
      · exact (((((hk02.setNew (Nat.le_refl _) _).setNew (Nat.le_refl _) _).setNew (Nat.le_refl _) _).setNew (Nat.le_refl _) _).setNew (Nat.le_refl _) _).setNew (Nat.le_refl _) _
    · have HB : Hid (rchange rest bad = Pu.need (Pu.isPath f1) x1 false) := by show _ = _; rw [HQ2.out]; unfold Pu.change; rw [HSP.out]; rfl
      have hcr1 := hcr 0 f1 rfl
      have hl1 : f1.length ≤ 8000 := by have := hlens f1 (by simp); omega
      have en : n = 1 := HLEN.out.symm
      subst en
      clear hcr hlens
      go_wp2_with fail
      refine (isPath_any f1 _ hl1).mono ?_
      rintro e w3 ⟨rfl, hk3⟩
      generalize Pu.isPath f1 = ip at *
      have hr3 := hr2.kept (hk3 (fun _ => False)) id
      have hN3 := hN2.kept (hk3 (fun _ => False)) id
      have hk03 := hk02.trans (hk3 _)
      have hcr3 := ((hk3 (fun _ => False)).cell (p := ⟨g, 0 + 1, none⟩) hgl id).trans hcr1
      have hgl3 : g < w3.heap.size := lt_of_cell hcr3
      clear hr2 hN2 hk02 hk3 hcr1 hrr c0 c1 c2 e0 e1 e2 HR n0 n1 n2 n3 n4 n5 nf hc0
      go_wp2_with fail
      refine (must_any b s x1 false ip _ hr3).mono ?_
      rintro e w4 ⟨rfl, hr4, hk4⟩
      have hN4 := hN3.only hk4 hb
      have hk04 := hk03.trans hk4
      have hcr4 := (hk4.cell (p := ⟨g, 0 + 1, none⟩) hgl3 (by unfold Only; exact hgb)).trans hcr3
      have n0 := hN4.cell 0
      have n1 := hN4.cell 1
      have n2 := hN4.cell 2
      have n3 := hN4.cell 3
      have n4 := hN4.cell 4
      have n5 := hN4.cell 5
      have nf := hN4.frozen
      clear hr3 hN3 hk03 hcr3 hk4 hN4
      go_wp2
      refine bodyPost_ret (v := .agg #[.int .u8 68, .string ⟨#[]⟩, .int .i64 0, .string ⟨#[]⟩, .string ⟨f1.toArray⟩, .string ⟨#[]⟩]) (by simp [results, Tryz.results276, go_sem, n0, n1, n2, n3, n4, n5]) rfl ⟨⟨_, ⟨_, _, _, _, _, _, rfl⟩, rfl⟩, ?_, ?_⟩
      · rw [HB.out]
        exact (((((hr4.setNew hb2f _).setNew hb2f _).setNew hb2f _).setNew hb2f _).setNew hb2f _).setNew hb2f _
      · exact (((((hk04.setNew (Nat.le_refl _) _).setNew (Nat.le_refl _) _).setNew (Nat.le_refl _) _).setNew (Nat.le_refl _) _).setNew (Nat.le_refl _) _).setNew (Nat.le_refl _) _
    · have HB : Hid (rchange rest bad = Pu.need (Pu.isPath f2 && Pu.isPath f1) x1 false) := by
        show _ = _
        rw [HQ2.out]; unfold Pu.change; rw [HSP.out, ← need_need]
        rcases hcr2 with rfl | rfl <;> rfl
      have hcr1 := hcr 0 f1 rfl
      have hcr2' := hcr 1 f2 rfl
      have hl1 : f1.length ≤ 8000 := by have := hlens f1 (by simp); omega
      have hl2 : f2.length ≤ 8000 := by have := hlens f2 (by simp); omega
      have en : n = 2 := HLEN.out.symm
      subst en
      have hvp : 0 < v.length := split_word v f0 [f1, f2] HSP.out (by simp)
      have hz : (0 : Int) < (v.length : Int) := by omega
      clear hcr hlens
      rcases hcr2 with rfl | rfl
      all_goals
        go_wp2_with fail
        refine (isPath_any f1 _ hl1).mono ?_
        rintro e w3 ⟨rfl, hk3⟩
        generalize Pu.isPath f1 = ip at *
        have hr3 := hr2.kept (hk3 (fun _ => False)) id
        have hN3 := hN2.kept (hk3 (fun _ => False)) id
        have hk03 := hk02.trans (hk3 _)
        have hcr3 := ((hk3 (fun _ => False)).cell (p := ⟨g, 0 + 1, none⟩) hgl id).trans hcr1
        have hcr3' := ((hk3 (fun _ => False)).cell (p := ⟨g, 1 + 1, none⟩) hgl id).trans hcr2'
        have hgl3 : g < w3.heap.size := lt_of_cell hcr3
        clear hr2 hN2 hk02 hk3 hcr1 hcr2' hrr c0 c1 c2 e0 e1 e2 HR n0 n1 n2 n3 n4 n5 nf hc0
        go_wp2_with fail
        refine (isPath_any f2 _ hl2).mono ?_
        rintro e w4 ⟨rfl, hk4⟩
        generalize Pu.isPath f2 = iq at *
        have hr4 := hr3.kept (hk4 (fun _ => False)) id
        have hN4 := hN3.kept (hk4 (fun _ => False)) id
        have hk04 := hk03.trans (hk4 _)
        have hcr4 := ((hk4 (fun _ => False)).cell (p := ⟨g, 0 + 1, none⟩) hgl3 id).trans hcr3
        have hcr4' := ((hk4 (fun _ => False)).cell (p := ⟨g, 1 + 1, none⟩) hgl3 id).trans hcr3'
        have hgl4 : g < w4.heap.size := lt_of_cell hcr4
        clear hr3 hN3 hk03 hk4 hcr3 hcr3'
        cases ip
        all_goals
          go_wp2_with fail
          refine (must_any b s x1 false _ _ hr4).mono ?_
          rintro e w5 ⟨rfl, hr5, hk5⟩
          have hN5 := hN4.only hk5 hb
          have hk05 := hk04.trans hk5
          have hcr5 := (hk5.cell (p := ⟨g, 0 + 1, none⟩) hgl4 (by unfold Only; exact hgb)).trans hcr4
          have hcr5' := (hk5.cell (p := ⟨g, 1 + 1, none⟩) hgl4 (by unfold Only; exact hgb)).trans hcr4'
          have n0 := hN5.cell 0
          have n1 := hN5.cell 1
          have n2 := hN5.cell 2
          have n3 := hN5.cell 3
          have n4 := hN5.cell 4
          have n5 := hN5.cell 5
          have nf := hN5.frozen
          clear hr4 hN4 hk04 hcr4 hcr4' hk5 hN5
          go_wp2
          go_region
          all_goals go_wp2
          refine bodyPost_ret (v := .agg #[.int .u8 _, .string ⟨#[]⟩, .int .i64 0, .string ⟨#[]⟩, .string ⟨f1.toArray⟩, .string ⟨f2.toArray⟩]) (by simp [results, Tryz.results276, go_sem, n0, n1, n2, n3, n4, n5]; rfl) rfl ⟨⟨_, ⟨_, _, _, _, _, _, rfl⟩, rfl⟩, ?_, ?_⟩
          · rw [HB.out]
            first
              | exact (((((((hr5.setNew hb2f _).setNew hb2f _).setNew hb2f _).setNew hb2f _).setNew hb2f _).setNew hb2f _).drew)
              | (rw [Bool.and_false]; exact (((((((hr5.setNew hb2f _).setNew hb2f _).setNew hb2f _).setNew hb2f _).setNew hb2f _).setNew hb2f _).drew))
              | (rw [Bool.and_true]; exact (((((((hr5.setNew hb2f _).setNew hb2f _).setNew hb2f _).setNew hb2f _).setNew hb2f _).setNew hb2f _).drew))
          · exact (((((((hk05.setNew (Nat.le_refl _) _).setNew (Nat.le_refl _) _).setNew (Nat.le_refl _) _).setNew (Nat.le_refl _) _).setNew (Nat.le_refl _) _).setNew (Nat.le_refl _) _).drew)
    · have HB : Hid (rchange rest bad = Pu.changeM f1 f2 f3 x1 false) := by show _ = _; rw [HQ2.out]; unfold Pu.change; rw [HSP.out]; rfl
      have hcell : ∀ k (hk : k < 4), w2.cell? ⟨g, k, none⟩ = some (.string ⟨[[77], f1, f2, f3][k].toArray⟩) := by
        intro k hk
        have : k = 0 ∨ k = 1 ∨ k = 2 ∨ k = 3 := by omega
        rcases this with rfl | rfl | rfl | rfl
        · exact hc0
        · exact hcr 0 f1 rfl
        · exact hcr 1 f2 rfl
        · exact hcr 2 f3 rfl
      have hl2 : f2.length ≤ 8000 := by have := hlens f2 (by simp); omega
      have hl3 : f3.length ≤ 8000 := by have := hlens f3 (by simp); omega
      have en : n = 3 := HLEN.out.symm
      subst en
      have HC : Hid (∀ k (hk : k < 4), w2.cell? ⟨g, k, none⟩ = some (.string ⟨[[77], f1, f2, f3][k].toArray⟩)) := hcell
      clear hcr hlens hcell
      go_wp2_with fail
      refine (file_any b g cap s x1 false [77] f1 f2 f3 _ hr2 (Or.inr HC.out) hgb hgl hl2 hl3).mono ?_
      rintro e w3 ⟨⟨vv, ⟨kk, aa, nn, dd, xx, yy, rfl⟩, rfl⟩, hr3, hk3⟩
      have hN3 := hN2.only hk3 hb
      have hk03 := hk02.trans hk3
      clear hr2 hN2 hk02 hk3 hrr c0 c1 c2 e0 e1 e2 HR n0 n1 n2 n3 n4 n5 nf hc0 HC
      have n0 := hN3.cell 0
      have n1 := hN3.cell 1
      have n2 := hN3.cell 2
      have n3 := hN3.cell 3
      have n4 := hN3.cell 4
      have n5 := hN3.cell 5
      have nf := hN3.frozen
      clear hN3
      go_wp2
      refine bodyPost_ret (v := .agg #[.int .u8 kk, .string aa, .int .i64 nn, .string dd, .string xx, .string yy]) (by simp [results, Tryz.results276, go_sem, n0, n1, n2, n3, n4, n5]) rfl ⟨⟨_, ⟨_, _, _, _, _, _, rfl⟩, rfl⟩, ?_, ?_⟩
      · rw [HB.out]
        exact (((((hr3.setNew hb2f _).setNew hb2f _).setNew hb2f _).setNew hb2f _).setNew hb2f _).setNew hb2f _
      · exact (((((hk03.setNew (Nat.le_refl _) _).setNew (Nat.le_refl _) _).setNew (Nat.le_refl _) _).setNew (Nat.le_refl _) _).setNew (Nat.le_refl _) _).setNew (Nat.le_refl _) _

end Rf
end Go.Proofs.YtepgoppgblfjbaaGreatDoor
