/- word, readOne. -/
import Derived.Test.YtepgoppgblfjbaaGreatDoorFind
namespace Go.Proofs.YtepgoppgblfjbaaGreatDoor
open Go.RowKit

set_option maxHeartbeats 400000 in
theorem word_any (b : Nat) (s : List UInt8) (bad : Bool) (w : World) (h : Rd b s bad w) :
    Calls Tryz.prog 118 #[.pointer (some ⟨b, 0, none⟩)] w fun e w' => e = .returned (.string ⟨(Pu.word s).toArray⟩) ∧ ∃ n, w' = w.drewN n := by
  obtain ⟨c0, c1, f0, f1, pos, ⟨m, hm⟩, short⟩ := h
  have hl := (Pu.cut_lens s [10]).1
  have HE : Hid (Pu.word s = (Lib.cut (Lib.cut s [10]).1 [32]).1) := rfl
  go_enter Tryz.func118, Tryz.ntmps118
  go_wp2_with fail
  refine (cut_any s [10] m _ short hm).mono ?_
  rintro e w1 ⟨rfl, n, rfl⟩
  generalize Lib.cut s [10] = x at *
  obtain ⟨x0, x1, x2⟩ := x
  go_wp2_with fail
  refine (cut_any x0 [32] m _ (by omega) (by exact hm)).mono ?_
  rintro e w2 ⟨rfl, n2, rfl⟩
  generalize Lib.cut x0 [32] = y at *
  obtain ⟨y0, y1, y2⟩ := y
  go_wp2
  go_ret
  exact ⟨by rw [HE.out]; rfl, n + n2, by simp⟩

/-- What readOne gives: a command's value, its slices from lo on. -/
def CoV (w : World) (lo : Nat) (v : Value) (c : Pu.Co) : Prop := ∃ vm vc, v = .agg (coC c vm vc) ∧ CoS w lo vm vc c

theorem cob_new (w : World) (x : List UInt8) (B : Nat) (hB : B = w.heap.size) : Cb B (coC (Pu.Co.of x) (.slice none 0 0) (.slice none 0 0)) 158 (w.alloc (.cells #[.string ⟨x.toArray⟩, .string ⟨#[]⟩, .int .i64 0, .string ⟨#[]⟩, .string ⟨#[]⟩, .int .i64 0, .string ⟨#[]⟩, .int .i64 0, .string ⟨#[]⟩, .slice none 0 0, .slice none 0 0] 158)) := by
  subst hB
  exact Cb.new _ _ _

theorem cos_res {w w' : World} {D : Nat} {vm vc : Value} {c : Pu.Co} (h : CoS w (D + 1) vm vc c) (hk : Kx (Only D) w w') : CoS w' D vm vc c :=
  (h.kept hk (fun j hj _ e => by unfold Only at e; omega)).mono (Nat.le_succ D)

set_option maxHeartbeats 4000000 in
set_option maxRecDepth 100000 in
theorem readOne_any (b : Nat) (s : List UInt8) (bad : Bool) (w : World) (h : Rd b s bad w) :
    Calls Tryz.prog 120 #[.pointer (some ⟨b, 0, none⟩)] w fun e w' => (∃ v, e = .returned v ∧ CoV w' w.heap.size v (Pu.readOneV s bad)) ∧ Rd b (Pu.readOne s bad).1 (Pu.readOne s bad).2 w' ∧ Kx (Only b) w w' := by
  have hb := h.lt
  have h1 := h.alloc (.cells #[.string ⟨#[]⟩, .string ⟨#[]⟩, .int .i64 0, .string ⟨#[]⟩, .string ⟨#[]⟩, .int .i64 0, .string ⟨#[]⟩, .int .i64 0, .string ⟨#[]⟩, .slice none 0 0, .slice none 0 0] 158)
  have hR0 := Cb.new #[.string ⟨#[]⟩, .string ⟨#[]⟩, .int .i64 0, .string ⟨#[]⟩, .string ⟨#[]⟩, .int .i64 0, .string ⟨#[]⟩, .int .i64 0, .string ⟨#[]⟩, .slice none 0 0, .slice none 0 0] 158 w
  have hx1 := (Kx.refl (Only b) w).alloc (.cells #[.string ⟨#[]⟩, .string ⟨#[]⟩, .int .i64 0, .string ⟨#[]⟩, .string ⟨#[]⟩, .int .i64 0, .string ⟨#[]⟩, .int .i64 0, .string ⟨#[]⟩, .slice none 0 0, .slice none 0 0] 158)
  go_enter Tryz.func120, Tryz.ntmps120
  go_wp2_with fail
  refine (word_any b s bad _ h1).mono ?_
  rintro e w1 ⟨rfl, n, hw1⟩
  obtain ⟨x, HW⟩ : ∃ x, Hid (Pu.word s = x) := ⟨_, rfl⟩
  rw [HW.out]
  have hkw1 : Kx (Only b) (w.alloc (.cells #[.string ⟨#[]⟩, .string ⟨#[]⟩, .int .i64 0, .string ⟨#[]⟩, .string ⟨#[]⟩, .int .i64 0, .string ⟨#[]⟩, .int .i64 0, .string ⟨#[]⟩, .slice none 0 0, .slice none 0 0] 158)) w1 := by rw [hw1]; exact (Kx.refl _ _).drewN n
  have hr1 : Rd b s bad w1 := by rw [hw1]; exact h1.drewN n
  have hR1 := hR0.only hkw1 hb
  have hk1 := hx1.trans hkw1
  clear hw1 hkw1 h1 hR0 hx1
  obtain ⟨D, HD⟩ : ∃ D, Hid (w.heap.size = D) := ⟨_, rfl⟩
  have hDD : w.heap.size = D := HD.out
  rw [hDD] at hR1 ⊢
  have hbD : b < D := by omega
  have hD1 : D < w1.heap.size := hR1.lt
  clear hDD
  have hcb := cob_new w1 x w1.heap.size rfl
  have hr2 := hr1.alloc (.cells #[.string ⟨x.toArray⟩, .string ⟨#[]⟩, .int .i64 0, .string ⟨#[]⟩, .string ⟨#[]⟩, .int .i64 0, .string ⟨#[]⟩, .int .i64 0, .string ⟨#[]⟩, .slice none 0 0, .slice none 0 0] 158)
  have hR2 := hR1.alloc (.cells #[.string ⟨x.toArray⟩, .string ⟨#[]⟩, .int .i64 0, .string ⟨#[]⟩, .string ⟨#[]⟩, .int .i64 0, .string ⟨#[]⟩, .int .i64 0, .string ⟨#[]⟩, .slice none 0 0, .slice none 0 0] 158)
  have hk2 := hk1.alloc (.cells #[.string ⟨x.toArray⟩, .string ⟨#[]⟩, .int .i64 0, .string ⟨#[]⟩, .string ⟨#[]⟩, .int .i64 0, .string ⟨#[]⟩, .int .i64 0, .string ⟨#[]⟩, .slice none 0 0, .slice none 0 0] 158)
  have hs2 : (w1.alloc (.cells #[.string ⟨x.toArray⟩, .string ⟨#[]⟩, .int .i64 0, .string ⟨#[]⟩, .string ⟨#[]⟩, .int .i64 0, .string ⟨#[]⟩, .int .i64 0, .string ⟨#[]⟩, .slice none 0 0, .slice none 0 0] 158)).heap.size = w1.heap.size + 1 := by simp
  obtain ⟨E, HE0⟩ : ∃ E, Hid (w1.heap.size = E) := ⟨_, rfl⟩
  have hEE : w1.heap.size = E := HE0.out
  go_wp2_with fail
  refine (find_any x _).mono ?_
  rintro e w3 ⟨rfl, hk3⟩
  have hcb3 := hcb.kept hk3 id
  have hr3 := hr2.kept hk3 id id
  have hR3 := hR2.kept hk3 id
  have hkw3 : Kx (Only b) w w3 := hk2.trans (hk3.mono (fun _ _ hh => hh.elim))
  have hs3 : w1.heap.size < w3.heap.size := by have := hk3.size; omega
  rw [hEE] at hcb3 hs3 hD1
  clear hcb hr2 hR2 hk2 hs2 hk3 hEE hr1 hR1 hk1
  have hk4 := hkw3
  have hD3 : D < w3.heap.size := by omega

  by_cases hx0 : x = [98, 108, 111, 98]
  · have HRow : Hid (rowV x = (.agg #[.string ⟨#[98, 108, 111, 98]⟩, .func (.func 164) #[] #[], .func (.func 165) #[] #[], .func (.func 166) #[] #[]], true)) := by
      show _ = _
      subst hx0
      rfl
    have HE : Hid (Pu.readOne s bad = Pu.readBlob s bad ∧ Pu.readOneV s bad = Pu.readBlobV s bad (Pu.Co.of x)) := by
      show _ ∧ _
      unfold Pu.readOne Pu.readOneV
      rw [HW.out, hx0]
      exact ⟨rfl, rfl⟩
    rw [HRow.out]
    clear HRow hx0
    have hcb4 := hcb3.alloc (.cells #[.string ⟨#[98, 108, 111, 98]⟩, .func (.func 164) #[] #[], .func (.func 165) #[] #[], .func (.func 166) #[] #[]] 163)
    have hr4 := hr3.alloc (.cells #[.string ⟨#[98, 108, 111, 98]⟩, .func (.func 164) #[] #[], .func (.func 165) #[] #[], .func (.func 166) #[] #[]] 163)
    have hR4 := hR3.alloc (.cells #[.string ⟨#[98, 108, 111, 98]⟩, .func (.func 164) #[] #[], .func (.func 165) #[] #[], .func (.func 166) #[] #[]] 163)
    have hk5 := hk4.alloc (.cells #[.string ⟨#[98, 108, 111, 98]⟩, .func (.func 164) #[] #[], .func (.func 165) #[] #[], .func (.func 166) #[] #[]] 163)
    have hs4 : (w3.alloc (.cells #[.string ⟨#[98, 108, 111, 98]⟩, .func (.func 164) #[] #[], .func (.func 165) #[] #[], .func (.func 166) #[] #[]] 163)).heap.size = w3.heap.size + 1 := by simp
    go_wp2_with fail
    refine (readBlob_any b E x s bad _ hr4 (by omega) hcb4).mono ?_
    rintro e w5 ⟨rfl, hr5, ⟨vm, vc, hc5, hS5⟩, hkk5⟩
    have hR5 := hR4.kept hkk5 (by unfold Two; omega)
    have hk6 : Kx (Only b) w w5 := hk5.trans' hkk5 (fun j hj hy => hy.elim id (fun e => absurd e (by have := HD.out; omega)))
    have hS6 : CoS w5 (D + 1) vm vc (Pu.readBlobV s bad (Pu.Co.of x)) := hS5.mono (by rw [hs4]; omega)
    have HV : Hid (Pu.readOneV s bad = Pu.readBlobV s bad (Pu.Co.of x)) := HE.out.2
    generalize Pu.readBlobV s bad (Pu.Co.of x) = cc at *
    clear hkk5 hk5 hcb4 hr4 hR4 hs4 hS5 hcb3 hr3 hR3
    have x0 := hc5.cell 0
    have x1 := hc5.cell 1
    have x2 := hc5.cell 2
    have x3 := hc5.cell 3
    have x4 := hc5.cell 4
    have x5 := hc5.cell 5
    have x6 := hc5.cell 6
    have x7 := hc5.cell 7
    have x8 := hc5.cell 8
    have x9 := hc5.cell 9
    have x10 := hc5.cell 10
    have y0 := hR5.cell 0
    have y1 := hR5.cell 1
    have y2 := hR5.cell 2
    have y3 := hR5.cell 3
    have y4 := hR5.cell 4
    have y5 := hR5.cell 5
    have y6 := hR5.cell 6
    have y7 := hR5.cell 7
    have y8 := hR5.cell 8
    have y9 := hR5.cell 9
    have y10 := hR5.cell 10
    have fy := hR5.frozen
    clear hc5 hR5
    unfold coC at x0 x1 x2 x3 x4 x5 x6 x7 x8 x9 x10
    obtain ⟨qm, cm, hvm, _⟩ := id hS6.ms
    obtain ⟨qc, cc2, hvc, _⟩ := id hS6.cs
    subst hvm hvc
    go_wp2
    refine bodyPost_ret (v := .agg (coC cc (.slice qm cc.merges.length cm) (.slice qc cc.changes.length cc2))) (by simp [results, Tryz.results120, go_sem, coC, y0, y1, y2, y3, y4, y5, y6, y7, y8, y9, y10]) rfl ⟨⟨_, rfl, _, _, by rw [HV.out], ?_⟩, ?_, ?_⟩
    · rw [HV.out, HD.out]
      exact cos_res hS6 ((((((((((((Kx.refl (Only D) w5).only_set _).only_set _).only_set _).only_set _).only_set _).only_set _).only_set _).only_set _).only_set _).only_set _).only_set _)
    · rw [HE.out.1]
      exact (((((((((((hr5).setNew hbD _).setNew hbD _).setNew hbD _).setNew hbD _).setNew hbD _).setNew hbD _).setNew hbD _).setNew hbD _).setNew hbD _).setNew hbD _).setNew hbD _
    · have hDle : w.heap.size ≤ D := Nat.le_of_eq HD.out
      exact (((((((((((hk6).setNew hDle _).setNew hDle _).setNew hDle _).setNew hDle _).setNew hDle _).setNew hDle _).setNew hDle _).setNew hDle _).setNew hDle _).setNew hDle _).setNew hDle _
  by_cases hx1 : x = [99, 111, 109, 109, 105, 116]
  · have HRow : Hid (rowV x = (.agg #[.string ⟨#[99, 111, 109, 109, 105, 116]⟩, .func (.func 167) #[] #[], .func (.func 168) #[] #[], .func (.func 169) #[] #[]], true)) := by
      show _ = _
      subst hx1
      rfl
    have HE : Hid (Pu.readOne s bad = Pu.readCommit s bad ∧ Pu.readOneV s bad = Pu.readCommitV s bad (Pu.Co.of x)) := by
      show _ ∧ _
      unfold Pu.readOne Pu.readOneV
      rw [HW.out, hx1]
      exact ⟨rfl, rfl⟩
    rw [HRow.out]
    clear HRow hx0 hx1
    have hcb4 := hcb3.alloc (.cells #[.string ⟨#[99, 111, 109, 109, 105, 116]⟩, .func (.func 167) #[] #[], .func (.func 168) #[] #[], .func (.func 169) #[] #[]] 163)
    have hr4 := hr3.alloc (.cells #[.string ⟨#[99, 111, 109, 109, 105, 116]⟩, .func (.func 167) #[] #[], .func (.func 168) #[] #[], .func (.func 169) #[] #[]] 163)
    have hR4 := hR3.alloc (.cells #[.string ⟨#[99, 111, 109, 109, 105, 116]⟩, .func (.func 167) #[] #[], .func (.func 168) #[] #[], .func (.func 169) #[] #[]] 163)
    have hk5 := hk4.alloc (.cells #[.string ⟨#[99, 111, 109, 109, 105, 116]⟩, .func (.func 167) #[] #[], .func (.func 168) #[] #[], .func (.func 169) #[] #[]] 163)
    have hs4 : (w3.alloc (.cells #[.string ⟨#[99, 111, 109, 109, 105, 116]⟩, .func (.func 167) #[] #[], .func (.func 168) #[] #[], .func (.func 169) #[] #[]] 163)).heap.size = w3.heap.size + 1 := by simp
    go_wp2_with fail
    refine (readCommit_any b E x s bad _ hr4 (by omega) hcb4).mono ?_
    rintro e w5 ⟨rfl, hr5, ⟨vm, vc, hc5, hS5⟩, hkk5⟩
    have hR5 := hR4.kept hkk5 (by unfold Two; omega)
    have hk6 : Kx (Only b) w w5 := hk5.trans' hkk5 (fun j hj hy => hy.elim id (fun e => absurd e (by have := HD.out; omega)))
    have hS6 : CoS w5 (D + 1) vm vc (Pu.readCommitV s bad (Pu.Co.of x)) := hS5.mono (by rw [hs4]; omega)
    have HV : Hid (Pu.readOneV s bad = Pu.readCommitV s bad (Pu.Co.of x)) := HE.out.2
    generalize Pu.readCommitV s bad (Pu.Co.of x) = cc at *
    clear hkk5 hk5 hcb4 hr4 hR4 hs4 hS5 hcb3 hr3 hR3
    have x0 := hc5.cell 0
    have x1 := hc5.cell 1
    have x2 := hc5.cell 2
    have x3 := hc5.cell 3
    have x4 := hc5.cell 4
    have x5 := hc5.cell 5
    have x6 := hc5.cell 6
    have x7 := hc5.cell 7
    have x8 := hc5.cell 8
    have x9 := hc5.cell 9
    have x10 := hc5.cell 10
    have y0 := hR5.cell 0
    have y1 := hR5.cell 1
    have y2 := hR5.cell 2
    have y3 := hR5.cell 3
    have y4 := hR5.cell 4
    have y5 := hR5.cell 5
    have y6 := hR5.cell 6
    have y7 := hR5.cell 7
    have y8 := hR5.cell 8
    have y9 := hR5.cell 9
    have y10 := hR5.cell 10
    have fy := hR5.frozen
    clear hc5 hR5
    unfold coC at x0 x1 x2 x3 x4 x5 x6 x7 x8 x9 x10
    obtain ⟨qm, cm, hvm, _⟩ := id hS6.ms
    obtain ⟨qc, cc2, hvc, _⟩ := id hS6.cs
    subst hvm hvc
    go_wp2
    refine bodyPost_ret (v := .agg (coC cc (.slice qm cc.merges.length cm) (.slice qc cc.changes.length cc2))) (by simp [results, Tryz.results120, go_sem, coC, y0, y1, y2, y3, y4, y5, y6, y7, y8, y9, y10]) rfl ⟨⟨_, rfl, _, _, by rw [HV.out], ?_⟩, ?_, ?_⟩
    · rw [HV.out, HD.out]
      exact cos_res hS6 ((((((((((((Kx.refl (Only D) w5).only_set _).only_set _).only_set _).only_set _).only_set _).only_set _).only_set _).only_set _).only_set _).only_set _).only_set _)
    · rw [HE.out.1]
      exact (((((((((((hr5).setNew hbD _).setNew hbD _).setNew hbD _).setNew hbD _).setNew hbD _).setNew hbD _).setNew hbD _).setNew hbD _).setNew hbD _).setNew hbD _).setNew hbD _
    · have hDle : w.heap.size ≤ D := Nat.le_of_eq HD.out
      exact (((((((((((hk6).setNew hDle _).setNew hDle _).setNew hDle _).setNew hDle _).setNew hDle _).setNew hDle _).setNew hDle _).setNew hDle _).setNew hDle _).setNew hDle _).setNew hDle _
  by_cases hx2 : x = [116, 97, 103]
  · have HRow : Hid (rowV x = (.agg #[.string ⟨#[116, 97, 103]⟩, .func (.func 170) #[] #[], .func (.func 171) #[] #[], .func (.func 172) #[] #[]], true)) := by
      show _ = _
      subst hx2
      rfl
    have HE : Hid (Pu.readOne s bad = Pu.readTag s bad ∧ Pu.readOneV s bad = Pu.readTagV s bad (Pu.Co.of x)) := by
      show _ ∧ _
      unfold Pu.readOne Pu.readOneV
      rw [HW.out, hx2]
      exact ⟨rfl, rfl⟩
    rw [HRow.out]
    clear HRow hx0 hx1 hx2
    have hcb4 := hcb3.alloc (.cells #[.string ⟨#[116, 97, 103]⟩, .func (.func 170) #[] #[], .func (.func 171) #[] #[], .func (.func 172) #[] #[]] 163)
    have hr4 := hr3.alloc (.cells #[.string ⟨#[116, 97, 103]⟩, .func (.func 170) #[] #[], .func (.func 171) #[] #[], .func (.func 172) #[] #[]] 163)
    have hR4 := hR3.alloc (.cells #[.string ⟨#[116, 97, 103]⟩, .func (.func 170) #[] #[], .func (.func 171) #[] #[], .func (.func 172) #[] #[]] 163)
    have hk5 := hk4.alloc (.cells #[.string ⟨#[116, 97, 103]⟩, .func (.func 170) #[] #[], .func (.func 171) #[] #[], .func (.func 172) #[] #[]] 163)
    have hs4 : (w3.alloc (.cells #[.string ⟨#[116, 97, 103]⟩, .func (.func 170) #[] #[], .func (.func 171) #[] #[], .func (.func 172) #[] #[]] 163)).heap.size = w3.heap.size + 1 := by simp
    go_wp2_with fail
    refine (readTag_any b E x s bad _ hr4 (by omega) hcb4).mono ?_
    rintro e w5 ⟨rfl, hr5, ⟨vm, vc, hc5, hS5⟩, hkk5⟩
    have hR5 := hR4.kept hkk5 (by unfold Two; omega)
    have hk6 : Kx (Only b) w w5 := hk5.trans' hkk5 (fun j hj hy => hy.elim id (fun e => absurd e (by have := HD.out; omega)))
    have hS6 : CoS w5 (D + 1) vm vc (Pu.readTagV s bad (Pu.Co.of x)) := hS5.mono (by rw [hs4]; omega)
    have HV : Hid (Pu.readOneV s bad = Pu.readTagV s bad (Pu.Co.of x)) := HE.out.2
    generalize Pu.readTagV s bad (Pu.Co.of x) = cc at *
    clear hkk5 hk5 hcb4 hr4 hR4 hs4 hS5 hcb3 hr3 hR3
    have x0 := hc5.cell 0
    have x1 := hc5.cell 1
    have x2 := hc5.cell 2
    have x3 := hc5.cell 3
    have x4 := hc5.cell 4
    have x5 := hc5.cell 5
    have x6 := hc5.cell 6
    have x7 := hc5.cell 7
    have x8 := hc5.cell 8
    have x9 := hc5.cell 9
    have x10 := hc5.cell 10
    have y0 := hR5.cell 0
    have y1 := hR5.cell 1
    have y2 := hR5.cell 2
    have y3 := hR5.cell 3
    have y4 := hR5.cell 4
    have y5 := hR5.cell 5
    have y6 := hR5.cell 6
    have y7 := hR5.cell 7
    have y8 := hR5.cell 8
    have y9 := hR5.cell 9
    have y10 := hR5.cell 10
    have fy := hR5.frozen
    clear hc5 hR5
    unfold coC at x0 x1 x2 x3 x4 x5 x6 x7 x8 x9 x10
    obtain ⟨qm, cm, hvm, _⟩ := id hS6.ms
    obtain ⟨qc, cc2, hvc, _⟩ := id hS6.cs
    subst hvm hvc
    go_wp2
    refine bodyPost_ret (v := .agg (coC cc (.slice qm cc.merges.length cm) (.slice qc cc.changes.length cc2))) (by simp [results, Tryz.results120, go_sem, coC, y0, y1, y2, y3, y4, y5, y6, y7, y8, y9, y10]) rfl ⟨⟨_, rfl, _, _, by rw [HV.out], ?_⟩, ?_, ?_⟩
    · rw [HV.out, HD.out]
      exact cos_res hS6 ((((((((((((Kx.refl (Only D) w5).only_set _).only_set _).only_set _).only_set _).only_set _).only_set _).only_set _).only_set _).only_set _).only_set _).only_set _)
    · rw [HE.out.1]
      exact (((((((((((hr5).setNew hbD _).setNew hbD _).setNew hbD _).setNew hbD _).setNew hbD _).setNew hbD _).setNew hbD _).setNew hbD _).setNew hbD _).setNew hbD _).setNew hbD _
    · have hDle : w.heap.size ≤ D := Nat.le_of_eq HD.out
      exact (((((((((((hk6).setNew hDle _).setNew hDle _).setNew hDle _).setNew hDle _).setNew hDle _).setNew hDle _).setNew hDle _).setNew hDle _).setNew hDle _).setNew hDle _).setNew hDle _
  by_cases hx3 : x = [114, 101, 115, 101, 116]
  · have HRow : Hid (rowV x = (.agg #[.string ⟨#[114, 101, 115, 101, 116]⟩, .func (.func 173) #[] #[], .func (.func 174) #[] #[], .func (.func 175) #[] #[]], true)) := by
      show _ = _
      subst hx3
      rfl
    have HE : Hid (Pu.readOne s bad = Pu.readReset s bad ∧ Pu.readOneV s bad = Pu.readResetV s bad (Pu.Co.of x)) := by
      show _ ∧ _
      unfold Pu.readOne Pu.readOneV
      rw [HW.out, hx3]
      exact ⟨rfl, rfl⟩
    rw [HRow.out]
    clear HRow hx0 hx1 hx2 hx3
    have hcb4 := hcb3.alloc (.cells #[.string ⟨#[114, 101, 115, 101, 116]⟩, .func (.func 173) #[] #[], .func (.func 174) #[] #[], .func (.func 175) #[] #[]] 163)
    have hr4 := hr3.alloc (.cells #[.string ⟨#[114, 101, 115, 101, 116]⟩, .func (.func 173) #[] #[], .func (.func 174) #[] #[], .func (.func 175) #[] #[]] 163)
    have hR4 := hR3.alloc (.cells #[.string ⟨#[114, 101, 115, 101, 116]⟩, .func (.func 173) #[] #[], .func (.func 174) #[] #[], .func (.func 175) #[] #[]] 163)
    have hk5 := hk4.alloc (.cells #[.string ⟨#[114, 101, 115, 101, 116]⟩, .func (.func 173) #[] #[], .func (.func 174) #[] #[], .func (.func 175) #[] #[]] 163)
    have hs4 : (w3.alloc (.cells #[.string ⟨#[114, 101, 115, 101, 116]⟩, .func (.func 173) #[] #[], .func (.func 174) #[] #[], .func (.func 175) #[] #[]] 163)).heap.size = w3.heap.size + 1 := by simp
    go_wp2_with fail
    refine (readReset_any b E x s bad _ hr4 (by omega) hcb4).mono ?_
    rintro e w5 ⟨rfl, hr5, ⟨vm, vc, hc5, hS5⟩, hkk5⟩
    have hR5 := hR4.kept hkk5 (by unfold Two; omega)
    have hk6 : Kx (Only b) w w5 := hk5.trans' hkk5 (fun j hj hy => hy.elim id (fun e => absurd e (by have := HD.out; omega)))
    have hS6 : CoS w5 (D + 1) vm vc (Pu.readResetV s bad (Pu.Co.of x)) := hS5.mono (by rw [hs4]; omega)
    have HV : Hid (Pu.readOneV s bad = Pu.readResetV s bad (Pu.Co.of x)) := HE.out.2
    generalize Pu.readResetV s bad (Pu.Co.of x) = cc at *
    clear hkk5 hk5 hcb4 hr4 hR4 hs4 hS5 hcb3 hr3 hR3
    have x0 := hc5.cell 0
    have x1 := hc5.cell 1
    have x2 := hc5.cell 2
    have x3 := hc5.cell 3
    have x4 := hc5.cell 4
    have x5 := hc5.cell 5
    have x6 := hc5.cell 6
    have x7 := hc5.cell 7
    have x8 := hc5.cell 8
    have x9 := hc5.cell 9
    have x10 := hc5.cell 10
    have y0 := hR5.cell 0
    have y1 := hR5.cell 1
    have y2 := hR5.cell 2
    have y3 := hR5.cell 3
    have y4 := hR5.cell 4
    have y5 := hR5.cell 5
    have y6 := hR5.cell 6
    have y7 := hR5.cell 7
    have y8 := hR5.cell 8
    have y9 := hR5.cell 9
    have y10 := hR5.cell 10
    have fy := hR5.frozen
    clear hc5 hR5
    unfold coC at x0 x1 x2 x3 x4 x5 x6 x7 x8 x9 x10
    obtain ⟨qm, cm, hvm, _⟩ := id hS6.ms
    obtain ⟨qc, cc2, hvc, _⟩ := id hS6.cs
    subst hvm hvc
    go_wp2
    refine bodyPost_ret (v := .agg (coC cc (.slice qm cc.merges.length cm) (.slice qc cc.changes.length cc2))) (by simp [results, Tryz.results120, go_sem, coC, y0, y1, y2, y3, y4, y5, y6, y7, y8, y9, y10]) rfl ⟨⟨_, rfl, _, _, by rw [HV.out], ?_⟩, ?_, ?_⟩
    · rw [HV.out, HD.out]
      exact cos_res hS6 ((((((((((((Kx.refl (Only D) w5).only_set _).only_set _).only_set _).only_set _).only_set _).only_set _).only_set _).only_set _).only_set _).only_set _).only_set _)
    · rw [HE.out.1]
      exact (((((((((((hr5).setNew hbD _).setNew hbD _).setNew hbD _).setNew hbD _).setNew hbD _).setNew hbD _).setNew hbD _).setNew hbD _).setNew hbD _).setNew hbD _).setNew hbD _
    · have hDle : w.heap.size ≤ D := Nat.le_of_eq HD.out
      exact (((((((((((hk6).setNew hDle _).setNew hDle _).setNew hDle _).setNew hDle _).setNew hDle _).setNew hDle _).setNew hDle _).setNew hDle _).setNew hDle _).setNew hDle _).setNew hDle _
  have HRow : Hid (rowV x = (.agg #[.string ⟨#[]⟩, .nilFunc, .nilFunc, .nilFunc], false)) := by
    show _ = _
    unfold rowV
    rw [if_neg hx0, if_neg hx1, if_neg hx2, if_neg hx3]
  have HE : Hid (Pu.readOne s bad = ([], true) ∧ Pu.readOneV s bad = Pu.Co.of []) := by
    have e0 : (x == Pu.sBlob) = false := beq_eq_false_iff_ne.2 hx0
    have e1 : (x == Pu.sCommit) = false := beq_eq_false_iff_ne.2 hx1
    have e2 : (x == Pu.sTag) = false := beq_eq_false_iff_ne.2 hx2
    have e3 : (x == Pu.sReset) = false := beq_eq_false_iff_ne.2 hx3
    show _ ∧ _
    unfold Pu.readOne Pu.readOneV
    rw [HW.out, e0, e1, e2, e3]
    exact ⟨rfl, rfl⟩
  rw [HRow.out]
  clear HRow hx0 hx1 hx2 hx3
  have hr4 := hr3.alloc (.cells #[.string ⟨#[]⟩, .nilFunc, .nilFunc, .nilFunc] 163)
  have hR4 := hR3.alloc (.cells #[.string ⟨#[]⟩, .nilFunc, .nilFunc, .nilFunc] 163)
  have hk5 := hk4.alloc (.cells #[.string ⟨#[]⟩, .nilFunc, .nilFunc, .nilFunc] 163)
  go_wp2_with fail
  refine (fail_any b s bad _ hr4).mono ?_
  rintro e w5 ⟨rfl, hr5, hkk5⟩
  have hR5 := hR4.only hkk5 hbD
  have hk6 : Kx (Only b) w w5 := hk5.trans hkk5
  clear hkk5 hk5 hr4 hR4 hcb3 hr3 hR3
  have y0 := hR5.cell 0
  have y1 := hR5.cell 1
  have y2 := hR5.cell 2
  have y3 := hR5.cell 3
  have y4 := hR5.cell 4
  have y5 := hR5.cell 5
  have y6 := hR5.cell 6
  have y7 := hR5.cell 7
  have y8 := hR5.cell 8
  have y9 := hR5.cell 9
  have y10 := hR5.cell 10
  have fy := hR5.frozen
  clear hR5
  go_wp2
  refine bodyPost_ret (v := .agg (coC (Pu.Co.of []) (.slice none 0 0) (.slice none 0 0))) (by simp [results, Tryz.results120, go_sem, coC, Pu.Co.of, y0, y1, y2, y3, y4, y5, y6, y7, y8, y9, y10]) rfl ⟨⟨_, rfl, _, _, by rw [HE.out.2], ?_⟩, ?_, ?_⟩
  · rw [HE.out.2]
    exact CoS.nil _ _ _ rfl rfl
  · rw [HE.out.1]
    exact (((((((((((hr5).setNew hbD _).setNew hbD _).setNew hbD _).setNew hbD _).setNew hbD _).setNew hbD _).setNew hbD _).setNew hbD _).setNew hbD _).setNew hbD _).setNew hbD _
  · have hDle : w.heap.size ≤ D := Nat.le_of_eq HD.out
    exact (((((((((((hk6).setNew hDle _).setNew hDle _).setNew hDle _).setNew hDle _).setNew hDle _).setNew hDle _).setNew hDle _).setNew hDle _).setNew hDle _).setNew hDle _).setNew hDle _

end Go.Proofs.YtepgoppgblfjbaaGreatDoor
