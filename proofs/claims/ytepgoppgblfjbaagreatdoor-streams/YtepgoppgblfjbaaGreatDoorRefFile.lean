/- The document's reader: file. -/
import Derived.Test.YtepgoppgblfjbaaGreatDoorRefRead2
import Derived.RegionTactic
import Derived.BigRegion
import Derived.ChangeAlike
namespace Go.Proofs.YtepgoppgblfjbaaGreatDoor
open Go.RowKit
namespace Rf

theorem need_need (m p : Bool) (r : List UInt8) (bad : Bool) : Pu.need p (Pu.need m r bad).1 (Pu.need m r bad).2 = Pu.need (p && m) r bad := by
  cases m <;> cases p <;> rfl

theorem mark_dec (f : List UInt8) : (Pu.mark f).2 = (Lib.hasPrefix f [58] && decide (0 < Pu.n10 (f.drop 1) 999)) := by
  unfold Pu.mark
  cases h : Lib.hasPrefix f [58] with
  | false => rfl
  | true =>
    simp only [if_true, Bool.true_and]
    have t3 : Lib.trimPrefix f [58] = f.drop 1 := by unfold Lib.trimPrefix; rw [if_pos h]; rfl
    rw [t3, number_one]

theorem Rs.drew {b : Nat} {s rest : List UInt8} {bad : Bool} {w : World} (h : Rs b s rest bad w) : Rs b s rest bad w.drew := h.drewN 1

theorem content_inline (x1 : List UInt8) (x2 : Bool) : Pu.content [105, 110, 108, 105, 110, 101] x1 x2 = ((Pu.data x1 x2).2.1, (Pu.data x1 x2).2.2) := rfl

def IsChg (v : Value) : Prop := ∃ (k : Int) (a : ByteArray) (n : Int) (d x y : ByteArray), v = .agg #[.int .u8 k, .string a, .int .i64 n, .string d, .string x, .string y]

set_option maxHeartbeats 2000000 in
set_option maxRecDepth 100000 in
theorem file_any (b g cap : Nat) (s rest : List UInt8) (bad : Bool) (f0 f1 f2 f3 : List UInt8) (w : World) (h : Rs b s rest bad w) (hg : Cb g #[.string ⟨f0.toArray⟩, .string ⟨f1.toArray⟩, .string ⟨f2.toArray⟩, .string ⟨f3.toArray⟩] 9 w ∨ (∀ k (hk : k < 4), w.cell? ⟨g, k, none⟩ = some (.string ⟨[f0, f1, f2, f3][k].toArray⟩))) (hgb : g ≠ b) (hgl : g < w.heap.size)
    (l2 : f2.length ≤ 8000) (l3 : f3.length ≤ 8000) :
    Calls Tryz.prog 326 #[.pointer (some ⟨b, 0, none⟩), .slice (some ⟨g, 0, none⟩) 4 cap] w fun e w' => (∃ v, IsChg v ∧ e = .returned v) ∧ Rs b s (Pu.changeM f1 f2 f3 rest bad).1 (Pu.changeM f1 f2 f3 rest bad).2 w' ∧ Kx (Only b) w w' := by
  have hcell : ∀ k (hk : k < 4), w.cell? ⟨g, k, none⟩ = some (.string ⟨[f0, f1, f2, f3][k].toArray⟩) := by
    rcases hg with hg | hg
    · intro k hk
      rw [hg.cell k]
      have : k = 0 ∨ k = 1 ∨ k = 2 ∨ k = 3 := by omega
      rcases this with rfl | rfl | rfl | rfl <;> rfl
    · exact hg
  clear hg
  have hb := h.lt
  have hkeep : ∀ {w' : World}, Kx (Only b) w w' → (w'.cell? ⟨g, 1, none⟩ = some (.string ⟨f1.toArray⟩) ∧ w'.cell? ⟨g, 2, none⟩ = some (.string ⟨f2.toArray⟩) ∧ w'.cell? ⟨g, 3, none⟩ = some (.string ⟨f3.toArray⟩)) := by
    intro w' hk
    refine ⟨?_, ?_, ?_⟩
    · rw [hk.cell (p := ⟨g, 1, none⟩) hgl (by unfold Only; exact hgb)]; exact hcell 1 (by omega)
    · rw [hk.cell (p := ⟨g, 2, none⟩) hgl (by unfold Only; exact hgb)]; exact hcell 2 (by omega)
    · rw [hk.cell (p := ⟨g, 3, none⟩) hgl (by unfold Only; exact hgb)]; exact hcell 3 (by omega)
  clear hcell
  have hk0 : Kx (Only b) w (w.alloc (.cells #[.int .u8 0, .string ⟨#[]⟩, .int .i64 0, .string ⟨#[]⟩, .string ⟨#[]⟩, .string ⟨#[]⟩] 368)) := (Kx.refl _ w).alloc _
  obtain ⟨a1, a2, a3⟩ := hkeep hk0
  have HQ : Hid (Pu.changeM f1 f2 f3 rest bad = Pu.content f2 (Pu.need (Pu.isPath f3 && (f1 == Pu.s644 || f1 == Pu.s755)) rest bad).1 (Pu.need (Pu.isPath f3 && (f1 == Pu.s644 || f1 == Pu.s755)) rest bad).2) := by
    show _ = _
    unfold Pu.changeM; rw [need_need]
  go_enter Tryz.func326, Tryz.ntmps326
  go_wp2_with fail
  refine (isPath_any f3 _ l3).mono ?_
  rintro e w1 ⟨rfl, hk1⟩
  have hk01 := hk0.trans (hk1 _)
  have hr1 := (h.alloc (.cells #[.int .u8 0, .string ⟨#[]⟩, .int .i64 0, .string ⟨#[]⟩, .string ⟨#[]⟩, .string ⟨#[]⟩] 368)).kept (hk1 (fun _ => False)) id
  have hN1 := (Cb.new #[.int .u8 0, .string ⟨#[]⟩, .int .i64 0, .string ⟨#[]⟩, .string ⟨#[]⟩, .string ⟨#[]⟩] 368 w).kept (hk1 (fun _ => False)) id
  clear a1 a2 a3
  obtain ⟨a1, a2, a3⟩ := hkeep hk01
  generalize Pu.isPath f3 = ip at *
  have HM : Hid ((f1 == Pu.s644 || f1 == Pu.s755) = (f1 == [49, 48, 48, 54, 52, 52] || f1 == [49, 48, 48, 55, 53, 53])) := rfl
  rw [HM.out] at HQ
  have hmode : ∃ md, Hid ((ip && (f1 == [49, 48, 48, 54, 52, 52] || f1 == [49, 48, 48, 55, 53, 53])) = md) := ⟨_, rfl⟩
  obtain ⟨md, HMD⟩ := hmode
  rw [HMD.out] at HQ
  have hstep : (ip = false ∧ Hid (md = false)) ∨ (ip = true ∧ (f1 == [49, 48, 48, 54, 52, 52]) = true ∧ Hid (md = true)) ∨ (ip = true ∧ (f1 == [49, 48, 48, 54, 52, 52]) = false ∧ Hid (md = (f1 == [49, 48, 48, 55, 53, 53]))) := by
    cases ip
    · left; exact ⟨rfl, HMD.out.symm⟩
    · right
      by_cases e : f1 = [49, 48, 48, 54, 52, 52]
      · left; refine ⟨rfl, by simpa using e, ?_⟩; show _ = _; rw [← HMD.out, e]; rfl
      · right
        have e2 : (f1 == [49, 48, 48, 54, 52, 52]) = false := by simpa using e
        refine ⟨rfl, e2, ?_⟩; show _ = _; rw [← HMD.out, e2]; rfl
  clear HMD HM
  have hb2f : w.heap.size ≠ b := by omega
  rcases hstep with ⟨rfl, HD⟩ | ⟨rfl, hb1, HD⟩ | ⟨rfl, hb1, HD⟩
  all_goals
    go_wp2_with fail
    refine (must_any b s rest bad _ _ hr1).mono ?_
    rintro e w2 ⟨rfl, hr2, hk2⟩
    rw [← HD.out] at hr2
    generalize Pu.need md rest bad = st at *
    obtain ⟨x1, x2⟩ := st
    have hk02 := hk01.trans hk2
    have hN2 := hN1.only hk2 hb
    clear a1 a2 a3 hr1 hN1 hk01 hk2 hk1 hk0
    obtain ⟨a1, a2, a3⟩ := hkeep hk02
    by_cases hin : f2 = [105, 110, 108, 105, 110, 101]
    · subst hin
      rw [content_inline] at HQ
      go_wp2_with fail
      refine (data_any b s x1 x2 _ hr2).mono ?_
      rintro e w3 ⟨⟨d, rfl⟩, hr3, hk3⟩
      have hk03 := hk02.trans hk3
      have hN3 := hN2.only hk3 hb
      clear a1 a2 a3 hN2 hk02 hk3
      obtain ⟨a1, a2, a3⟩ := hkeep hk03
      have n0 := hN3.cell 0
      have n1 := hN3.cell 1
      have n2 := hN3.cell 2
      have n3 := hN3.cell 3
      have n4 := hN3.cell 4
      have n5 := hN3.cell 5
      have nf := hN3.frozen
      clear hN3
      go_wp2
      go_region
      all_goals go_wp2
      refine bodyPost_ret (v := .agg #[.int .u8 77, .string ⟨f1.toArray⟩, .int .i64 0, .string d, .string ⟨f3.toArray⟩, .string ⟨#[]⟩]) (by simp [results, Tryz.results326, go_sem, n0, n1, n2, n3, n4, n5]) rfl ⟨⟨_, ⟨_, _, _, _, _, _, rfl⟩, rfl⟩, ?_, ?_⟩
      · rw [HQ.out]
        exact (((((((hr3.setNew hb2f _).setNew hb2f _).setNew hb2f _).setNew hb2f _).setNew hb2f _).setNew hb2f _).drew)
      · exact (((((((hk03.setNew (Nat.le_refl _) _).setNew (Nat.le_refl _) _).setNew (Nat.le_refl _) _).setNew (Nat.le_refl _) _).setNew (Nat.le_refl _) _).setNew (Nat.le_refl _) _).drew)
    · have hinb : (f2 == [105, 110, 108, 105, 110, 101]) = false := by simpa using hin
      have HC : Hid (Pu.content f2 x1 x2 = Pu.need (Pu.mark f2).2 x1 x2) := by show _ = _; unfold Pu.content Pu.sInline; rw [hinb]; simp
      rw [HC.out, mark_dec] at HQ
      clear hin HC
      cases hp : Lib.hasPrefix f2 [58]
      · have hcase : f2 = [] ∨ ((f2 == []) = false ∧ f2.isEmpty = false ∧ ∃ h0 : 0 < f2.length, (((⟨f2.toArray⟩ : ByteArray)[0].toNat : Int) == 58) = false) := by
          cases f2 with
          | nil => left; rfl
          | cons a l =>
            right
            refine ⟨rfl, rfl, by simp, ?_⟩
            have ha : a ≠ 58 := by
              intro e; subst e
              unfold Lib.hasPrefix at hp; simp [List.isPrefixOf] at hp
            have h2 : ((a.toNat : Int) == ((58 : UInt8).toNat : Int)) = false := by rw [u8_int_eq]; simpa using ha
            exact h2
        rw [hp, Bool.false_and] at HQ
        clear hp
        rcases hcase with rfl | ⟨he, he2, h0, b0⟩
        · go_wp2_with fail
          refine (must_any b s x1 x2 _ _ hr2).mono ?_
          rintro e w3 ⟨rfl, hr3, hk3⟩
          have hk03 := hk02.trans hk3
          have hN3 := hN2.only hk3 hb
          clear a1 a2 a3 hN2 hk02 hk3
          obtain ⟨a1, a2, a3⟩ := hkeep hk03
          have n0 := hN3.cell 0
          have n1 := hN3.cell 1
          have n2 := hN3.cell 2
          have n3 := hN3.cell 3
          have n4 := hN3.cell 4
          have n5 := hN3.cell 5
          have nf := hN3.frozen
          clear hN3
          go_wp2
          go_region
          all_goals go_wp2
          refine bodyPost_ret (v := .agg #[.int .u8 77, .string ⟨f1.toArray⟩, .int .i64 (-1), .string ⟨#[]⟩, .string ⟨f3.toArray⟩, .string ⟨#[]⟩]) (by simp [results, Tryz.results326, go_sem, n0, n1, n2, n3, n4, n5]) rfl ⟨⟨_, ⟨_, _, _, _, _, _, rfl⟩, rfl⟩, ?_, ?_⟩
          · rw [HQ.out]
            exact (((((((hr3.setNew hb2f _).setNew hb2f _).setNew hb2f _).setNew hb2f _).setNew hb2f _).setNew hb2f _).drew)
          · exact (((((((hk03.setNew (Nat.le_refl _) _).setNew (Nat.le_refl _) _).setNew (Nat.le_refl _) _).setNew (Nat.le_refl _) _).setNew (Nat.le_refl _) _).setNew (Nat.le_refl _) _).drew)
        · have hz : (0 : Int) < (f2.length : Int) := by omega
          go_wp2_with fail
          refine (must_any b s x1 x2 _ _ hr2).mono ?_
          rintro e w3 ⟨rfl, hr3, hk3⟩
          have hk03 := hk02.trans hk3
          have hN3 := hN2.only hk3 hb
          clear a1 a2 a3 hN2 hk02 hk3
          obtain ⟨a1, a2, a3⟩ := hkeep hk03
          have n0 := hN3.cell 0
          have n1 := hN3.cell 1
          have n2 := hN3.cell 2
          have n3 := hN3.cell 3
          have n4 := hN3.cell 4
          have n5 := hN3.cell 5
          have nf := hN3.frozen
          clear hN3
          go_wp2
          go_region
          all_goals go_wp2
          refine bodyPost_ret (v := .agg #[.int .u8 77, .string ⟨f1.toArray⟩, .int .i64 (-1), .string ⟨#[]⟩, .string ⟨f3.toArray⟩, .string ⟨#[]⟩]) (by simp [results, Tryz.results326, go_sem, n0, n1, n2, n3, n4, n5]) rfl ⟨⟨_, ⟨_, _, _, _, _, _, rfl⟩, rfl⟩, ?_, ?_⟩
          · rw [HQ.out]
            exact (((((((hr3.setNew hb2f _).setNew hb2f _).setNew hb2f _).setNew hb2f _).setNew hb2f _).setNew hb2f _).drew)
          · exact (((((((hk03.setNew (Nat.le_refl _) _).setNew (Nat.le_refl _) _).setNew (Nat.le_refl _) _).setNew (Nat.le_refl _) _).setNew (Nat.le_refl _) _).setNew (Nat.le_refl _) _).drew)
      · obtain ⟨l, rfl⟩ : ∃ l, f2 = 58 :: l := by
          cases f2 with
          | nil => unfold Lib.hasPrefix at hp; simp [List.isPrefixOf] at hp
          | cons a l =>
            have ha : (58 : UInt8) = a := by unfold Lib.hasPrefix at hp; simpa [List.isPrefixOf] using hp
            subst ha; exact ⟨l, rfl⟩
        have hll : l.length ≤ 8000 := by simp at l2; omega
        rw [hp, Bool.true_and] at HQ
        clear hp
        have hext := ext_mid (58 :: l)
        go_wp2_with fail
        refine (number10_any l 999 _ hll).mono ?_
        rintro e w9 ⟨rfl, rfl⟩
        go_wp2_with fail
        refine (must_any b s x1 x2 _ _ hr2).mono ?_
        rintro e w3 ⟨rfl, hr3, hk3⟩
        have hk03 := hk02.trans hk3
        have hN3 := hN2.only hk3 hb
        clear a1 a2 a3 hN2 hk02 hk3
        obtain ⟨a1, a2, a3⟩ := hkeep hk03
        have n0 := hN3.cell 0
        have n1 := hN3.cell 1
        have n2 := hN3.cell 2
        have n3 := hN3.cell 3
        have n4 := hN3.cell 4
        have n5 := hN3.cell 5
        have nf := hN3.frozen
        clear hN3
        go_wp2
        go_region
        all_goals go_wp2
        refine bodyPost_ret (v := .agg #[.int .u8 77, .string ⟨f1.toArray⟩, .int .i64 (Pu.n10 l 999), .string ⟨#[]⟩, .string ⟨f3.toArray⟩, .string ⟨#[]⟩]) (by simp [results, Tryz.results326, go_sem, n0, n1, n2, n3, n4, n5]) rfl ⟨⟨_, ⟨_, _, _, _, _, _, rfl⟩, rfl⟩, ?_, ?_⟩
        · rw [HQ.out]
          exact (((((((hr3.setNew hb2f _).setNew hb2f _).setNew hb2f _).setNew hb2f _).setNew hb2f _).setNew hb2f _).drew)
        · exact (((((((hk03.setNew (Nat.le_refl _) _).setNew (Nat.le_refl _) _).setNew (Nat.le_refl _) _).setNew (Nat.le_refl _) _).setNew (Nat.le_refl _) _).setNew (Nat.le_refl _) _).drew)

end Rf
end Go.Proofs.YtepgoppgblfjbaaGreatDoor
