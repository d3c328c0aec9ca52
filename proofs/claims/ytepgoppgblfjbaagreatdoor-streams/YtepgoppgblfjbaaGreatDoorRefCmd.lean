/- The document's reader: a command. -/
import Derived.Test.YtepgoppgblfjbaaGreatDoorRefCmd0
namespace Go.Proofs.YtepgoppgblfjbaaGreatDoor
open Go.RowKit
namespace Rf

set_option maxHeartbeats 3000000 in
set_option maxRecDepth 100000 in
theorem command_any (b : Nat) (s rest : List UInt8) (w : World) (h : Rs b s rest false w) :
    Calls Tryz.prog 148 #[.pointer (some ⟨b, 0, none⟩)] w fun e w' => (∃ v v5 n5 c5 v6 n6 c6 v7 n7 c7, IsCmd v (.slice v5 n5 c5) (.slice v6 n6 c6) (.slice v7 n7 c7) ∧ e = .returned v) ∧ Rs b s (Cmd rest).1 (Cmd rest).2 w' ∧ Kx (Only b) w w' := by
  have hb := h.lt
  obtain ⟨i0, hi, hz0, hz1, hz2⟩ := info_parts Tryz.info302
  have hk0 : Kx (Only b) w (w.alloc (.cells #[.int .u8 0, .string ⟨#[]⟩, .int .i64 0, .string ⟨#[]⟩, .string ⟨#[]⟩, .slice none 0 0, .slice none 0 0, .slice none 0 0] 255)) := (Kx.refl _ w).alloc _
  have hD0 : Cc w.heap.size (.slice none 0 0) (.slice none 0 0) (.slice none 0 0) (w.alloc (.cells #[.int .u8 0, .string ⟨#[]⟩, .int .i64 0, .string ⟨#[]⟩, .string ⟨#[]⟩, .slice none 0 0, .slice none 0 0, .slice none 0 0] 255)) := ⟨_, _, _, _, _, Cb.new _ 255 w⟩
  have hne : w.heap.size ≠ b := by omega
  go_enter Tryz.func148, Tryz.ntmps148
  go_wp2_with fail
  refine (line_any b s rest false _ (h.alloc _)).mono ?_
  rintro e w1 ⟨⟨v, rfl, hv, hvl⟩, hr1, hk1⟩
  obtain ⟨lx, hlx⟩ : ∃ x, Pu.line rest false = x := ⟨_, rfl⟩
  obtain ⟨x0, x1, x2⟩ := lx
  rw [hlx] at hvl hr1
  have HL : Hid (Pu.line rest false = (x0, x1, x2)) := hlx
  have HV : Hid (x2 = false → v = x0) := hvl
  clear hlx hvl
  have hD1 := hD0.only hk1 hb
  have hx1 := hk0.trans hk1
  clear hk0 hk1 hD0
  have hk1l := hD1.lt
  have nek : w1.heap.size ≠ b := by omega
  have nek3 : w.heap.size ≠ w1.heap.size := by omega
  have hkl : w.heap.size ≤ w1.heap.size := by omega
  have hblk : b < w1.heap.size := by omega
  obtain ⟨a1, hrr1, _⟩ := id hr1
  obtain ⟨_, _, c2, _, _, f2, _, _⟩ := hrr1
  cases x2
  · have ev : v = x0 := HV.out rfl
    subst ev
    clear HV
    by_cases hB : v = [98, 108, 111, 98]
    · subst hB
      have HB : Hid (Cmd rest = (Pu.data (Pu.rmark x1 false).2.1 (Pu.rmark x1 false).2.2).2) := cmd_blob HL.out
      clear HL
      go_wp2_with fail
      have hr2 := hr1.alloc (.cells #[.int .u8 98, .string ⟨#[]⟩, .int .i64 0, .string ⟨#[]⟩, .string ⟨#[]⟩, .slice none 0 0, .slice none 0 0, .slice none 0 0] 255)
      have hD2 := hD1.kept ((Kx.refl (fun _ => False) w1).alloc (.cells #[.int .u8 98, .string ⟨#[]⟩, .int .i64 0, .string ⟨#[]⟩, .string ⟨#[]⟩, .slice none 0 0, .slice none 0 0, .slice none 0 0] 255)) id
      have hx2 := hx1.alloc (.cells #[.int .u8 98, .string ⟨#[]⟩, .int .i64 0, .string ⟨#[]⟩, .string ⟨#[]⟩, .slice none 0 0, .slice none 0 0, .slice none 0 0] 255)
      have hC2 : Cc w1.heap.size (.slice none 0 0) (.slice none 0 0) (.slice none 0 0) (w1.alloc (.cells #[.int .u8 98, .string ⟨#[]⟩, .int .i64 0, .string ⟨#[]⟩, .string ⟨#[]⟩, .slice none 0 0, .slice none 0 0, .slice none 0 0] 255)) := ⟨_, _, _, _, _, Cb.new _ 255 w1⟩
      refine (mark_any b s x1 false _ hr2).mono ?_
      rintro e w3 ⟨⟨q3, rfl⟩, hr3, hk3⟩
      generalize Pu.rmark x1 false = st3 at *
      obtain ⟨z3', s3, bad3⟩ := st3
      have hx3 := hx2.trans hk3
      have hC3 := hC2.only hk3 hblk
      have hD3 := hD2.only hk3 hb
      clear hr2 hD2 hx2 hC2 hk3 hr1 hD1 hx1 c2 f2
      obtain ⟨_, _, _, _, _, _, _, m3, _, _, _, _, _⟩ := hC3.cells
      have g3 := hC3.frozen
      go_wp2_with fail
      refine (data_any b s s3 bad3 _ (hr3.setNew nek _)).mono ?_
      rintro e w4 ⟨⟨q4, rfl⟩, hr4, hk4⟩
      generalize Pu.data s3 bad3 = st4 at *
      obtain ⟨z4', s4, bad4⟩ := st4
      have hx4 := (hx3.setNew hkl _).trans hk4
      have hC4 := (hC3.set2 q3).only hk4 hblk
      have hD4 := (hD3.setOther nek3 _).only hk4 hb
      clear hr3 hD3 hx3 hC3 hk4 m3 g3
      have hr5 := hr4.setNew (o := 4) nek (.string q4)
      have hx5 := hx4.setNew (p := ⟨w1.heap.size, 4, none⟩) hkl (.string q4)
      have hC5 := hC4.set4 q4
      have hD5 := hD4.setOther (o := 4) nek3 (.string q4)
      obtain ⟨_, _, _, _, _, _, _, _, _, m4, _, _, _⟩ := hC4.cells
      have g4 := hC4.frozen
      obtain ⟨z0, z1, z2, z3, z4, y0, y1, y2, y3, y4, y5, y6, y7⟩ := hC5.cells
      obtain ⟨_, _, _, _, _, d0, d1, d2, d3, d4, d5, d6, d7⟩ := hD5.cells
      have gZ := hD5.frozen
      go_wp2
      refine bodyPost_ret (v := .agg #[.int .u8 z0, .string z1, .int .i64 z2, .string z3, .string z4, .slice none 0 0, .slice none 0 0, .slice none 0 0]) (by simp [results, Tryz.results148, go_sem, d0, d1, d2, d3, d4, d5, d6, d7]) rfl ⟨⟨_, _, _, _, _, _, _, _, _, _, ⟨_, _, _, _, _, rfl⟩, rfl⟩, ?_, ?_⟩
      · rw [HB.out]
        exact (((((((hr5.setNew hne _).setNew hne _).setNew hne _).setNew hne _).setNew hne _).setNew hne _).setNew hne _).setNew hne _
      · exact (((((((hx5.setNew (Nat.le_refl _) _).setNew (Nat.le_refl _) _).setNew (Nat.le_refl _) _).setNew (Nat.le_refl _) _).setNew (Nat.le_refl _) _).setNew (Nat.le_refl _) _).setNew (Nat.le_refl _) _).setNew (Nat.le_refl _) _
    · have hB2 : (v == [98, 108, 111, 98]) = false := by simpa using hB
      clear hB
      have hext := ext_mid v
      go_wp2_with fail
      refine (begins_any v [99, 111, 109, 109, 105, 116, 32] _).mono ?_
      rintro e wb ⟨rfl, rfl⟩
      cases hp1 : Lib.hasPrefix v [99, 111, 109, 109, 105, 116, 32]
      · have HN1 : Hid (Lib.hasPrefix v [99, 111, 109, 109, 105, 116, 32] = false) := hp1
        clear hp1
        go_wp2_with fail
        refine (begins_any v [116, 97, 103, 32] _).mono ?_
        rintro e wb ⟨rfl, rfl⟩
        cases hp2 : Lib.hasPrefix v [116, 97, 103, 32]
        · have HN2 : Hid (Lib.hasPrefix v [116, 97, 103, 32] = false) := hp2
          clear hp2
          go_wp2_with fail
          refine (begins_any v [114, 101, 115, 101, 116, 32] _).mono ?_
          rintro e wb ⟨rfl, rfl⟩
          cases hp3 : Lib.hasPrefix v [114, 101, 115, 101, 116, 32]
          · have HN3 : Hid (Lib.hasPrefix v [114, 101, 115, 101, 116, 32] = false) := hp3
            clear hp3
            have HB : Hid ((Cmd rest).2 = true) := cmd_none HL.out hB2 HN1.out HN2.out HN3.out
            clear HL HN1 HN2 HN3
            obtain ⟨_, _, _, _, _, d0, d1, d2, d3, d4, d5, d6, d7⟩ := hD1.cells
            have gD := hD1.frozen
            go_wp2
            refine bodyPost_ret (v := .agg #[.int .u8 0, .string ⟨#[]⟩, .int .i64 0, .string ⟨#[]⟩, .string ⟨#[]⟩, .slice none 0 0, .slice none 0 0, .slice none 0 0]) (by simp [results, Tryz.results148, go_sem, hk1l, d0, d1, d2, d3, d4, d5, d6, d7]) rfl ⟨⟨_, _, _, _, _, _, _, _, _, _, ⟨_, _, _, _, _, rfl⟩, rfl⟩, ?_, ?_⟩
            · rw [HB.out]
              exact (((((((((hr1.setBad _).setNew hne _).setNew hne _).setNew hne _).setNew hne _).setNew hne _).setNew hne _).setNew hne _).setNew hne _).alloc _
            · exact (((((((((hx1.only_set _).setNew (Nat.le_refl _) _).setNew (Nat.le_refl _) _).setNew (Nat.le_refl _) _).setNew (Nat.le_refl _) _).setNew (Nat.le_refl _) _).setNew (Nat.le_refl _) _).setNew (Nat.le_refl _) _).setNew (Nat.le_refl _) _).alloc _
          · have HP : Hid (Lib.hasPrefix v [114, 101, 115, 101, 116, 32] = true) := hp3
            clear hp3 HN1 HN2
            have HB : Hid (Cmd rest = Pu.exactly [] (Pu.fromOr (Pu.need (Pu.isRef (v.drop 6)) x1 false).1 (Pu.need (Pu.isRef (v.drop 6)) x1 false).2).1 (Pu.fromOr (Pu.need (Pu.isRef (v.drop 6)) x1 false).1 (Pu.need (Pu.isRef (v.drop 6)) x1 false).2).2) := cmd_reset HL.out HP.out
            clear HL
            have hpl : 6 ≤ v.length := by
              obtain ⟨x, e⟩ := prefix_app HP.out
              rw [e]; simp
            have hpl2 : (6 : Int) ≤ (v.length : Int) := by omega
            go_wp2_with fail
            have hr2 := hr1.alloc (.cells #[.int .u8 114, .string ⟨#[]⟩, .int .i64 0, .string ⟨#[]⟩, .string ⟨#[]⟩, .slice none 0 0, .slice none 0 0, .slice none 0 0] 255)
            have hD2 := hD1.kept ((Kx.refl (fun _ => False) w1).alloc (.cells #[.int .u8 114, .string ⟨#[]⟩, .int .i64 0, .string ⟨#[]⟩, .string ⟨#[]⟩, .slice none 0 0, .slice none 0 0, .slice none 0 0] 255)) id
            have hx2 := hx1.alloc (.cells #[.int .u8 114, .string ⟨#[]⟩, .int .i64 0, .string ⟨#[]⟩, .string ⟨#[]⟩, .slice none 0 0, .slice none 0 0, .slice none 0 0] 255)
            have hC2 : Cc w1.heap.size (.slice none 0 0) (.slice none 0 0) (.slice none 0 0) (w1.alloc (.cells #[.int .u8 114, .string ⟨#[]⟩, .int .i64 0, .string ⟨#[]⟩, .string ⟨#[]⟩, .slice none 0 0, .slice none 0 0, .slice none 0 0] 255)) := ⟨_, _, _, _, _, Cb.new _ 255 w1⟩
            have e9 : (v.drop 6).take (v.length - 6) = v.drop 6 := List.take_of_length_le (by simp)
            have HE9 : Hid ((v.drop 6).take (v.length - 6) = v.drop 6) := e9
            clear e9
            refine (ref_any b s x1 false ((v.drop 6).take (v.length - 6)) _ hr2 (by simp; omega)).mono ?_
            rintro e w3 ⟨⟨q3, rfl⟩, hr3, hk3⟩
            rw [HE9.out] at hr3
            generalize Pu.need (Pu.isRef (v.drop 6)) x1 false = st3 at *
            obtain ⟨s3, bad3⟩ := st3
            have hx3 := hx2.trans hk3
            have hC3 := hC2.only hk3 hblk
            have hD3 := hD2.only hk3 hb
            clear hr2 hD2 hx2 hC2 hk3 hr1 hD1 hx1 c2 f2 HE9
            obtain ⟨_, _, _, _, _, _, m3, _, _, _, _, _, _⟩ := hC3.cells
            have g3 := hC3.frozen
            have hr4 := hr3.setNew (o := 1) nek (.string q3)
            have hx4 := hx3.setNew (p := ⟨w1.heap.size, 1, none⟩) hkl (.string q3)
            have hC4 := hC3.set1 q3
            have hD4 := hD3.setOther (o := 1) nek3 (.string q3)
            clear hr3 hx3 hC3 hD3
            go_wp2_with fail
            refine (next_any b s s3 bad3 [102, 114, 111, 109, 32] _ hr4).mono ?_
            rintro e wn ⟨rfl, q, rfl⟩
            have hrN := hr4.drewN q
            have hCN := hC4.kept ((Kx.refl (fun _ => False) _).drewN q) id
            have hDN := hD4.kept ((Kx.refl (fun _ => False) _).drewN q) id
            have hxN := hx4.drewN q
            clear hr4 hx4 hC4 hD4 m3 g3
            generalize ((w3.setCell ⟨w1.heap.size, 1, none⟩ (.string q3)).drewN q) = wn at *
            cases hfr : (!bad3 && Lib.hasPrefix s3 [102, 114, 111, 109, 32])
            · have hrW := hrN.noFrom hfr
              clear hfr hrN
              generalize Pu.fromOr s3 bad3 = st6 at *
              obtain ⟨s6, bad6⟩ := st6
              have hxW := hxN
              have hCW := hCN
              have hDW := hDN
              clear hxN hCN hDN
              go_wp2_with fail
              refine (line_any b s s6 bad6 _ hrW).mono ?_
              rintro e w10 ⟨⟨vl, rfl, hvl1, hvl2⟩, hr10, hk10⟩
              have HVL : Hid ((Pu.line s6 bad6).2.2 = false → vl = (Pu.line s6 bad6).1) := hvl2
              clear hvl2
              go_wp2_with fail
              refine (must_any b s _ _ _ _ hr10).mono ?_
              rintro e w11 ⟨rfl, hr11, hk11⟩
              have hr12 : Rs b s (Pu.exactly [] s6 bad6).1 (Pu.exactly [] s6 bad6).2 w11 := Rs.exactly HVL.out hr11
              have hx12 := (hxW.trans hk10).trans hk11
              have hC12 := (hCW.only hk10 hblk).only hk11 hblk
              have hD12 := (hDW.only hk10 hb).only hk11 hb
              clear hrW hxW hCW hDW hr10 hr11 hk10 hk11 HVL
              obtain ⟨z0, z1, z2, z3, z4, y0, y1, y2, y3, y4, y5, y6, y7⟩ := hC12.cells
              obtain ⟨_, _, _, _, _, d0, d1, d2, d3, d4, d5, d6, d7⟩ := hD12.cells
              have gZ := hD12.frozen
              go_wp2
              refine bodyPost_ret (v := .agg #[.int .u8 z0, .string z1, .int .i64 z2, .string z3, .string z4, .slice none 0 0, .slice none 0 0, .slice none 0 0]) (by simp [results, Tryz.results148, go_sem, d0, d1, d2, d3, d4, d5, d6, d7]) rfl ⟨⟨_, _, _, _, _, _, _, _, _, _, ⟨_, _, _, _, _, rfl⟩, rfl⟩, ?_, ?_⟩
              · rw [HB.out]
                exact (((((((hr12.setNew hne _).setNew hne _).setNew hne _).setNew hne _).setNew hne _).setNew hne _).setNew hne _).setNew hne _
              · exact (((((((hx12.setNew (Nat.le_refl _) _).setNew (Nat.le_refl _) _).setNew (Nat.le_refl _) _).setNew (Nat.le_refl _) _).setNew (Nat.le_refl _) _).setNew (Nat.le_refl _) _).setNew (Nat.le_refl _) _).setNew (Nat.le_refl _) _
            · have HFR : Hid (Pu.fromOr s3 bad3 = Pu.which [102, 114, 111, 109, 32] s3 bad3) := fromOr_yes hfr
              clear hfr
              go_wp2_with fail
              refine (after_any b s s3 bad3 [102, 114, 111, 109, 32] _ hrN).mono ?_
              rintro e w5 ⟨⟨vw, rfl, hvw, hvl⟩, hr5, hk5⟩
              have HV : Hid ((Pu.after [102, 114, 111, 109, 32] s3 bad3).2.2 = false → vw = (Pu.after [102, 114, 111, 109, 32] s3 bad3).1) := hvl
              clear hvl
              go_wp2_with fail
              refine (which_any b s _ _ vw _ hr5 hvw).mono ?_
              rintro e w6 ⟨⟨nw, xw, rfl⟩, hr6, hk6⟩
              have hr6' := Rs.which HV.out hr6
              clear hr6 hr5 HV
              rw [← HFR.out] at hr6'
              clear HFR
              generalize Pu.fromOr s3 bad3 = st6 at *
              obtain ⟨s6, bad6⟩ := st6
              have hx6 := (hxN.trans hk5).trans hk6
              have hC6 := (hCN.only hk5 hblk).only hk6 hblk
              have hD6 := (hDN.only hk5 hb).only hk6 hb
              clear hk5 hk6 hrN hxN hCN hDN
              obtain ⟨_, _, _, _, _, _, _, _, _, _, m65, _, _⟩ := hC6.cells
              have g6 := hC6.frozen
              have hl6 := hC6.lt
              have hl6' := hD6.lt
              have ne6 : w1.heap.size ≠ w6.heap.size := by omega
              have hown5 : w6.ownsRow (w1.heap.size + 1) 302 2 (.slice none 0 0) 0 [] := World.ownsRow_nil _ _ _ _
              go_wp2_with (at_builtin; refine wpList_append_own _ rfl (.tmp 81) (.tmp 83) 252 rfl (w1.heap.size + 1) 302 i0 _ 2 24 Tryz.underlying252 hi hz0 hz1 hz2 rfl (by decide) _ _ _ rfl ((hown5.alloc _).alloc _) ⟨w6.heap.size + 1, 0, none⟩ 1 1 [.int .i64 nw, .string xw] rfl rfl ?c1 ?c2 ?c3 ?c4 ?c5 ?_)
              case c1 => exact cells_newN _ _ [_, _] _
              case c2 => simp [Value.oneCell']
              case c3 => unfold maxLen; omega
              case c4 => omega
              case c5 => simp; omega
              intro v7 w7 hown7 hgrow7 _
              have hx7 : Kx (Only b) w w7 := ((hx6.alloc _).alloc _).grown hgrow7 (fun k he => by cases he)
              have hr7 := ((hr6'.alloc _).alloc _).grown hgrow7 (fun k he => by cases he)
              have hC7 := (hC6.kept ((((Kx.refl (fun _ => False) w6).alloc _).alloc _)) id).grown hgrow7 (fun k he => by cases he)
              have hD7 := (hD6.kept ((((Kx.refl (fun _ => False) w6).alloc _).alloc _)) id).grown hgrow7 (fun k he => by cases he)
              obtain ⟨v7a, v7n, v7c, rfl⟩ : ∃ a n c, v7 = .slice a n c := by
                obtain ⟨a, c, e⟩ := own_slice hown7
                exact ⟨a, _, c, e⟩
              clear hown7 hgrow7 hx6 hr6' hC6 hD6 m65 g6 hl6 hl6' ne6 hown5
              have g7 := hC7.frozen
              obtain ⟨_, _, _, _, _, _, _, _, _, _, m75, _, _⟩ := hC7.cells
              have hr8 := hr7.setNew (o := 5) nek (.slice v7a v7n v7c)
              have hx8 := hx7.setNew (p := ⟨w1.heap.size, 5, none⟩) hkl (.slice v7a v7n v7c)
              have hC8 := hC7.set5 (.slice v7a v7n v7c)
              have hD8 := hD7.setOther (o := 5) nek3 (.slice v7a v7n v7c)
              clear hr7 hx7 hC7 hD7
              have hrW := hr8
              have hxW := hx8
              have hCW := hC8
              have hDW := hD8
              clear hr8 hx8 hC8 hD8
              go_wp2_with fail
              refine (line_any b s s6 bad6 _ hrW).mono ?_
              rintro e w10 ⟨⟨vl, rfl, hvl1, hvl2⟩, hr10, hk10⟩
              have HVL : Hid ((Pu.line s6 bad6).2.2 = false → vl = (Pu.line s6 bad6).1) := hvl2
              clear hvl2
              go_wp2_with fail
              refine (must_any b s _ _ _ _ hr10).mono ?_
              rintro e w11 ⟨rfl, hr11, hk11⟩
              have hr12 : Rs b s (Pu.exactly [] s6 bad6).1 (Pu.exactly [] s6 bad6).2 w11 := Rs.exactly HVL.out hr11
              have hx12 := (hxW.trans hk10).trans hk11
              have hC12 := (hCW.only hk10 hblk).only hk11 hblk
              have hD12 := (hDW.only hk10 hb).only hk11 hb
              clear hrW hxW hCW hDW hr10 hr11 hk10 hk11 HVL
              obtain ⟨z0, z1, z2, z3, z4, y0, y1, y2, y3, y4, y5, y6, y7⟩ := hC12.cells
              obtain ⟨_, _, _, _, _, d0, d1, d2, d3, d4, d5, d6, d7⟩ := hD12.cells
              have gZ := hD12.frozen
              go_wp2
              refine bodyPost_ret (v := .agg #[.int .u8 z0, .string z1, .int .i64 z2, .string z3, .string z4, .slice v7a v7n v7c, .slice none 0 0, .slice none 0 0]) (by simp [results, Tryz.results148, go_sem, d0, d1, d2, d3, d4, d5, d6, d7]) rfl ⟨⟨_, _, _, _, _, _, _, _, _, _, ⟨_, _, _, _, _, rfl⟩, rfl⟩, ?_, ?_⟩
              · rw [HB.out]
                exact (((((((hr12.setNew hne _).setNew hne _).setNew hne _).setNew hne _).setNew hne _).setNew hne _).setNew hne _).setNew hne _
              · exact (((((((hx12.setNew (Nat.le_refl _) _).setNew (Nat.le_refl _) _).setNew (Nat.le_refl _) _).setNew (Nat.le_refl _) _).setNew (Nat.le_refl _) _).setNew (Nat.le_refl _) _).setNew (Nat.le_refl _) _).setNew (Nat.le_refl _) _
        · have HP : Hid (Lib.hasPrefix v [116, 97, 103, 32] = true) := hp2
          clear hp2 HN1
          have HB : Hid (Cmd rest = (Pu.data (Pu.which [102, 114, 111, 109, 32] (Pu.need (Pu.isRef (v.drop 4)) x1 false).1 (Pu.need (Pu.isRef (v.drop 4)) x1 false).2).1 (Pu.which [102, 114, 111, 109, 32] (Pu.need (Pu.isRef (v.drop 4)) x1 false).1 (Pu.need (Pu.isRef (v.drop 4)) x1 false).2).2).2) := cmd_tag HL.out HP.out
          clear HL
          have hpl : 4 ≤ v.length := by
            obtain ⟨x, e⟩ := prefix_app HP.out
            rw [e]; simp
          have hpl2 : (4 : Int) ≤ (v.length : Int) := by omega
          go_wp2_with fail
          have hr2 := hr1.alloc (.cells #[.int .u8 116, .string ⟨#[]⟩, .int .i64 0, .string ⟨#[]⟩, .string ⟨#[]⟩, .slice none 0 0, .slice none 0 0, .slice none 0 0] 255)
          have hD2 := hD1.kept ((Kx.refl (fun _ => False) w1).alloc (.cells #[.int .u8 116, .string ⟨#[]⟩, .int .i64 0, .string ⟨#[]⟩, .string ⟨#[]⟩, .slice none 0 0, .slice none 0 0, .slice none 0 0] 255)) id
          have hx2 := hx1.alloc (.cells #[.int .u8 116, .string ⟨#[]⟩, .int .i64 0, .string ⟨#[]⟩, .string ⟨#[]⟩, .slice none 0 0, .slice none 0 0, .slice none 0 0] 255)
          have hC2 : Cc w1.heap.size (.slice none 0 0) (.slice none 0 0) (.slice none 0 0) (w1.alloc (.cells #[.int .u8 116, .string ⟨#[]⟩, .int .i64 0, .string ⟨#[]⟩, .string ⟨#[]⟩, .slice none 0 0, .slice none 0 0, .slice none 0 0] 255)) := ⟨_, _, _, _, _, Cb.new _ 255 w1⟩
          have e9 : (v.drop 4).take (v.length - 4) = v.drop 4 := List.take_of_length_le (by simp)
          have HE9 : Hid ((v.drop 4).take (v.length - 4) = v.drop 4) := e9
          clear e9
          refine (ref_any b s x1 false ((v.drop 4).take (v.length - 4)) _ hr2 (by simp; omega)).mono ?_
          rintro e w3 ⟨⟨q3, rfl⟩, hr3, hk3⟩
          rw [HE9.out] at hr3
          generalize Pu.need (Pu.isRef (v.drop 4)) x1 false = st3 at *
          obtain ⟨s3, bad3⟩ := st3
          have hx3 := hx2.trans hk3
          have hC3 := hC2.only hk3 hblk
          have hD3 := hD2.only hk3 hb
          clear hr2 hD2 hx2 hC2 hk3 hr1 hD1 hx1 c2 f2 HE9
          obtain ⟨_, _, _, _, _, _, m3, _, _, _, _, _, _⟩ := hC3.cells
          have g3 := hC3.frozen
          have hr4 := hr3.setNew (o := 1) nek (.string q3)
          have hx4 := hx3.setNew (p := ⟨w1.heap.size, 1, none⟩) hkl (.string q3)
          have hC4 := hC3.set1 q3
          have hD4 := hD3.setOther (o := 1) nek3 (.string q3)
          clear hr3 hx3 hC3 hD3
          go_wp2_with fail
          refine (after_any b s s3 bad3 [102, 114, 111, 109, 32] _ hr4).mono ?_
          rintro e w5 ⟨⟨vw, rfl, hvw, hvl⟩, hr5, hk5⟩
          have HV : Hid ((Pu.after [102, 114, 111, 109, 32] s3 bad3).2.2 = false → vw = (Pu.after [102, 114, 111, 109, 32] s3 bad3).1) := hvl
          clear hvl
          go_wp2_with fail
          refine (which_any b s _ _ vw _ hr5 hvw).mono ?_
          rintro e w6 ⟨⟨nw, xw, rfl⟩, hr6, hk6⟩
          have hr6' := Rs.which HV.out hr6
          clear hr6 hr5 HV
          generalize Pu.which [102, 114, 111, 109, 32] s3 bad3 = st6 at *
          obtain ⟨s6, bad6⟩ := st6
          have hx6 := (hx4.trans hk5).trans hk6
          have hC6 := (hC4.only hk5 hblk).only hk6 hblk
          have hD6 := (hD4.only hk5 hb).only hk6 hb
          clear hk5 hk6 hr4 hx4 hC4 hD4
          obtain ⟨_, _, _, _, _, _, _, _, _, _, m65, _, _⟩ := hC6.cells
          have g6 := hC6.frozen
          have hl6 := hC6.lt
          have hl6' := hD6.lt
          have ne6 : w1.heap.size ≠ w6.heap.size := by omega
          have hown5 : w6.ownsRow (w1.heap.size + 1) 302 2 (.slice none 0 0) 0 [] := World.ownsRow_nil _ _ _ _
          go_wp2_with (at_builtin; refine wpList_append_own _ rfl (.tmp 56) (.tmp 58) 252 rfl (w1.heap.size + 1) 302 i0 _ 2 24 Tryz.underlying252 hi hz0 hz1 hz2 rfl (by decide) _ _ _ rfl ((hown5.alloc _).alloc _) ⟨w6.heap.size + 1, 0, none⟩ 1 1 [.int .i64 nw, .string xw] rfl rfl ?c1 ?c2 ?c3 ?c4 ?c5 ?_)
          case c1 => exact cells_newN _ _ [_, _] _
          case c2 => simp [Value.oneCell']
          case c3 => unfold maxLen; omega
          case c4 => omega
          case c5 => simp; omega
          intro v7 w7 hown7 hgrow7 _
          have hx7 : Kx (Only b) w w7 := ((hx6.alloc _).alloc _).grown hgrow7 (fun k he => by cases he)
          have hr7 := ((hr6'.alloc _).alloc _).grown hgrow7 (fun k he => by cases he)
          have hC7 := (hC6.kept ((((Kx.refl (fun _ => False) w6).alloc _).alloc _)) id).grown hgrow7 (fun k he => by cases he)
          have hD7 := (hD6.kept ((((Kx.refl (fun _ => False) w6).alloc _).alloc _)) id).grown hgrow7 (fun k he => by cases he)
          obtain ⟨v7a, v7n, v7c, rfl⟩ : ∃ a n c, v7 = .slice a n c := by
            obtain ⟨a, c, e⟩ := own_slice hown7
            exact ⟨a, _, c, e⟩
          clear hown7 hgrow7 hx6 hr6' hC6 hD6 m65 g6 hl6 hl6' ne6 hown5
          have g7 := hC7.frozen
          obtain ⟨_, _, _, _, _, _, _, _, _, _, m75, _, _⟩ := hC7.cells
          have hr8 := hr7.setNew (o := 5) nek (.slice v7a v7n v7c)
          have hx8 := hx7.setNew (p := ⟨w1.heap.size, 5, none⟩) hkl (.slice v7a v7n v7c)
          have hC8 := hC7.set5 (.slice v7a v7n v7c)
          have hD8 := hD7.setOther (o := 5) nek3 (.slice v7a v7n v7c)
          clear hr7 hx7 hC7 hD7
          go_wp2_with fail
          refine (data_any b s s6 bad6 _ hr8).mono ?_
          rintro e w9 ⟨⟨q9, rfl⟩, hr9, hk9⟩
          generalize Pu.data s6 bad6 = st9 at *
          obtain ⟨z9, s9, bad9⟩ := st9
          have hx9 := hx8.trans hk9
          have hC9 := hC8.only hk9 hblk
          have hD9 := hD8.only hk9 hb
          clear hr8 hx8 hC8 hD8 hk9 g7 m75
          have hr5 := hr9.setNew (o := 4) nek (.string q9)
          have hx5 := hx9.setNew (p := ⟨w1.heap.size, 4, none⟩) hkl (.string q9)
          have hC5 := hC9.set4 q9
          have hD5 := hD9.setOther (o := 4) nek3 (.string q9)
          obtain ⟨_, _, _, _, _, _, _, _, _, m4, _, _, _⟩ := hC9.cells
          have g4 := hC9.frozen
          obtain ⟨z0, z1, z2, z3, z4, y0, y1, y2, y3, y4, y5, y6, y7⟩ := hC5.cells
          obtain ⟨_, _, _, _, _, d0, d1, d2, d3, d4, d5, d6, d7⟩ := hD5.cells
          have gZ := hD5.frozen
          go_wp2
          refine bodyPost_ret (v := .agg #[.int .u8 z0, .string z1, .int .i64 z2, .string z3, .string z4, .slice v7a v7n v7c, .slice none 0 0, .slice none 0 0]) (by simp [results, Tryz.results148, go_sem, d0, d1, d2, d3, d4, d5, d6, d7]) rfl ⟨⟨_, _, _, _, _, _, _, _, _, _, ⟨_, _, _, _, _, rfl⟩, rfl⟩, ?_, ?_⟩
          · rw [HB.out]
            exact (((((((hr5.setNew hne _).setNew hne _).setNew hne _).setNew hne _).setNew hne _).setNew hne _).setNew hne _).setNew hne _
          · exact (((((((hx5.setNew (Nat.le_refl _) _).setNew (Nat.le_refl _) _).setNew (Nat.le_refl _) _).setNew (Nat.le_refl _) _).setNew (Nat.le_refl _) _).setNew (Nat.le_refl _) _).setNew (Nat.le_refl _) _).setNew (Nat.le_refl _) _
      · have HP : Hid (Lib.hasPrefix v [99, 111, 109, 109, 105, 116, 32] = true) := hp1
        clear hp1
        have HB : Hid (Cmd rest = rcommit (Pu.need (Pu.isRef (v.drop 7)) x1 false).1 (Pu.need (Pu.isRef (v.drop 7)) x1 false).2) := cmd_commit HL.out HP.out
        clear HL
        have hpl : 7 ≤ v.length := by
          obtain ⟨x, e⟩ := prefix_app HP.out
          rw [e]; simp
        have hpl2 : (7 : Int) ≤ (v.length : Int) := by omega
        go_wp2_with fail
        have hr2 := hr1.alloc (.cells #[.int .u8 99, .string ⟨#[]⟩, .int .i64 0, .string ⟨#[]⟩, .string ⟨#[]⟩, .slice none 0 0, .slice none 0 0, .slice none 0 0] 255)
        have hD2 := hD1.kept ((Kx.refl (fun _ => False) w1).alloc (.cells #[.int .u8 99, .string ⟨#[]⟩, .int .i64 0, .string ⟨#[]⟩, .string ⟨#[]⟩, .slice none 0 0, .slice none 0 0, .slice none 0 0] 255)) id
        have hx2 := hx1.alloc (.cells #[.int .u8 99, .string ⟨#[]⟩, .int .i64 0, .string ⟨#[]⟩, .string ⟨#[]⟩, .slice none 0 0, .slice none 0 0, .slice none 0 0] 255)
        have hC2 : Cc w1.heap.size (.slice none 0 0) (.slice none 0 0) (.slice none 0 0) (w1.alloc (.cells #[.int .u8 99, .string ⟨#[]⟩, .int .i64 0, .string ⟨#[]⟩, .string ⟨#[]⟩, .slice none 0 0, .slice none 0 0, .slice none 0 0] 255)) := ⟨_, _, _, _, _, Cb.new _ 255 w1⟩
        have e9 : (v.drop 7).take (v.length - 7) = v.drop 7 := List.take_of_length_le (by simp)
        have HE9 : Hid ((v.drop 7).take (v.length - 7) = v.drop 7) := e9
        clear e9
        refine (ref_any b s x1 false ((v.drop 7).take (v.length - 7)) _ hr2 (by simp; omega)).mono ?_
        rintro e w3 ⟨⟨q3, rfl⟩, hr3, hk3⟩
        rw [HE9.out] at hr3
        generalize Pu.need (Pu.isRef (v.drop 7)) x1 false = st3 at *
        obtain ⟨s3, bad3⟩ := st3
        have hx3 := hx2.trans hk3
        have hC3 := hC2.only hk3 hblk
        have hD3 := hD2.only hk3 hb
        clear hr2 hD2 hx2 hC2 hk3 hr1 hD1 hx1 c2 f2 HE9
        obtain ⟨_, _, _, _, _, _, m3, _, _, _, _, _, _⟩ := hC3.cells
        have g3 := hC3.frozen
        have hr4 := hr3.setNew (o := 1) nek (.string q3)
        have hx4 := hx3.setNew (p := ⟨w1.heap.size, 1, none⟩) hkl (.string q3)
        have hC4 := hC3.set1 q3
        have hD4 := hD3.setOther (o := 1) nek3 (.string q3)
        obtain ⟨z0, z1, z2, z3, z4, y0, y1, y2, y3, y4, y5, y6, y7⟩ := hC4.cells
        go_wp2_with fail
        refine (commit_any b s s3 bad3 _ hr4 _ _ _ _ _).mono ?_
        rintro e w5 ⟨⟨vv, v5, n5, c5, v6, n6, c6, v7, n7, c7, ⟨u0, u1, u2, u3, u4, rfl⟩, rfl⟩, hr5, hk5⟩
        have hx5 := hx4.trans hk5
        have hD5 := hD4.only hk5 hb
        clear hr4 hx4 hC4 hD4 hr3 hx3 hC3 hD3 hk5 m3 g3 y0 y1 y2 y3 y4 y5 y6 y7
        obtain ⟨_, _, _, _, _, d0, d1, d2, d3, d4, d5, d6, d7⟩ := hD5.cells
        have gZ := hD5.frozen
        go_wp2
        refine bodyPost_ret (v := .agg #[.int .u8 u0, .string u1, .int .i64 u2, .string u3, .string u4, .slice v5 n5 c5, .slice v6 n6 c6, .slice v7 n7 c7]) (by simp [results, Tryz.results148, go_sem, d0, d1, d2, d3, d4, d5, d6, d7]) rfl ⟨⟨_, _, _, _, _, _, _, _, _, _, ⟨_, _, _, _, _, rfl⟩, rfl⟩, ?_, ?_⟩
        · rw [HB.out]
          exact (((((((hr5.setNew hne _).setNew hne _).setNew hne _).setNew hne _).setNew hne _).setNew hne _).setNew hne _).setNew hne _
        · exact (((((((hx5.setNew (Nat.le_refl _) _).setNew (Nat.le_refl _) _).setNew (Nat.le_refl _) _).setNew (Nat.le_refl _) _).setNew (Nat.le_refl _) _).setNew (Nat.le_refl _) _).setNew (Nat.le_refl _) _).setNew (Nat.le_refl _) _
  · have HB : Hid ((Cmd rest).2 = true) := cmd_line (by rw [HL.out])
    clear HL HV
    obtain ⟨_, _, _, _, _, d0, d1, d2, d3, d4, d5, d6, d7⟩ := hD1.cells
    have gD := hD1.frozen
    go_wp2
    refine bodyPost_ret (v := .agg #[.int .u8 0, .string ⟨#[]⟩, .int .i64 0, .string ⟨#[]⟩, .string ⟨#[]⟩, .slice none 0 0, .slice none 0 0, .slice none 0 0]) (by simp [results, Tryz.results148, go_sem, hk1l, d0, d1, d2, d3, d4, d5, d6, d7]) rfl ⟨⟨_, _, _, _, _, _, _, _, _, _, ⟨_, _, _, _, _, rfl⟩, rfl⟩, ?_, ?_⟩
    · rw [HB.out]
      exact (((((((((hr1.bad _).setNew hne _).setNew hne _).setNew hne _).setNew hne _).setNew hne _).setNew hne _).setNew hne _).setNew hne _).alloc _
    · exact ((((((((hx1.setNew (Nat.le_refl _) _).setNew (Nat.le_refl _) _).setNew (Nat.le_refl _) _).setNew (Nat.le_refl _) _).setNew (Nat.le_refl _) _).setNew (Nat.le_refl _) _).setNew (Nat.le_refl _) _).setNew (Nat.le_refl _) _).alloc _

end Rf
end Go.Proofs.YtepgoppgblfjbaaGreatDoor
