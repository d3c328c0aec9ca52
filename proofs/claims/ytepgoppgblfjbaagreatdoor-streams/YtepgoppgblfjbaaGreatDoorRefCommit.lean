/- The document's reader: a commit. -/
import Derived.Test.YtepgoppgblfjbaaGreatDoorRefCommit0
namespace Go.Proofs.YtepgoppgblfjbaaGreatDoor
open Go.RowKit
namespace Rf

/-- The changes are over. -/
def ExitOk (s' : List UInt8) (bad' : Bool) : Prop := bad' = true ∨ (bad' = false ∧ Lib.hasPrefix s' [10] = true)

/-- The rest of a commit, behind its first line. -/
def rcommit (rest : List UInt8) (bad : Bool) : List UInt8 × Bool :=
  Pu.thn (Pu.thn (Pu.thn (Pu.thn (Pu.thn (Pu.rmark rest bad).2 Pu.author) (fun s b => (Pu.data s b).2)) Pu.fromOr) Pu.merges) Pu.changes

set_option maxHeartbeats 1500000 in
set_option maxRecDepth 100000 in
theorem commit_any (b : Nat) (s rest : List UInt8) (bad : Bool) (w : World) (h : Rs b s rest bad w) (a0 : Int) (a1 : ByteArray) (a2 : Int) (a3 a4 : ByteArray) :
    Calls Tryz.prog 198 #[.pointer (some ⟨b, 0, none⟩), .agg #[.int .u8 a0, .string a1, .int .i64 a2, .string a3, .string a4, .slice none 0 0, .slice none 0 0, .slice none 0 0]] w fun e w' => (∃ v v5 n5 c5 v6 n6 c6 v7 n7 c7, IsCmd v (.slice v5 n5 c5) (.slice v6 n6 c6) (.slice v7 n7 c7) ∧ e = .returned v) ∧ Rs b s (rcommit rest bad).1 (rcommit rest bad).2 w' ∧ Kx (Only b) w w' := by
  have HQ : Hid (rcommit rest bad = Pu.thn (Pu.thn (Pu.thn (Pu.thn (Pu.thn (Pu.rmark rest bad).2 Pu.author) (fun s b => (Pu.data s b).2)) Pu.fromOr) Pu.merges) Pu.changes) := rfl
  simp only [Pu.thn] at HQ
  have hb := h.lt
  have hbs := h.short8
  obtain ⟨i0, hi, hz0, hz1, hz2⟩ := info_parts Tryz.info302
  obtain ⟨j0, hj, hy0, hy1, hy2⟩ := info_parts Tryz.info368
  have hk0 : Kx (Only b) w ((w.alloc (.cells #[.int .u8 a0, .string a1, .int .i64 a2, .string a3, .string a4, .slice none 0 0, .slice none 0 0, .slice none 0 0] 255)).alloc (.cells #[.int .u8 0, .string ⟨#[]⟩, .int .i64 0, .string ⟨#[]⟩, .string ⟨#[]⟩, .slice none 0 0, .slice none 0 0, .slice none 0 0] 255)) := ((Kx.refl _ w).alloc _).alloc _
  have hC0 : Cc w.heap.size (.slice none 0 0) (.slice none 0 0) (.slice none 0 0) ((w.alloc (.cells #[.int .u8 a0, .string a1, .int .i64 a2, .string a3, .string a4, .slice none 0 0, .slice none 0 0, .slice none 0 0] 255)).alloc (.cells #[.int .u8 0, .string ⟨#[]⟩, .int .i64 0, .string ⟨#[]⟩, .string ⟨#[]⟩, .slice none 0 0, .slice none 0 0, .slice none 0 0] 255)) := ⟨_, _, _, _, _, (Cb.new _ 255 w).alloc _⟩
  have hD0 : Cc (w.heap.size + 1) (.slice none 0 0) (.slice none 0 0) (.slice none 0 0) ((w.alloc (.cells #[.int .u8 a0, .string a1, .int .i64 a2, .string a3, .string a4, .slice none 0 0, .slice none 0 0, .slice none 0 0] 255)).alloc (.cells #[.int .u8 0, .string ⟨#[]⟩, .int .i64 0, .string ⟨#[]⟩, .string ⟨#[]⟩, .slice none 0 0, .slice none 0 0, .slice none 0 0] 255)) := by
    have := Cb.new #[.int .u8 0, .string ⟨#[]⟩, .int .i64 0, .string ⟨#[]⟩, .string ⟨#[]⟩, .slice none 0 0, .slice none 0 0, .slice none 0 0] 255 (w.alloc (.cells #[.int .u8 a0, .string a1, .int .i64 a2, .string a3, .string a4, .slice none 0 0, .slice none 0 0, .slice none 0 0] 255))
    have e : (w.alloc (.cells #[.int .u8 a0, .string a1, .int .i64 a2, .string a3, .string a4, .slice none 0 0, .slice none 0 0, .slice none 0 0] 255)).heap.size = w.heap.size + 1 := by simp
    rw [e] at this
    exact ⟨_, _, _, _, _, this⟩
  have hne : w.heap.size ≠ b := by omega
  have hne1 : w.heap.size + 1 ≠ b := by omega
  have hne2 : w.heap.size + 1 ≠ w.heap.size := by omega
  go_enter Tryz.func198, Tryz.ntmps198
  go_wp2_with fail
  refine (mark_any b s rest bad _ ((h.alloc _).alloc _)).mono ?_
  rintro e w1 ⟨⟨q1, rfl⟩, hr1, hk1⟩
  generalize Pu.rmark rest bad = st1 at *
  obtain ⟨z1, s1, bad1⟩ := st1
  have hC1 := hC0.only hk1 hb
  have hD1 := hD0.only hk1 (by omega)
  have hx1 := hk0.trans hk1
  obtain ⟨_, _, _, _, _, _, _, m1, _, _, _, _, _⟩ := hC1.cells
  have g1 := hC1.frozen
  clear hk0 hC0 hD0 hk1
  go_wp2_with fail
  refine (author_any b s s1 bad1 _ (hr1.setNew hne _)).mono ?_
  rintro e w2 ⟨⟨q2, rfl⟩, hr2, hk2⟩
  generalize Pu.author s1 bad1 = st2 at *
  obtain ⟨s2, bad2⟩ := st2
  have hC2 := (hC1.set2 q1).only hk2 hb
  have hD2 := (hD1.setOther hne2 _).only hk2 (by omega)
  have hx2 := (hx1.setNew (Nat.le_refl _) _).trans hk2
  obtain ⟨_, _, _, _, _, _, _, _, m2, _, _, _, _⟩ := hC2.cells
  have g2 := hC2.frozen
  clear hr1 hC1 hD1 hx1 m1 g1 hk2
  go_wp2_with fail
  refine (data_any b s s2 bad2 _ (hr2.setNew hne _)).mono ?_
  rintro e w3 ⟨⟨q3, rfl⟩, hr3, hk3⟩
  generalize Pu.data s2 bad2 = st3 at *
  obtain ⟨z3, s3, bad3⟩ := st3
  have hC3 := (hC2.set3 q2).only hk3 hb
  have hD3 := (hD2.setOther hne2 _).only hk3 (by omega)
  have hx3 := (hx2.setNew (Nat.le_refl _) _).trans hk3
  obtain ⟨_, _, _, _, _, _, _, _, _, m3, m35, _, _⟩ := hC3.cells
  have g3 := hC3.frozen
  clear hr2 hC2 hD2 hx2 m2 g2 hk3
  go_wp2_with fail
  refine (next_any b s s3 bad3 [102, 114, 111, 109, 32] _ (hr3.setNew hne _)).mono ?_
  rintro e w4 ⟨rfl, q, rfl⟩
  have hr4 := (hr3.setNew (o := 4) hne (.string q3)).drewN q
  have hC4 := (hC3.set4 q3).kept ((Kx.refl (fun _ => False) _).drewN q) id
  have hD4 := (hD3.setOther (o := 4) hne2 (.string q3)).kept ((Kx.refl (fun _ => False) _).drewN q) id
  have hx4 := (hx3.setNew (p := ⟨w.heap.size, 4, none⟩) (Nat.le_refl _) (.string q3)).drewN q
  clear hr3 hC3 hD3 hx3 m3 m35 g3
  generalize ((w3.setCell ⟨w.heap.size, 4, none⟩ (.string q3)).drewN q) = w4 at *
  cases hfr : (!bad3 && Lib.hasPrefix s3 [102, 114, 111, 109, 32])
  focus
    have hrF := hr4.noFrom hfr
    clear hfr hr4
    generalize Pu.fromOr s3 bad3 = st6 at *
    obtain ⟨s6, bad6⟩ := st6
    have hrL := hrF
    have hxL := hx4
    have hCL := hC4
    have hDL := hD4
    clear hrF hx4 hC4 hD4
    go_wp2_with fail
    generalize w4 = W at *
  rotate_left 1
  focus
    have HFR : Hid (Pu.fromOr s3 bad3 = Pu.which [102, 114, 111, 109, 32] s3 bad3) := fromOr_yes hfr
    clear hfr
    go_wp2_with fail
    refine (after_any b s s3 bad3 [102, 114, 111, 109, 32] _ hr4).mono ?_
    rintro e w5 ⟨⟨v, rfl, hv, hvl⟩, hr5, hk5⟩
    have HV : Hid ((Pu.after [102, 114, 111, 109, 32] s3 bad3).2.2 = false → v = (Pu.after [102, 114, 111, 109, 32] s3 bad3).1) := hvl
    clear hvl
    go_wp2_with fail
    refine (which_any b s _ _ v _ hr5 hv).mono ?_
    rintro e w6 ⟨⟨nw, xw, rfl⟩, hr6, hk6⟩
    have hr6' := Rs.which HV.out hr6
    rw [← HFR.out] at hr6'
    clear hr6 hr5 HV HFR
    generalize Pu.fromOr s3 bad3 = st6 at *
    obtain ⟨s6, bad6⟩ := st6
    have hx6 := (hx4.trans hk5).trans hk6
    have hC6 := (hC4.only hk5 hb).only hk6 hb
    have hD6 := (hD4.only hk5 (by omega)).only hk6 (by omega)
    clear hk5 hk6 hr4 hC4 hD4 hx4
    obtain ⟨_, _, _, _, _, _, _, _, _, _, m65, _, _⟩ := hC6.cells
    have g6 := hC6.frozen
    have hl6 := hC6.lt
    have hl6' := hD6.lt
    have ne6 : w.heap.size ≠ w6.heap.size := by omega
    have hw6 := hx6.size
    have hown5 : w6.ownsRow (w.heap.size + 2) 302 2 (.slice none 0 0) 0 [] := World.ownsRow_nil _ _ _ _
    go_wp2_with (at_builtin; refine wpList_append_own _ rfl (.tmp 28) (.tmp 30) 252 rfl (w.heap.size + 2) 302 i0 _ 2 24 Tryz.underlying252 hi hz0 hz1 hz2 rfl (by decide) _ _ _ rfl ((hown5.alloc _).alloc _) ⟨w6.heap.size + 1, 0, none⟩ 1 1 [.int .i64 nw, .string xw] rfl rfl ?c1 ?c2 ?c3 ?c4 ?c5 ?_)
    case c1 => exact cells_newN _ _ [_, _] _
    case c2 => simp [Value.oneCell']
    case c3 => unfold maxLen; omega
    case c4 => omega
    case c5 => simp; omega
    intro v7 w7 hown7 hgrow7 _
    have hx7 : Kx (Only b) w w7 := ((hx6.alloc _).alloc _).grown hgrow7 (fun k he => by cases he)
    have hr7 := ((hr6'.alloc _).alloc _).grown hgrow7 (fun k he => by cases he)
    have hC7 := (hC6.kept ((((Kx.refl (fun _ => False) w6).alloc _).alloc _)) id).grown hgrow7 (fun k he => by cases he)
    have hD7 := (hD6.kept ((((Kx.refl (fun _ => False) w6).alloc _).alloc _)) id).grown hgrow7 (fun k he => by cases he)
    obtain ⟨v7a, v7n, v7c, rfl⟩ : ∃ a n c, v7 = .slice a n c := by
      obtain ⟨a, c, e⟩ := own_slice hown7
      exact ⟨a, _, c, e⟩
    clear hown7 hgrow7 hx6 hr6' hC6 hD6 m65 g6 hl6 hl6' ne6 hw6 hown5
    have g7 := hC7.frozen
    obtain ⟨_, _, _, _, _, _, _, _, _, _, m75, _, _⟩ := hC7.cells
    go_wp2_with fail
    have hrL := hr7.setNew (o := 5) hne (.slice v7a v7n v7c)
    have hxL := hx7.setNew (p := ⟨w.heap.size, 5, none⟩) (Nat.le_refl _) (.slice v7a v7n v7c)
    have hCL := hC7.set5 (.slice v7a v7n v7c)
    have hDL := hD7.setOther (o := 5) hne2 (.slice v7a v7n v7c)
    clear hr7 hx7 hC7 hD7 m75 g7
    generalize (w7.setCell ⟨w.heap.size, 5, none⟩ (.slice v7a v7n v7c)) = W at *
  all_goals
    go_loopw [] (fun w' => ∃ (n : Nat) (s' : List UInt8) (bad' : Bool) (x5 : Option Addr) (n5 c5 : Nat) (v6 : Value) (xs : List Value), n + (if bad' then 0 else s'.length + 1) ≤ 8001 ∧ Rs b s s' bad' w' ∧ Kx (Only b) w w' ∧ Cc w.heap.size (.slice x5 n5 c5) v6 (.slice none 0 0) w' ∧ Cc (w.heap.size + 1) (.slice none 0 0) (.slice none 0 0) (.slice none 0 0) w' ∧ w'.ownsRow (w.heap.size + 2) 302 2 v6 n xs ∧ Hid (Pu.mergesF s6.length s6 bad6 0 = Pu.mergesF s'.length s' bad' n)) (fun w' => leftR b s.length w')
    case atStart =>
      refine ⟨0, s6, bad6, _, _, _, _, [], ?_, hrL, hxL, hCL, hDL, World.ownsRow_nil _ _ _ _, rfl⟩
      cases bad6
      · have := hrL.short; simp; omega
      · simp
    case round =>
      clear hrL hxL hCL hDL
      obtain ⟨n, s', bad', x5, n5, c5, v6, xs, hn, hr, hx, hC, hD, hown, HE⟩ := hrel
      go_wp2_with fail
      refine (next_any b s s' bad' [109, 101, 114, 103, 101, 32] _ hr).mono ?_
      rintro e w8 ⟨rfl, q, rfl⟩
      have hr8 := hr.drewN q
      have hx8 := hx.drewN q
      have hC8 := hC.kept ((Kx.refl (fun _ => False) _).drewN q) id
      have hD8 := hD.kept ((Kx.refl (fun _ => False) _).drewN q) id
      have hown8 := own_kept' hown ((Kx.refl (fun _ => False) _).drewN q) (fun _ _ _ => id)
      have hleft := hr.leftR
      clear hr hx hC hD hown
      generalize wr.drewN q = w8 at *
      cases hme : (!bad' && Lib.hasPrefix s' [109, 101, 114, 103, 101, 32])
      · have HME : Hid ((!bad' && Lib.hasPrefix s' [109, 101, 114, 103, 101, 32]) = false) := hme
        clear hme hleft
        obtain ⟨v6a, v6c, rfl⟩ := own_slice hown8
        obtain ⟨_, _, _, _, _, _, _, _, _, _, _, m86, _⟩ := hC8.cells
        go_wp2_with fail
        refine (must_any b s s' bad' _ _ hr8).mono ?_
        rintro e w9 ⟨rfl, hr9, hk9⟩
        rw [dec4] at hr9
        have hrM := Rs.merges HE.out HME.out hr9
        have hxM := hx8.trans hk9
        have hCM := hC8.only hk9 hb
        have hDM := hD8.only hk9 (by omega)
        clear hr9 hk9 hr8 hx8 hC8 hD8 hown8 HE HME m86 hn
        generalize Pu.merges s6 bad6 = stM at *
        obtain ⟨s8, bad8⟩ := stM
        go_wp2_with fail
        go_loopw [] (fun w' => ∃ (n : Nat) (s' : List UInt8) (bad' : Bool) (x5 : Option Addr) (n5 c5 : Nat) (x6 : Option Addr) (n6 c6 : Nat) (v7 : Value) (xs : List Value), n + (if bad' then 0 else s'.length + 1) ≤ 8001 ∧ Rs b s s' bad' w' ∧ Kx (Only b) w w' ∧ Cc w.heap.size (.slice x5 n5 c5) (.slice x6 n6 c6) v7 w' ∧ Cc (w.heap.size + 1) (.slice none 0 0) (.slice none 0 0) (.slice none 0 0) w' ∧ w'.ownsRow (w.heap.size + 2) 368 6 v7 n xs ∧ CH s8 bad8 s' bad' n) (fun w' => leftR b s.length w')
        case atStart =>
          refine ⟨0, s8, bad8, _, _, _, _, _, _, _, [], ?_, hrM, hxM, hCM, hDM, World.ownsRow_nil _ _ _ _, CH.start _ _⟩
          cases bad8
          · have := hrM.short; simp; omega
          · simp
        case round =>
          clear hrM hxM hCM hDM
          obtain ⟨n, s', bad', x5, n5, c5, x6, n6, c6, v7, xs, hn, hr, hx, hC, hD, hown, HE⟩ := hrel
          have HC : Hid (CH s8 bad8 s' bad' n) := HE
          clear HE
          go_wp2_with fail
          refine (next_any b s s' bad' [10] _ hr).mono ?_
          rintro e w12 ⟨rfl, q, rfl⟩
          have hr12 := hr.drewN q
          have hx12 := hx.drewN q
          have hC12 := hC.kept ((Kx.refl (fun _ => False) _).drewN q) id
          have hD12 := hD.kept ((Kx.refl (fun _ => False) _).drewN q) id
          have hown12 := own_kept' hown ((Kx.refl (fun _ => False) _).drewN q) (fun _ _ _ => id)
          have hleft := hr.leftR
          clear hr hx hC hD hown
          generalize wr.drewN q = w12 at *
          have hcase : (bad' = true ∧ (!bad' && Lib.hasPrefix s' [10]) = false) ∨ (bad' = false ∧ (!bad' && Lib.hasPrefix s' [10]) = true) ∨ (bad' = false ∧ (!bad' && Lib.hasPrefix s' [10]) = false) := by
            cases bad'
            · cases Lib.hasPrefix s' [10]
              · right; right; exact ⟨rfl, rfl⟩
              · right; left; exact ⟨rfl, rfl⟩
            · left; exact ⟨rfl, rfl⟩
          have hpe : Hid (bad' = false → (!bad' && Lib.hasPrefix s' [10]) = Lib.hasPrefix s' [10]) := by intro e; rw [e]; rfl
          generalize (!bad' && Lib.hasPrefix s' [10]) = nb at *
          have hm12 : ∃ a, w12.cell? ⟨b, 2, none⟩ = some (.bool bad') ∧ Rr b s a bad' w12 := by
            obtain ⟨a, hrr, _⟩ := id hr12
            exact ⟨a, hrr.c2, hrr⟩
          obtain ⟨a12, c12, _⟩ := hm12
          obtain ⟨v7a, v7c, rfl⟩ := own_slice hown12
          obtain ⟨_, _, _, _, _, _, _, _, _, _, _, _, m12⟩ := hC12.cells
          have hexit : (bad' = true ∧ nb = false) ∨ (bad' = false ∧ nb = true) → bad' = true ∨ (bad' = false ∧ Lib.hasPrefix s' [10] = true) := by
            rintro (⟨e, _⟩ | ⟨e, e2⟩)
            · exact Or.inl e
            · right; refine ⟨e, ?_⟩; rw [← hpe.out e]; exact e2
          have HX : Hid ((bad' = true ∧ nb = false) ∨ (bad' = false ∧ nb = true) → bad' = true ∨ (bad' = false ∧ Lib.hasPrefix s' [10] = true)) := hexit
          clear hexit
          rcases hcase with ⟨rfl, rfl⟩ | ⟨rfl, rfl⟩ | ⟨rfl, rfl⟩
          iterate 2
            focus
              have HX2 := HX.out (by first | exact Or.inl ⟨rfl, rfl⟩ | exact Or.inr ⟨rfl, rfl⟩)
              have HXH : ExitOk s' _ := HX2
              clear HX HX2 hpe hleft hn
              go_wp2_with fail
              refine (must_any b s s' _ _ _ hr12).mono ?_
              rintro e w13 ⟨rfl, hr13, hk13⟩
              rw [dec30] at hr13
              go_wp2_with fail
              refine (line_any b s _ _ _ hr13).mono ?_
              rintro e w14 ⟨⟨vl, rfl, _, _⟩, hr14, hk14⟩
              have hrZ := Rs.changes HC.out HXH hr14
              have hxZ := (hx12.trans hk13).trans hk14
              have hCZ := (hC12.only hk13 hb).only hk14 hb
              have hDZ := (hD12.only hk13 (by omega)).only hk14 (by omega)
              clear hr13 hr14 hk13 hk14 hr12 hx12 hC12 hD12 hown12 HC m12 c12 HXH
              obtain ⟨z0, z1, z2, z3, z4, y0, y1, y2, y3, y4, y5, y6, y7⟩ := hCZ.cells
              obtain ⟨_, _, _, _, _, d0, d1, d2, d3, d4, d5, d6, d7⟩ := hDZ.cells
              have gZ := hDZ.frozen
              go_wp2
              refine bodyPost_ret (v := .agg #[.int .u8 z0, .string z1, .int .i64 z2, .string z3, .string z4, .slice x5 n5 c5, .slice x6 n6 c6, .slice v7a n v7c]) (by simp [results, Tryz.results198, go_sem, d0, d1, d2, d3, d4, d5, d6, d7]) rfl ⟨⟨_, _, _, _, _, _, _, _, _, _, ⟨_, _, _, _, _, rfl⟩, rfl⟩, ?_, ?_⟩
              · rw [HQ.out]
                exact (((((((hrZ.setNew hne1 _).setNew hne1 _).setNew hne1 _).setNew hne1 _).setNew hne1 _).setNew hne1 _).setNew hne1 _).setNew hne1 _
              · exact (((((((hxZ.setNew (Nat.le_succ _) _).setNew (Nat.le_succ _) _).setNew (Nat.le_succ _) _).setNew (Nat.le_succ _) _).setNew (Nat.le_succ _) _).setNew (Nat.le_succ _) _).setNew (Nat.le_succ _) _).setNew (Nat.le_succ _) _
          have hst := HC.out.step (hpe.out rfl).symm
          have HS : Hid (CH s8 bad8 (rchange s' false).1 (rchange s' false).2 (n + 1)) := hst.1
          have hlt := hst.2
          have hn' : n + (s'.length + 1) ≤ 8001 := by simpa using hn
          have hleft' : leftR b s.length wr = s'.length + 1 := by rw [hleft]; rfl
          clear hst HC hn hleft HX hpe
          go_wp2_with fail
          refine (change_any b s s' false _ hr12).mono ?_
          rintro e w13 ⟨⟨vv, ⟨kk, aa, nn, dd, xx, yy, rfl⟩, rfl⟩, hr13, hk13⟩
          generalize rchange s' false = st13 at *
          obtain ⟨s13, bad13⟩ := st13
          have hx13 := hx12.trans hk13
          have hC13 := hC12.only hk13 hb
          have hD13 := hD12.only hk13 (by omega)
          have hown13 := own_kept hown12 hk13 (by omega)
          clear hk13 hr12 hC12 hD12 hx12 hown12 c12 m12
          obtain ⟨_, _, _, _, _, _, _, _, _, _, _, _, m13⟩ := hC13.cells
          have g13 := hC13.frozen
          have hl13 := hC13.lt
          have hl13' := hD13.lt
          have ne13 : w.heap.size ≠ w13.heap.size := by omega
          have hw13 := hx13.size
          go_wp2_with (at_builtin; refine wpList_append_own _ rfl (.tmp 65) (.tmp 67) 253 rfl (w.heap.size + 2) 368 j0 _ 6 80 Tryz.underlying253 hj hy0 hy1 hy2 rfl (by decide) _ _ _ rfl ((hown13.alloc _).alloc _) ⟨w13.heap.size + 1, 0, none⟩ 1 1 [.int .u8 kk, .string aa, .int .i64 nn, .string dd, .string xx, .string yy] rfl rfl ?c1 ?c2 ?c3 ?c4 ?c5 ?_)
          case c1 => exact cells_newN _ _ [_, _, _, _, _, _] _
          case c2 => simp [Value.oneCell']
          case c3 => unfold maxLen; omega
          case c4 => omega
          case c5 => simp; omega
          intro v11 w11 hown11 hgrow11 _
          have hx11 : Kx (Only b) w w11 := ((hx13.alloc _).alloc _).grown hgrow11 (fun k he => by have := (hown13.lt k he).1; omega)
          have hr11 := ((hr13.alloc _).alloc _).grown hgrow11 (fun k he => by have := (hown13.lt k he).1; omega)
          have hC11 := (hC13.kept ((((Kx.refl (fun _ => False) w13).alloc _).alloc _)) id).grown hgrow11 (fun k he => by have := (hown13.lt k he).1; omega)
          have hD11 := (hD13.kept ((((Kx.refl (fun _ => False) w13).alloc _).alloc _)) id).grown hgrow11 (fun k he => by have := (hown13.lt k he).1; omega)
          obtain ⟨v11a, v11c, rfl⟩ := own_slice hown11
          clear hgrow11 hx13 hr13 hC13 hD13 m13 g13 hl13 hl13' ne13 hw13 hown13
          have g11 := hC11.frozen
          obtain ⟨_, _, _, _, _, _, _, _, _, _, _, _, m11⟩ := hC11.cells
          have hownE := own_kept' hown11 ((Kx.refl (Only w.heap.size) w11).setCell (p := ⟨w.heap.size, 7, none⟩) (fun _ => rfl) (.slice v11a (n + 1) v11c)) (fun k _ hk => by unfold Only; omega)
          have hrE := hr11.setNew (o := 7) hne (.slice v11a (n + 1) v11c)
          have hxE := hx11.setNew (p := ⟨w.heap.size, 7, none⟩) (Nat.le_refl _) (.slice v11a (n + 1) v11c)
          have hCE := hC11.set7 (.slice v11a (n + 1) v11c)
          have hDE := hD11.setOther (o := 7) hne2 (.slice v11a (n + 1) v11c)
          clear hown11 hr11 hx11 hC11 hD11
          have hfin : n + 1 + (if bad13 then 0 else s13.length + 1) ≤ 8001 := by
            cases bad13
            · simp at hlt ⊢; omega
            · simp; omega
          have hmea : leftR b s.length (w11.setCell ⟨w.heap.size, 7, none⟩ (.slice v11a (n + 1) v11c)) < leftR b s.length wr := by
            rw [hrE.leftR, hleft']; exact hlt
          have HFin : Hid (n + 1 + (if bad13 then 0 else s13.length + 1) ≤ 8001) := hfin
          have HMea : Hid (leftR b s.length (w11.setCell ⟨w.heap.size, 7, none⟩ (.slice v11a (n + 1) v11c)) < leftR b s.length wr) := hmea
          clear hfin hmea hlt
          go_wp2_with fail
          go_roundw
          case rel => exact ⟨n + 1, s13, bad13, _, _, _, _, _, _, _, _, HFin.out, hrE, hxE, hCE, hDE, hownE, HS.out⟩
          case measure => exact HMea.out
      · obtain ⟨hbf, hE2, hlt⟩ := merges_step HE.out hme
        have HE2 : Hid (Pu.mergesF s6.length s6 bad6 0 = Pu.mergesF (Pu.which [109, 101, 114, 103, 101, 32] s' bad').1.length (Pu.which [109, 101, 114, 103, 101, 32] s' bad').1 (Pu.which [109, 101, 114, 103, 101, 32] s' bad').2 (n + 1)) := hE2
        clear hE2 HE hme
        have hn' : n + (s'.length + 1) ≤ 8001 := by rw [hbf] at hn; simpa using hn
        have hleft' : leftR b s.length wr = s'.length + 1 := by rw [hleft, hbf]; rfl
        clear hn hleft
        go_wp2_with fail
        refine (after_any b s s' bad' [109, 101, 114, 103, 101, 32] _ hr8).mono ?_
        rintro e w9 ⟨⟨v, rfl, hv, hvl⟩, hr9, hk9⟩
        have HV : Hid ((Pu.after [109, 101, 114, 103, 101, 32] s' bad').2.2 = false → v = (Pu.after [109, 101, 114, 103, 101, 32] s' bad').1) := hvl
        clear hvl
        go_wp2_with fail
        refine (which_any b s _ _ v _ hr9 hv).mono ?_
        rintro e w10 ⟨⟨nw, xw, rfl⟩, hr10, hk10⟩
        have hr10' := Rs.which HV.out hr10
        clear hr10 hr9 HV
        generalize Pu.which [109, 101, 114, 103, 101, 32] s' bad' = st10 at *
        obtain ⟨s10, bad10⟩ := st10
        have hx10 := (hx8.trans hk9).trans hk10
        have hC10 := (hC8.only hk9 hb).only hk10 hb
        have hD10 := (hD8.only hk9 (by omega)).only hk10 (by omega)
        have hown10 := own_kept (own_kept hown8 hk9 (by omega)) hk10 (by omega)
        clear hk9 hk10 hr8 hC8 hD8 hx8 hown8
        obtain ⟨_, _, _, _, _, _, _, _, _, _, _, m10, _⟩ := hC10.cells
        have g10 := hC10.frozen
        have hl10 := hC10.lt
        have hl10' := hD10.lt
        have ne10 : w.heap.size ≠ w10.heap.size := by omega
        have hw10 := hx10.size
        go_wp2_with (at_builtin; refine wpList_append_own _ rfl (.tmp 42) (.tmp 44) 252 rfl (w.heap.size + 2) 302 i0 _ 2 24 Tryz.underlying252 hi hz0 hz1 hz2 rfl (by decide) _ _ _ rfl ((hown10.alloc _).alloc _) ⟨w10.heap.size + 1, 0, none⟩ 1 1 [.int .i64 nw, .string xw] rfl rfl ?c1 ?c2 ?c3 ?c4 ?c5 ?_)
        case c1 => exact cells_newN _ _ [_, _] _
        case c2 => simp [Value.oneCell']
        case c3 => unfold maxLen; omega
        case c4 => omega
        case c5 => simp; omega
        intro v11 w11 hown11 hgrow11 _
        have hx11 : Kx (Only b) w w11 := ((hx10.alloc _).alloc _).grown hgrow11 (fun k he => by have := (hown10.lt k he).1; omega)
        have hr11 := ((hr10'.alloc _).alloc _).grown hgrow11 (fun k he => by have := (hown10.lt k he).1; omega)
        have hC11 := (hC10.kept ((((Kx.refl (fun _ => False) w10).alloc _).alloc _)) id).grown hgrow11 (fun k he => by have := (hown10.lt k he).1; omega)
        have hD11 := (hD10.kept ((((Kx.refl (fun _ => False) w10).alloc _).alloc _)) id).grown hgrow11 (fun k he => by have := (hown10.lt k he).1; omega)
        obtain ⟨v11a, v11c, rfl⟩ := own_slice hown11
        clear hgrow11 hx10 hr10' hC10 hD10 m10 g10 hl10 hl10' ne10 hw10 hown10
        have g11 := hC11.frozen
        obtain ⟨_, _, _, _, _, _, _, _, _, _, _, m11, _⟩ := hC11.cells
        have hownE := own_kept' hown11 ((Kx.refl (Only w.heap.size) w11).setCell (p := ⟨w.heap.size, 6, none⟩) (fun _ => rfl) (.slice v11a (n + 1) v11c)) (fun k _ hk => by unfold Only; omega)
        have hrE := hr11.setNew (o := 6) hne (.slice v11a (n + 1) v11c)
        have hxE := hx11.setNew (p := ⟨w.heap.size, 6, none⟩) (Nat.le_refl _) (.slice v11a (n + 1) v11c)
        have hCE := hC11.set6 (.slice v11a (n + 1) v11c)
        have hDE := hD11.setOther (o := 6) hne2 (.slice v11a (n + 1) v11c)
        clear hown11 hr11 hx11 hC11 hD11
        have hfin : n + 1 + (if bad10 then 0 else s10.length + 1) ≤ 8001 := by cases bad10 <;> simp <;> omega
        have hmea : leftR b s.length (w11.setCell ⟨w.heap.size, 6, none⟩ (.slice v11a (n + 1) v11c)) < leftR b s.length wr := by
          rw [hrE.leftR, hleft']
          cases bad10 <;> simp <;> omega
        have HFin : Hid (n + 1 + (if bad10 then 0 else s10.length + 1) ≤ 8001) := hfin
        have HMea : Hid (leftR b s.length (w11.setCell ⟨w.heap.size, 6, none⟩ (.slice v11a (n + 1) v11c)) < leftR b s.length wr) := hmea
        clear hfin hmea
        go_wp2_with fail
        go_roundw
        case rel => exact ⟨n + 1, s10, bad10, _, _, _, _, _, HFin.out, hrE, hxE, hCE, hDE, hownE, HE2⟩
        case measure => exact HMea.out

end Rf
end Go.Proofs.YtepgoppgblfjbaaGreatDoor
