import Derived.Test.YtepgoppgblfjbaaGreatDoorTw05
import Derived.Laws.EntriesVeiled
/- The function that reads a commit. -/
namespace Go.Proofs.YtepgoppgblfjbaaGreatDoor
open Go.RowKit

set_option maxHeartbeats 2000000 in
set_option maxRecDepth 100000 in
theorem readCommit_any (b k : Nat) (x s : List UInt8) (bad : Bool) (w : World) (h : Rd b s bad w) (hbk : b < k) (hC : Cb k (coC (Pu.Co.of x) (.slice none 0 0) (.slice none 0 0)) 158 w) :
    Calls Tryz.prog 167 #[.pointer (some ⟨b, 0, none⟩), .pointer (some ⟨k, 0, none⟩)] w fun e w' => e = .returned (.tuple #[]) ∧ Rd b (Pu.readCommit s bad).1 (Pu.readCommit s bad).2 w' ∧ CoB k w.heap.size (Pu.readCommitV s bad (Pu.Co.of x)) w' ∧ Kx (Two b k) w w' := by
  have hkl := hC.lt
  have HE : Hid (Pu.readCommit s bad = Pu.changes (Pu.rc6 s bad).1 (Pu.rc6 s bad).2) := Pu.readCommit_rc s bad
  have HV : Hid (Pu.readCommitV s bad (Pu.Co.of x) = ⟨x, (Pu.ref Pu.sCommit1 s bad).1, (Pu.rmark (Pu.rc1 s bad).1 (Pu.rc1 s bad).2).1, Pu.authorV (Pu.rc2 s bad).1 (Pu.rc2 s bad).2, (Pu.data (Pu.rc3 s bad).1 (Pu.rc3 s bad).2).1, Pu.fromOrV (Pu.rc4 s bad).1 (Pu.rc4 s bad).2, Pu.mergesV (Pu.rc5 s bad).1.length (Pu.rc5 s bad).1 (Pu.rc5 s bad).2, Pu.changesAll (Pu.rc6 s bad).1 (Pu.rc6 s bad).2⟩) := rfl
  have R1 : Hid (Pu.rc1 s bad = (Pu.ref Pu.sCommit1 s bad).2) := rfl
  have R2 : Hid (Pu.rc2 s bad = (Pu.rmark (Pu.rc1 s bad).1 (Pu.rc1 s bad).2).2) := rfl
  have R3 : Hid (Pu.rc3 s bad = Pu.author (Pu.rc2 s bad).1 (Pu.rc2 s bad).2) := rfl
  have R4 : Hid (Pu.rc4 s bad = (Pu.data (Pu.rc3 s bad).1 (Pu.rc3 s bad).2).2) := rfl
  have R5 : Hid (Pu.rc5 s bad = Pu.fromOr (Pu.rc4 s bad).1 (Pu.rc4 s bad).2) := rfl
  have R6 : Hid (Pu.rc6 s bad = Pu.merges (Pu.rc5 s bad).1 (Pu.rc5 s bad).2) := rfl
  have hx0 : Kx (Two b k) w w := Kx.refl _ _
  have hc0 := hC
  unfold coC Pu.Co.of at hc0
  go_enter Tryz.func167, Tryz.ntmps167
  go_wp2_with fail
  refine (ref_any b s bad Pu.sCommit1 _ h).mono ?_
  rintro e w1 ⟨rfl, hr1, hk1⟩
  generalize Pu.ref Pu.sCommit1 s bad = st1 at *
  obtain ⟨q1, s1, bad1⟩ := st1
  rw [R1.out] at R2 HV
  have hc1 : Cb k #[.string ⟨x.toArray⟩, .string ⟨#[]⟩, .int .i64 0, .string ⟨#[]⟩, .string ⟨#[]⟩, .int .i64 0, .string ⟨#[]⟩, .int .i64 0, .string ⟨#[]⟩, .slice none 0 0, .slice none 0 0] 158 w1 := hc0.only hk1 hbk
  have hx1 : Kx (Two b k) w w1 := hx0.trans hk1.two
  have e1_1 : w1.cell? ⟨k, 1, none⟩ = some (.string ⟨#[]⟩) := hc1.cell 1
  have g1_1 := hc1.frozen 1
  go_wp2_with fail
  refine (rmark_any b s1 bad1 _ (hr1.setNew hbk _)).mono ?_
  rintro e w2 ⟨rfl, hr2, hk2⟩
  generalize Pu.rmark s1 bad1 = st2 at *
  obtain ⟨q2, s2, bad2⟩ := st2
  rw [R2.out] at R3 HV
  have hc2 : Cb k #[.string ⟨x.toArray⟩, .string ⟨q1.toArray⟩, .int .i64 0, .string ⟨#[]⟩, .string ⟨#[]⟩, .int .i64 0, .string ⟨#[]⟩, .int .i64 0, .string ⟨#[]⟩, .slice none 0 0, .slice none 0 0] 158 w2 := (hc1.set 1 (.string ⟨q1.toArray⟩)).only hk2 hbk
  have hx2 : Kx (Two b k) w w2 := (hx1.two_set _).trans hk2.two
  have e2_2 : w2.cell? ⟨k, 2, none⟩ = some (.int .i64 0) := hc2.cell 2
  have g2_2 := hc2.frozen 2
  go_wp2_with fail
  refine (author_any b s2 bad2 _ (hr2.setNew hbk _)).mono ?_
  rintro e w3 ⟨rfl, hr3, hk3⟩
  generalize Pu.author s2 bad2 = st3 at *
  generalize Pu.authorV s2 bad2 = av3 at *
  obtain ⟨s3, bad3⟩ := st3
  obtain ⟨q3, p3, o3⟩ := av3
  rw [R3.out] at R4 HV
  have hc3 : Cb k #[.string ⟨x.toArray⟩, .string ⟨q1.toArray⟩, .int .i64 q2, .string ⟨#[]⟩, .string ⟨#[]⟩, .int .i64 0, .string ⟨#[]⟩, .int .i64 0, .string ⟨#[]⟩, .slice none 0 0, .slice none 0 0] 158 w3 := (hc2.set 2 (.int .i64 q2)).only hk3 hbk
  have hx3 : Kx (Two b k) w w3 := (hx2.two_set _).trans hk3.two
  have e3_3 : w3.cell? ⟨k, 3, none⟩ = some (.string ⟨#[]⟩) := hc3.cell 3
  have g3_3 := hc3.frozen 3
  have e3_4 : w3.cell? ⟨k, 4, none⟩ = some (.string ⟨#[]⟩) := hc3.cell 4
  have g3_4 := hc3.frozen 4
  have e3_5 : w3.cell? ⟨k, 5, none⟩ = some (.int .i64 0) := hc3.cell 5
  have g3_5 := hc3.frozen 5
  go_wp2_with fail
  refine (data_any b s3 bad3 _ (((hr3.setNew hbk _).setNew hbk _).setNew hbk _)).mono ?_
  rintro e w4 ⟨rfl, hr4, hk4⟩
  generalize Pu.data s3 bad3 = st4 at *
  obtain ⟨q4, s4, bad4⟩ := st4
  rw [R4.out] at R5 HV
  have hc4 : Cb k #[.string ⟨x.toArray⟩, .string ⟨q1.toArray⟩, .int .i64 q2, .string ⟨q3.toArray⟩, .string ⟨p3.toArray⟩, .int .i64 o3, .string ⟨#[]⟩, .int .i64 0, .string ⟨#[]⟩, .slice none 0 0, .slice none 0 0] 158 w4 := (((hc3.set 3 (.string ⟨q3.toArray⟩)).set 4 (.string ⟨p3.toArray⟩)).set 5 (.int .i64 o3)).only hk4 hbk
  have hx4 : Kx (Two b k) w w4 := (((hx3.two_set _).two_set _).two_set _).trans hk4.two
  have e4_6 : w4.cell? ⟨k, 6, none⟩ = some (.string ⟨#[]⟩) := hc4.cell 6
  have g4_6 := hc4.frozen 6
  go_wp2_with fail
  refine (fromOr_any b s4 bad4 _ (hr4.setNew hbk _)).mono ?_
  rintro e w5 ⟨rfl, hr5, hk5⟩
  generalize Pu.fromOr s4 bad4 = st5 at *
  generalize Pu.fromOrV s4 bad4 = wv5 at *
  obtain ⟨s5, bad5⟩ := st5
  obtain ⟨q5, p5⟩ := wv5
  rw [R5.out] at R6 HV
  have hc5 : Cb k #[.string ⟨x.toArray⟩, .string ⟨q1.toArray⟩, .int .i64 q2, .string ⟨q3.toArray⟩, .string ⟨p3.toArray⟩, .int .i64 o3, .string ⟨q4.toArray⟩, .int .i64 0, .string ⟨#[]⟩, .slice none 0 0, .slice none 0 0] 158 w5 := (hc4.set 6 (.string ⟨q4.toArray⟩)).only hk5 hbk
  have hx5 : Kx (Two b k) w w5 := (hx4.two_set _).trans hk5.two
  have e5_7 : w5.cell? ⟨k, 7, none⟩ = some (.int .i64 0) := hc5.cell 7
  have g5_7 := hc5.frozen 7
  have e5_8 : w5.cell? ⟨k, 8, none⟩ = some (.string ⟨#[]⟩) := hc5.cell 8
  have g5_8 := hc5.frozen 8
  go_wp2_with fail
  refine (merges_any b s5 bad5 _ ((hr5.setNew hbk _).setNew hbk _)).mono ?_
  rintro e w6 ⟨⟨v6, rfl, ho6⟩, hr6, hk6⟩
  obtain ⟨av6, cv6, hv6⟩ := own_slice0 ho6
  generalize Pu.merges s5 bad5 = st6 at *
  generalize Pu.mergesV s5.length s5 bad5 = lv6 at *
  obtain ⟨s6, bad6⟩ := st6
  subst hv6
  rw [R6.out] at HE HV
  have hc6 : Cb k #[.string ⟨x.toArray⟩, .string ⟨q1.toArray⟩, .int .i64 q2, .string ⟨q3.toArray⟩, .string ⟨p3.toArray⟩, .int .i64 o3, .string ⟨q4.toArray⟩, .int .i64 q5, .string ⟨p5.toArray⟩, .slice none 0 0, .slice none 0 0] 158 w6 := ((hc5.set 7 (.int .i64 q5)).set 8 (.string ⟨p5.toArray⟩)).only hk6 hbk
  have hx6 : Kx (Two b k) w w6 := ((hx5.two_set _).two_set _).trans hk6.two
  have e6_9 : w6.cell? ⟨k, 9, none⟩ = some (.slice none 0 0) := hc6.cell 9
  have g6_9 := hc6.frozen 9
  go_wp2_with fail
  refine (changes_any b s6 bad6 _ (hr6.setNew hbk _)).mono ?_
  rintro e w7 ⟨⟨v7, rfl, ho7⟩, hr7, hk7⟩
  obtain ⟨av7, cv7, hv7⟩ := own_slice0 ho7
  generalize Pu.changes s6 bad6 = st7 at *
  generalize Pu.changesAll s6 bad6 = lv7 at *
  obtain ⟨s7, bad7⟩ := st7
  subst hv7
  have hc7 : Cb k #[.string ⟨x.toArray⟩, .string ⟨q1.toArray⟩, .int .i64 q2, .string ⟨q3.toArray⟩, .string ⟨p3.toArray⟩, .int .i64 o3, .string ⟨q4.toArray⟩, .int .i64 q5, .string ⟨p5.toArray⟩, .slice av6 lv6.length cv6, .slice none 0 0] 158 w7 := (hc6.set 9 (.slice av6 lv6.length cv6)).only hk7 hbk
  have hx7 : Kx (Two b k) w w7 := (hx6.two_set _).trans hk7.two
  have e7_10 : w7.cell? ⟨k, 10, none⟩ = some (.slice none 0 0) := hc7.cell 10
  have g7_10 := hc7.frozen 10
  go_wp2
  go_end0
  refine ⟨rfl, by rw [HE.out]; exact (hr7.setNew hbk _), ?_, (hx7.two_set _)⟩
  rw [HV.out]
  refine ⟨_, _, (hc7.set 10 (.slice av7 lv7.length cv7)), ?_⟩
  have hms : CoS w7 w.heap.size (.slice av6 lv6.length cv6) (.slice av7 lv7.length cv7) ⟨x, q1, q2, ⟨q3, p3, o3⟩, q4, ⟨q5, p5⟩, lv6, lv7⟩ := by
    have hkm : Kx (Two b k) w6 w7 := (((Kx.refl (Two b k) w6).two_set _)).trans hk7.two
    have hl6 := ho6.lt
    have hl7 := ho7.lt
    have hs5 : w.heap.size ≤ w5.heap.size := hx5.size
    have hs6 : w.heap.size ≤ w6.heap.size := hx6.size
    simp only [World.size_setCell] at hl6 hl7
    refine ⟨(Reads.of_own ho6).kept hkm (fun j e => ?_), Reads.of_own ho7, fun j e => ⟨Nat.le_trans hs5 (hl6 j e).1, Nat.lt_of_lt_of_le (hl6 j e).2 hkm.size⟩, fun j e => ⟨Nat.le_trans hs6 (hl7 j e).1, (hl7 j e).2⟩⟩
    have := (hl6 j e).1
    rintro (e2 | e2) <;> omega
  exact hms.kept ((Kx.refl (Only k) _).only_set _) (fun j hj _ e => by unfold Only at e; omega)

end Go.Proofs.YtepgoppgblfjbaaGreatDoor

/- The table of commands, and find. -/
namespace Go.Proofs.YtepgoppgblfjbaaGreatDoor
open Go.RowKit

/-- What the table's making leaves. -/
structure Tbl (w w' : World) : Prop where
  size : w'.heap.size = w.heap.size + 1
  tbl : Cb w.heap.size #[.string ⟨#[98, 108, 111, 98]⟩, .func (.func 164) #[] #[], .func (.func 165) #[] #[], .func (.func 166) #[] #[], .string ⟨#[99, 111, 109, 109, 105, 116]⟩, .func (.func 167) #[] #[], .func (.func 168) #[] #[], .func (.func 169) #[] #[], .string ⟨#[116, 97, 103]⟩, .func (.func 170) #[] #[], .func (.func 171) #[] #[], .func (.func 172) #[] #[], .string ⟨#[114, 101, 115, 101, 116]⟩, .func (.func 173) #[] #[], .func (.func 174) #[] #[], .func (.func 175) #[] #[]] 163 w'
  kx : ∀ X, Kx X w w'

set_option maxHeartbeats 400000 in
theorem table_any (w : World) :
    Calls Tryz.prog 123 #[] w fun e w' => e = .returned (.slice (some ⟨w.heap.size, 0, none⟩) 4 4) ∧ Tbl w w' := by
  go_enter Tryz.func123, Tryz.ntmps123
  go_wp2
  go_ret
  exact ⟨rfl, by simp, Cb.new _ _ _, fun X => (Kx.refl X w).alloc _⟩

theorem Kx.trans' {X Y : Nat → Prop} {a c d : World} (h : Kx X a c) (k : Kx Y c d) (hXY : ∀ j, j < a.heap.size → Y j → X j) : Kx X a d :=
  ⟨k.os.trans h.os, k.tape.trans h.tape, k.output.trans h.output, Nat.le_trans h.size k.size,
   fun i hi hx => (k.block i (Nat.lt_of_lt_of_le hi h.size) (fun y => hx (hXY i hi y))).trans (h.block i hi hx)⟩

/-- The row of a word: the functions that read, do and write the command. -/
def rowV (x : List UInt8) : Value × Bool :=
  if x = [98, 108, 111, 98] then (.agg #[.string ⟨#[98, 108, 111, 98]⟩, .func (.func 164) #[] #[], .func (.func 165) #[] #[], .func (.func 166) #[] #[]], true)
  else if x = [99, 111, 109, 109, 105, 116] then (.agg #[.string ⟨#[99, 111, 109, 109, 105, 116]⟩, .func (.func 167) #[] #[], .func (.func 168) #[] #[], .func (.func 169) #[] #[]], true)
  else if x = [116, 97, 103] then (.agg #[.string ⟨#[116, 97, 103]⟩, .func (.func 170) #[] #[], .func (.func 171) #[] #[], .func (.func 172) #[] #[]], true)
  else if x = [114, 101, 115, 101, 116] then (.agg #[.string ⟨#[114, 101, 115, 101, 116]⟩, .func (.func 173) #[] #[], .func (.func 174) #[] #[], .func (.func 175) #[] #[]], true)
  else (.agg #[.string ⟨#[]⟩, .nilFunc, .nilFunc, .nilFunc], false)

set_option maxHeartbeats 4000000 in
set_option maxRecDepth 100000 in
theorem find_any (x : List UInt8) (w : World) :
    Calls Tryz.prog 81 #[.string ⟨x.toArray⟩] w fun e w' => e = .returned (.tuple #[(rowV x).1, .bool (rowV x).2]) ∧ Kx (fun _ => False) w w' := by
  have hR0 := Cb.new #[.string ⟨#[]⟩, .nilFunc, .nilFunc, .nilFunc] 163 w
  have hx0 := (Kx.refl (fun _ => False) w).alloc (.cells #[.string ⟨#[]⟩, .nilFunc, .nilFunc, .nilFunc] 163)
  go_enter Tryz.func81, Tryz.ntmps81
  go_wp2_with fail
  refine (table_any _).mono ?_
  rintro e W ⟨rfl, hW⟩
  have hR1 : Cb w.heap.size #[.string ⟨#[]⟩, .nilFunc, .nilFunc, .nilFunc] 163 W := hR0.kept (hW.kx (fun _ => False)) id
  have hx1 : Kx (fun _ => False) w W := hx0.trans (hW.kx _)
  have hT1 : Cb (w.heap.size + 1) #[.string ⟨#[98, 108, 111, 98]⟩, .func (.func 164) #[] #[], .func (.func 165) #[] #[], .func (.func 166) #[] #[], .string ⟨#[99, 111, 109, 109, 105, 116]⟩, .func (.func 167) #[] #[], .func (.func 168) #[] #[], .func (.func 169) #[] #[], .string ⟨#[116, 97, 103]⟩, .func (.func 170) #[] #[], .func (.func 171) #[] #[], .func (.func 172) #[] #[], .string ⟨#[114, 101, 115, 101, 116]⟩, .func (.func 173) #[] #[], .func (.func 174) #[] #[], .func (.func 175) #[] #[]] 163 W := by have := hW.tbl; simpa using this
  clear hW hR0 hx0
  obtain ⟨D, HD⟩ : ∃ D, Hid (w.heap.size = D) := ⟨_, rfl⟩
  have hDD : w.heap.size = D := HD.out
  simp only [World.size_alloc]
  rw [hDD] at hR1 hT1 ⊢
  clear hDD
  go_wp2
  go_loopw [8] (fun iv w' => ∃ k : Nat, iv = .int .i64 k ∧ k ≤ 4 ∧ (∀ j u, j < k → [[98, 108, 111, 98], [99, 111, 109, 109, 105, 116], [116, 97, 103], [114, 101, 115, 101, 116]][j]? = some u → x ≠ u) ∧ Kx (fun _ => False) w w' ∧ Cb D #[.string ⟨#[]⟩, .nilFunc, .nilFunc, .nilFunc] 163 w' ∧ Cb (D + 1) #[.string ⟨#[98, 108, 111, 98]⟩, .func (.func 164) #[] #[], .func (.func 165) #[] #[], .func (.func 166) #[] #[], .string ⟨#[99, 111, 109, 109, 105, 116]⟩, .func (.func 167) #[] #[], .func (.func 168) #[] #[], .func (.func 169) #[] #[], .string ⟨#[116, 97, 103]⟩, .func (.func 170) #[] #[], .func (.func 171) #[] #[], .func (.func 172) #[] #[], .string ⟨#[114, 101, 115, 101, 116]⟩, .func (.func 173) #[] #[], .func (.func 174) #[] #[], .func (.func 175) #[] #[]] 163 w') (fun iv _ => 4 - (intOf iv).toNat)
  case atStart => exact ⟨0, rfl, by omega, fun j u hj => absurd hj (by omega), hx1, hR1, hT1⟩
  case round =>
    clear hR1 hT1 hx1
    obtain ⟨k, rfl, hk4, hno, hk, hR, hT⟩ := hrel
    have HK : Hid (Kx (fun _ => False) w wr) := hk
    have hsz := hT.lt
    have hDle : w.heap.size ≤ D := Nat.le_of_eq HD.out
    have hDl : D < wr.heap.size := by omega
    have y0 := hR.cell 0
    have y1 := hR.cell 1
    have y2 := hR.cell 2
    have y3 := hR.cell 3
    have fy := hR.frozen
    have hcase : k = 0 ∨ k = 1 ∨ k = 2 ∨ k = 3 ∨ k = 4 := by omega
    rcases hcase with hk0 | hk1 | hk2 | hk3 | hk4
    · subst hk0
      have t0 := hT.cell 0
      have t1 := hT.cell 1
      have t2 := hT.cell 2
      have t3 := hT.cell 3
      by_cases hx : x = [98, 108, 111, 98]
      · have HE : Hid (rowV x = (.agg #[.string ⟨#[98, 108, 111, 98]⟩, .func (.func 164) #[] #[], .func (.func 165) #[] #[], .func (.func 166) #[] #[]], true)) := by
          show _ = _
          subst hx
          rfl
        subst hx
        clear hno hk
        go_wp2
        refine bodyPost_ret (v := .tuple #[.agg #[.string ⟨#[98, 108, 111, 98]⟩, .func (.func 164) #[] #[], .func (.func 165) #[] #[], .func (.func 166) #[] #[]], .bool true]) (by simp [results, Tryz.results81, go_sem, y0, y1, y2, y3, hDl]) rfl ⟨by rw [HE.out], ?_⟩
        exact ((((HK.out.setNew (p := ⟨D, 0, none⟩) hDle _).setNew (p := ⟨D, 1, none⟩) hDle _).setNew (p := ⟨D, 2, none⟩) hDle _).setNew (p := ⟨D, 3, none⟩) hDle _).alloc _
      · have hxb : ([98, 108, 111, 98] == x) = false := by simpa using fun e : [98, 108, 111, 98] = x => hx e.symm
        have hno2 : ∀ j u, j < 0 + 1 → [[98, 108, 111, 98], [99, 111, 109, 109, 105, 116], [116, 97, 103], [114, 101, 115, 101, 116]][j]? = some u → x ≠ u := by
          intro j u hj hu
          by_cases e : j = 0
          · subst e
            simp at hu
            subst hu
            exact hx
          · exact hno j u (by omega) hu
        have HN : Hid (∀ j u, j < 0 + 1 → [[98, 108, 111, 98], [99, 111, 109, 109, 105, 116], [116, 97, 103], [114, 101, 115, 101, 116]][j]? = some u → x ≠ u) := hno2
        clear hno hno2 hx
        go_wp2
        go_roundw
        case rel => exact ⟨0 + 1, by go_num, by omega, HN.out, HK.out.alloc _, hR.alloc _, hT.alloc _⟩
        case measure => simp [intOf]
    · subst hk1
      have t0 := hT.cell 4
      have t1 := hT.cell 5
      have t2 := hT.cell 6
      have t3 := hT.cell 7
      by_cases hx : x = [99, 111, 109, 109, 105, 116]
      · have HE : Hid (rowV x = (.agg #[.string ⟨#[99, 111, 109, 109, 105, 116]⟩, .func (.func 167) #[] #[], .func (.func 168) #[] #[], .func (.func 169) #[] #[]], true)) := by
          show _ = _
          subst hx
          rfl
        subst hx
        clear hno hk
        go_wp2
        refine bodyPost_ret (v := .tuple #[.agg #[.string ⟨#[99, 111, 109, 109, 105, 116]⟩, .func (.func 167) #[] #[], .func (.func 168) #[] #[], .func (.func 169) #[] #[]], .bool true]) (by simp [results, Tryz.results81, go_sem, y0, y1, y2, y3, hDl]) rfl ⟨by rw [HE.out], ?_⟩
        exact ((((HK.out.setNew (p := ⟨D, 0, none⟩) hDle _).setNew (p := ⟨D, 1, none⟩) hDle _).setNew (p := ⟨D, 2, none⟩) hDle _).setNew (p := ⟨D, 3, none⟩) hDle _).alloc _
      · have hxb : ([99, 111, 109, 109, 105, 116] == x) = false := by simpa using fun e : [99, 111, 109, 109, 105, 116] = x => hx e.symm
        have hno2 : ∀ j u, j < 1 + 1 → [[98, 108, 111, 98], [99, 111, 109, 109, 105, 116], [116, 97, 103], [114, 101, 115, 101, 116]][j]? = some u → x ≠ u := by
          intro j u hj hu
          by_cases e : j = 1
          · subst e
            simp at hu
            subst hu
            exact hx
          · exact hno j u (by omega) hu
        have HN : Hid (∀ j u, j < 1 + 1 → [[98, 108, 111, 98], [99, 111, 109, 109, 105, 116], [116, 97, 103], [114, 101, 115, 101, 116]][j]? = some u → x ≠ u) := hno2
        clear hno hno2 hx
        go_wp2
        go_roundw
        case rel => exact ⟨1 + 1, by go_num, by omega, HN.out, HK.out.alloc _, hR.alloc _, hT.alloc _⟩
        case measure => simp [intOf]
    · subst hk2
      have t0 := hT.cell 8
      have t1 := hT.cell 9
      have t2 := hT.cell 10
      have t3 := hT.cell 11
      by_cases hx : x = [116, 97, 103]
      · have HE : Hid (rowV x = (.agg #[.string ⟨#[116, 97, 103]⟩, .func (.func 170) #[] #[], .func (.func 171) #[] #[], .func (.func 172) #[] #[]], true)) := by
          show _ = _
          subst hx
          rfl
        subst hx
        clear hno hk
        go_wp2
        refine bodyPost_ret (v := .tuple #[.agg #[.string ⟨#[116, 97, 103]⟩, .func (.func 170) #[] #[], .func (.func 171) #[] #[], .func (.func 172) #[] #[]], .bool true]) (by simp [results, Tryz.results81, go_sem, y0, y1, y2, y3, hDl]) rfl ⟨by rw [HE.out], ?_⟩
        exact ((((HK.out.setNew (p := ⟨D, 0, none⟩) hDle _).setNew (p := ⟨D, 1, none⟩) hDle _).setNew (p := ⟨D, 2, none⟩) hDle _).setNew (p := ⟨D, 3, none⟩) hDle _).alloc _
      · have hxb : ([116, 97, 103] == x) = false := by simpa using fun e : [116, 97, 103] = x => hx e.symm
        have hno2 : ∀ j u, j < 2 + 1 → [[98, 108, 111, 98], [99, 111, 109, 109, 105, 116], [116, 97, 103], [114, 101, 115, 101, 116]][j]? = some u → x ≠ u := by
          intro j u hj hu
          by_cases e : j = 2
          · subst e
            simp at hu
            subst hu
            exact hx
          · exact hno j u (by omega) hu
        have HN : Hid (∀ j u, j < 2 + 1 → [[98, 108, 111, 98], [99, 111, 109, 109, 105, 116], [116, 97, 103], [114, 101, 115, 101, 116]][j]? = some u → x ≠ u) := hno2
        clear hno hno2 hx
        go_wp2
        go_roundw
        case rel => exact ⟨2 + 1, by go_num, by omega, HN.out, HK.out.alloc _, hR.alloc _, hT.alloc _⟩
        case measure => simp [intOf]
    · subst hk3
      have t0 := hT.cell 12
      have t1 := hT.cell 13
      have t2 := hT.cell 14
      have t3 := hT.cell 15
      by_cases hx : x = [114, 101, 115, 101, 116]
      · have HE : Hid (rowV x = (.agg #[.string ⟨#[114, 101, 115, 101, 116]⟩, .func (.func 173) #[] #[], .func (.func 174) #[] #[], .func (.func 175) #[] #[]], true)) := by
          show _ = _
          subst hx
          rfl
        subst hx
        clear hno hk
        go_wp2
        refine bodyPost_ret (v := .tuple #[.agg #[.string ⟨#[114, 101, 115, 101, 116]⟩, .func (.func 173) #[] #[], .func (.func 174) #[] #[], .func (.func 175) #[] #[]], .bool true]) (by simp [results, Tryz.results81, go_sem, y0, y1, y2, y3, hDl]) rfl ⟨by rw [HE.out], ?_⟩
        exact ((((HK.out.setNew (p := ⟨D, 0, none⟩) hDle _).setNew (p := ⟨D, 1, none⟩) hDle _).setNew (p := ⟨D, 2, none⟩) hDle _).setNew (p := ⟨D, 3, none⟩) hDle _).alloc _
      · have hxb : ([114, 101, 115, 101, 116] == x) = false := by simpa using fun e : [114, 101, 115, 101, 116] = x => hx e.symm
        have hno2 : ∀ j u, j < 3 + 1 → [[98, 108, 111, 98], [99, 111, 109, 109, 105, 116], [116, 97, 103], [114, 101, 115, 101, 116]][j]? = some u → x ≠ u := by
          intro j u hj hu
          by_cases e : j = 3
          · subst e
            simp at hu
            subst hu
            exact hx
          · exact hno j u (by omega) hu
        have HN : Hid (∀ j u, j < 3 + 1 → [[98, 108, 111, 98], [99, 111, 109, 109, 105, 116], [116, 97, 103], [114, 101, 115, 101, 116]][j]? = some u → x ≠ u) := hno2
        clear hno hno2 hx
        go_wp2
        go_roundw
        case rel => exact ⟨3 + 1, by go_num, by omega, HN.out, HK.out.alloc _, hR.alloc _, hT.alloc _⟩
        case measure => simp [intOf]
    · subst hk4
      have HE : Hid (rowV x = (.agg #[.string ⟨#[]⟩, .nilFunc, .nilFunc, .nilFunc], false)) := by
        show _ = _
        unfold rowV
        rw [if_neg (hno 0 _ (by omega) rfl), if_neg (hno 1 _ (by omega) rfl), if_neg (hno 2 _ (by omega) rfl), if_neg (hno 3 _ (by omega) rfl)]
      clear hno hk
      go_wp2
      refine bodyPost_ret (v := .tuple #[.agg #[.string ⟨#[]⟩, .nilFunc, .nilFunc, .nilFunc], .bool false]) (by simp [results, Tryz.results81, go_sem, y0, y1, y2, y3]) rfl ⟨by rw [HE.out], ?_⟩
      exact (((HK.out.setNew (p := ⟨D, 0, none⟩) hDle _).setNew (p := ⟨D, 1, none⟩) hDle _).setNew (p := ⟨D, 2, none⟩) hDle _).setNew (p := ⟨D, 3, none⟩) hDle _

end Go.Proofs.YtepgoppgblfjbaaGreatDoor

/- word, readOne. -/
namespace Go.Proofs.YtepgoppgblfjbaaGreatDoor
open Go.RowKit

set_option maxHeartbeats 400000 in
theorem word_any (b : Nat) (s : List UInt8) (bad : Bool) (w : World) (h : Rd b s bad w) :
    Calls Tryz.prog 118 #[.pointer (some ⟨b, 0, none⟩)] w fun e w' => e = .returned (.string ⟨(Pu.word s).toArray⟩) ∧ ∃ n, w' = w.drewN n := by
  obtain ⟨c0, c1, f0, f1, pos, ⟨m, hm⟩, short⟩ := h
  have hl := (Pu.cut_lens s [10]).1
  have HE : Hid (Pu.word s = (Lib.cut (Lib.cut s [10]).1 [32]).1) := rfl
  go_enter Tryz.func118, Tryz.ntmps118
  go_wp2_with fail
  refine (cut_any s [10] m _ short hm).mono ?_
  rintro e w1 ⟨rfl, n, rfl⟩
  generalize Lib.cut s [10] = x at *
  obtain ⟨x0, x1, x2⟩ := x
  go_wp2_with fail
  refine (cut_any x0 [32] m _ (by omega) (by exact hm)).mono ?_
  rintro e w2 ⟨rfl, n2, rfl⟩
  generalize Lib.cut x0 [32] = y at *
  obtain ⟨y0, y1, y2⟩ := y
  go_wp2
  go_ret
  exact ⟨by rw [HE.out]; rfl, n + n2, by simp⟩

/-- What readOne gives: a command's value, its slices from lo on. -/
def CoV (w : World) (lo : Nat) (v : Value) (c : Pu.Co) : Prop := ∃ vm vc, v = .agg (coC c vm vc) ∧ CoS w lo vm vc c

theorem cob_new (w : World) (x : List UInt8) (B : Nat) (hB : B = w.heap.size) : Cb B (coC (Pu.Co.of x) (.slice none 0 0) (.slice none 0 0)) 158 (w.alloc (.cells #[.string ⟨x.toArray⟩, .string ⟨#[]⟩, .int .i64 0, .string ⟨#[]⟩, .string ⟨#[]⟩, .int .i64 0, .string ⟨#[]⟩, .int .i64 0, .string ⟨#[]⟩, .slice none 0 0, .slice none 0 0] 158)) := by
  subst hB
  exact Cb.new _ _ _

theorem cos_res {w w' : World} {D : Nat} {vm vc : Value} {c : Pu.Co} (h : CoS w (D + 1) vm vc c) (hk : Kx (Only D) w w') : CoS w' D vm vc c :=
  (h.kept hk (fun j hj _ e => by unfold Only at e; omega)).mono (Nat.le_succ D)

set_option maxHeartbeats 4000000 in
set_option maxRecDepth 100000 in
theorem readOne_any (b : Nat) (s : List UInt8) (bad : Bool) (w : World) (h : Rd b s bad w) :
    Calls Tryz.prog 120 #[.pointer (some ⟨b, 0, none⟩)] w fun e w' => (∃ v, e = .returned v ∧ CoV w' w.heap.size v (Pu.readOneV s bad)) ∧ Rd b (Pu.readOne s bad).1 (Pu.readOne s bad).2 w' ∧ Kx (Only b) w w' := by
  have hb := h.lt
  have h1 := h.alloc (.cells #[.string ⟨#[]⟩, .string ⟨#[]⟩, .int .i64 0, .string ⟨#[]⟩, .string ⟨#[]⟩, .int .i64 0, .string ⟨#[]⟩, .int .i64 0, .string ⟨#[]⟩, .slice none 0 0, .slice none 0 0] 158)
  have hR0 := Cb.new #[.string ⟨#[]⟩, .string ⟨#[]⟩, .int .i64 0, .string ⟨#[]⟩, .string ⟨#[]⟩, .int .i64 0, .string ⟨#[]⟩, .int .i64 0, .string ⟨#[]⟩, .slice none 0 0, .slice none 0 0] 158 w
  have hx1 := (Kx.refl (Only b) w).alloc (.cells #[.string ⟨#[]⟩, .string ⟨#[]⟩, .int .i64 0, .string ⟨#[]⟩, .string ⟨#[]⟩, .int .i64 0, .string ⟨#[]⟩, .int .i64 0, .string ⟨#[]⟩, .slice none 0 0, .slice none 0 0] 158)
  go_enter Tryz.func120, Tryz.ntmps120
  go_wp2_with fail
  refine (word_any b s bad _ h1).mono ?_
  rintro e w1 ⟨rfl, n, hw1⟩
  obtain ⟨x, HW⟩ : ∃ x, Hid (Pu.word s = x) := ⟨_, rfl⟩
  rw [HW.out]
  have hkw1 : Kx (Only b) (w.alloc (.cells #[.string ⟨#[]⟩, .string ⟨#[]⟩, .int .i64 0, .string ⟨#[]⟩, .string ⟨#[]⟩, .int .i64 0, .string ⟨#[]⟩, .int .i64 0, .string ⟨#[]⟩, .slice none 0 0, .slice none 0 0] 158)) w1 := by rw [hw1]; exact (Kx.refl _ _).drewN n
  have hr1 : Rd b s bad w1 := by rw [hw1]; exact h1.drewN n
  have hR1 := hR0.only hkw1 hb
  have hk1 := hx1.trans hkw1
  clear hw1 hkw1 h1 hR0 hx1
  obtain ⟨D, HD⟩ : ∃ D, Hid (w.heap.size = D) := ⟨_, rfl⟩
  have hDD : w.heap.size = D := HD.out
  rw [hDD] at hR1 ⊢
  have hbD : b < D := by omega
  have hD1 : D < w1.heap.size := hR1.lt
  clear hDD
  have hcb := cob_new w1 x w1.heap.size rfl
  have hr2 := hr1.alloc (.cells #[.string ⟨x.toArray⟩, .string ⟨#[]⟩, .int .i64 0, .string ⟨#[]⟩, .string ⟨#[]⟩, .int .i64 0, .string ⟨#[]⟩, .int .i64 0, .string ⟨#[]⟩, .slice none 0 0, .slice none 0 0] 158)
  have hR2 := hR1.alloc (.cells #[.string ⟨x.toArray⟩, .string ⟨#[]⟩, .int .i64 0, .string ⟨#[]⟩, .string ⟨#[]⟩, .int .i64 0, .string ⟨#[]⟩, .int .i64 0, .string ⟨#[]⟩, .slice none 0 0, .slice none 0 0] 158)
  have hk2 := hk1.alloc (.cells #[.string ⟨x.toArray⟩, .string ⟨#[]⟩, .int .i64 0, .string ⟨#[]⟩, .string ⟨#[]⟩, .int .i64 0, .string ⟨#[]⟩, .int .i64 0, .string ⟨#[]⟩, .slice none 0 0, .slice none 0 0] 158)
  have hs2 : (w1.alloc (.cells #[.string ⟨x.toArray⟩, .string ⟨#[]⟩, .int .i64 0, .string ⟨#[]⟩, .string ⟨#[]⟩, .int .i64 0, .string ⟨#[]⟩, .int .i64 0, .string ⟨#[]⟩, .slice none 0 0, .slice none 0 0] 158)).heap.size = w1.heap.size + 1 := by simp
  obtain ⟨E, HE0⟩ : ∃ E, Hid (w1.heap.size = E) := ⟨_, rfl⟩
  have hEE : w1.heap.size = E := HE0.out
  go_wp2_with fail
  refine (find_any x _).mono ?_
  rintro e w3 ⟨rfl, hk3⟩
  have hcb3 := hcb.kept hk3 id
  have hr3 := hr2.kept hk3 id id
  have hR3 := hR2.kept hk3 id
  have hkw3 : Kx (Only b) w w3 := hk2.trans (hk3.mono (fun _ _ hh => hh.elim))
  have hs3 : w1.heap.size < w3.heap.size := by have := hk3.size; omega
  rw [hEE] at hcb3 hs3 hD1
  clear hcb hr2 hR2 hk2 hs2 hk3 hEE hr1 hR1 hk1
  have hk4 := hkw3
  have hD3 : D < w3.heap.size := by omega

  by_cases hx0 : x = [98, 108, 111, 98]
  · have HRow : Hid (rowV x = (.agg #[.string ⟨#[98, 108, 111, 98]⟩, .func (.func 164) #[] #[], .func (.func 165) #[] #[], .func (.func 166) #[] #[]], true)) := by
      show _ = _
      subst hx0
      rfl
    have HE : Hid (Pu.readOne s bad = Pu.readBlob s bad ∧ Pu.readOneV s bad = Pu.readBlobV s bad (Pu.Co.of x)) := by
      show _ ∧ _
      unfold Pu.readOne Pu.readOneV
      rw [HW.out, hx0]
      exact ⟨rfl, rfl⟩
    rw [HRow.out]
    clear HRow hx0
    have hcb4 := hcb3.alloc (.cells #[.string ⟨#[98, 108, 111, 98]⟩, .func (.func 164) #[] #[], .func (.func 165) #[] #[], .func (.func 166) #[] #[]] 163)
    have hr4 := hr3.alloc (.cells #[.string ⟨#[98, 108, 111, 98]⟩, .func (.func 164) #[] #[], .func (.func 165) #[] #[], .func (.func 166) #[] #[]] 163)
    have hR4 := hR3.alloc (.cells #[.string ⟨#[98, 108, 111, 98]⟩, .func (.func 164) #[] #[], .func (.func 165) #[] #[], .func (.func 166) #[] #[]] 163)
    have hk5 := hk4.alloc (.cells #[.string ⟨#[98, 108, 111, 98]⟩, .func (.func 164) #[] #[], .func (.func 165) #[] #[], .func (.func 166) #[] #[]] 163)
    have hs4 : (w3.alloc (.cells #[.string ⟨#[98, 108, 111, 98]⟩, .func (.func 164) #[] #[], .func (.func 165) #[] #[], .func (.func 166) #[] #[]] 163)).heap.size = w3.heap.size + 1 := by simp
    go_wp2_with fail
    refine (readBlob_any b E x s bad _ hr4 (by omega) hcb4).mono ?_
    rintro e w5 ⟨rfl, hr5, ⟨vm, vc, hc5, hS5⟩, hkk5⟩
    have hR5 := hR4.kept hkk5 (by unfold Two; omega)
    have hk6 : Kx (Only b) w w5 := hk5.trans' hkk5 (fun j hj hy => hy.elim id (fun e => absurd e (by have := HD.out; omega)))
    have hS6 : CoS w5 (D + 1) vm vc (Pu.readBlobV s bad (Pu.Co.of x)) := hS5.mono (by rw [hs4]; omega)
    have HV : Hid (Pu.readOneV s bad = Pu.readBlobV s bad (Pu.Co.of x)) := HE.out.2
    generalize Pu.readBlobV s bad (Pu.Co.of x) = cc at *
    clear hkk5 hk5 hcb4 hr4 hR4 hs4 hS5 hcb3 hr3 hR3
    have x0 := hc5.cell 0
    have x1 := hc5.cell 1
    have x2 := hc5.cell 2
    have x3 := hc5.cell 3
    have x4 := hc5.cell 4
    have x5 := hc5.cell 5
    have x6 := hc5.cell 6
    have x7 := hc5.cell 7
    have x8 := hc5.cell 8
    have x9 := hc5.cell 9
    have x10 := hc5.cell 10
    have y0 := hR5.cell 0
    have y1 := hR5.cell 1
    have y2 := hR5.cell 2
    have y3 := hR5.cell 3
    have y4 := hR5.cell 4
    have y5 := hR5.cell 5
    have y6 := hR5.cell 6
    have y7 := hR5.cell 7
    have y8 := hR5.cell 8
    have y9 := hR5.cell 9
    have y10 := hR5.cell 10
    have fy := hR5.frozen
    clear hc5 hR5
    unfold coC at x0 x1 x2 x3 x4 x5 x6 x7 x8 x9 x10
    obtain ⟨qm, cm, hvm, _⟩ := id hS6.ms
    obtain ⟨qc, cc2, hvc, _⟩ := id hS6.cs
    subst hvm hvc
    go_wp2
    refine bodyPost_ret (v := .agg (coC cc (.slice qm cc.merges.length cm) (.slice qc cc.changes.length cc2))) (by simp [results, Tryz.results120, go_sem, coC, y0, y1, y2, y3, y4, y5, y6, y7, y8, y9, y10]) rfl ⟨⟨_, rfl, _, _, by rw [HV.out], ?_⟩, ?_, ?_⟩
    · rw [HV.out, HD.out]
      exact cos_res hS6 ((((((((((((Kx.refl (Only D) w5).only_set _).only_set _).only_set _).only_set _).only_set _).only_set _).only_set _).only_set _).only_set _).only_set _).only_set _)
    · rw [HE.out.1]
      exact (((((((((((hr5).setNew hbD _).setNew hbD _).setNew hbD _).setNew hbD _).setNew hbD _).setNew hbD _).setNew hbD _).setNew hbD _).setNew hbD _).setNew hbD _).setNew hbD _
    · have hDle : w.heap.size ≤ D := Nat.le_of_eq HD.out
      exact (((((((((((hk6).setNew hDle _).setNew hDle _).setNew hDle _).setNew hDle _).setNew hDle _).setNew hDle _).setNew hDle _).setNew hDle _).setNew hDle _).setNew hDle _).setNew hDle _
  by_cases hx1 : x = [99, 111, 109, 109, 105, 116]
  · have HRow : Hid (rowV x = (.agg #[.string ⟨#[99, 111, 109, 109, 105, 116]⟩, .func (.func 167) #[] #[], .func (.func 168) #[] #[], .func (.func 169) #[] #[]], true)) := by
      show _ = _
      subst hx1
      rfl
    have HE : Hid (Pu.readOne s bad = Pu.readCommit s bad ∧ Pu.readOneV s bad = Pu.readCommitV s bad (Pu.Co.of x)) := by
      show _ ∧ _
      unfold Pu.readOne Pu.readOneV
      rw [HW.out, hx1]
      exact ⟨rfl, rfl⟩
    rw [HRow.out]
    clear HRow hx0 hx1
    have hcb4 := hcb3.alloc (.cells #[.string ⟨#[99, 111, 109, 109, 105, 116]⟩, .func (.func 167) #[] #[], .func (.func 168) #[] #[], .func (.func 169) #[] #[]] 163)
    have hr4 := hr3.alloc (.cells #[.string ⟨#[99, 111, 109, 109, 105, 116]⟩, .func (.func 167) #[] #[], .func (.func 168) #[] #[], .func (.func 169) #[] #[]] 163)
    have hR4 := hR3.alloc (.cells #[.string ⟨#[99, 111, 109, 109, 105, 116]⟩, .func (.func 167) #[] #[], .func (.func 168) #[] #[], .func (.func 169) #[] #[]] 163)
    have hk5 := hk4.alloc (.cells #[.string ⟨#[99, 111, 109, 109, 105, 116]⟩, .func (.func 167) #[] #[], .func (.func 168) #[] #[], .func (.func 169) #[] #[]] 163)
    have hs4 : (w3.alloc (.cells #[.string ⟨#[99, 111, 109, 109, 105, 116]⟩, .func (.func 167) #[] #[], .func (.func 168) #[] #[], .func (.func 169) #[] #[]] 163)).heap.size = w3.heap.size + 1 := by simp
    go_wp2_with fail
    refine (readCommit_any b E x s bad _ hr4 (by omega) hcb4).mono ?_
    rintro e w5 ⟨rfl, hr5, ⟨vm, vc, hc5, hS5⟩, hkk5⟩
    have hR5 := hR4.kept hkk5 (by unfold Two; omega)
    have hk6 : Kx (Only b) w w5 := hk5.trans' hkk5 (fun j hj hy => hy.elim id (fun e => absurd e (by have := HD.out; omega)))
    have hS6 : CoS w5 (D + 1) vm vc (Pu.readCommitV s bad (Pu.Co.of x)) := hS5.mono (by rw [hs4]; omega)
    have HV : Hid (Pu.readOneV s bad = Pu.readCommitV s bad (Pu.Co.of x)) := HE.out.2
    generalize Pu.readCommitV s bad (Pu.Co.of x) = cc at *
    clear hkk5 hk5 hcb4 hr4 hR4 hs4 hS5 hcb3 hr3 hR3
    have x0 := hc5.cell 0
    have x1 := hc5.cell 1
    have x2 := hc5.cell 2
    have x3 := hc5.cell 3
    have x4 := hc5.cell 4
    have x5 := hc5.cell 5
    have x6 := hc5.cell 6
    have x7 := hc5.cell 7
    have x8 := hc5.cell 8
    have x9 := hc5.cell 9
    have x10 := hc5.cell 10
    have y0 := hR5.cell 0
    have y1 := hR5.cell 1
    have y2 := hR5.cell 2
    have y3 := hR5.cell 3
    have y4 := hR5.cell 4
    have y5 := hR5.cell 5
    have y6 := hR5.cell 6
    have y7 := hR5.cell 7
    have y8 := hR5.cell 8
    have y9 := hR5.cell 9
    have y10 := hR5.cell 10
    have fy := hR5.frozen
    clear hc5 hR5
    unfold coC at x0 x1 x2 x3 x4 x5 x6 x7 x8 x9 x10
    obtain ⟨qm, cm, hvm, _⟩ := id hS6.ms
    obtain ⟨qc, cc2, hvc, _⟩ := id hS6.cs
    subst hvm hvc
    go_wp2
    refine bodyPost_ret (v := .agg (coC cc (.slice qm cc.merges.length cm) (.slice qc cc.changes.length cc2))) (by simp [results, Tryz.results120, go_sem, coC, y0, y1, y2, y3, y4, y5, y6, y7, y8, y9, y10]) rfl ⟨⟨_, rfl, _, _, by rw [HV.out], ?_⟩, ?_, ?_⟩
    · rw [HV.out, HD.out]
      exact cos_res hS6 ((((((((((((Kx.refl (Only D) w5).only_set _).only_set _).only_set _).only_set _).only_set _).only_set _).only_set _).only_set _).only_set _).only_set _).only_set _)
    · rw [HE.out.1]
      exact (((((((((((hr5).setNew hbD _).setNew hbD _).setNew hbD _).setNew hbD _).setNew hbD _).setNew hbD _).setNew hbD _).setNew hbD _).setNew hbD _).setNew hbD _).setNew hbD _
    · have hDle : w.heap.size ≤ D := Nat.le_of_eq HD.out
      exact (((((((((((hk6).setNew hDle _).setNew hDle _).setNew hDle _).setNew hDle _).setNew hDle _).setNew hDle _).setNew hDle _).setNew hDle _).setNew hDle _).setNew hDle _).setNew hDle _
  by_cases hx2 : x = [116, 97, 103]
  · have HRow : Hid (rowV x = (.agg #[.string ⟨#[116, 97, 103]⟩, .func (.func 170) #[] #[], .func (.func 171) #[] #[], .func (.func 172) #[] #[]], true)) := by
      show _ = _
      subst hx2
      rfl
    have HE : Hid (Pu.readOne s bad = Pu.readTag s bad ∧ Pu.readOneV s bad = Pu.readTagV s bad (Pu.Co.of x)) := by
      show _ ∧ _
      unfold Pu.readOne Pu.readOneV
      rw [HW.out, hx2]
      exact ⟨rfl, rfl⟩
    rw [HRow.out]
    clear HRow hx0 hx1 hx2
    have hcb4 := hcb3.alloc (.cells #[.string ⟨#[116, 97, 103]⟩, .func (.func 170) #[] #[], .func (.func 171) #[] #[], .func (.func 172) #[] #[]] 163)
    have hr4 := hr3.alloc (.cells #[.string ⟨#[116, 97, 103]⟩, .func (.func 170) #[] #[], .func (.func 171) #[] #[], .func (.func 172) #[] #[]] 163)
    have hR4 := hR3.alloc (.cells #[.string ⟨#[116, 97, 103]⟩, .func (.func 170) #[] #[], .func (.func 171) #[] #[], .func (.func 172) #[] #[]] 163)
    have hk5 := hk4.alloc (.cells #[.string ⟨#[116, 97, 103]⟩, .func (.func 170) #[] #[], .func (.func 171) #[] #[], .func (.func 172) #[] #[]] 163)
    have hs4 : (w3.alloc (.cells #[.string ⟨#[116, 97, 103]⟩, .func (.func 170) #[] #[], .func (.func 171) #[] #[], .func (.func 172) #[] #[]] 163)).heap.size = w3.heap.size + 1 := by simp
    go_wp2_with fail
    refine (readTag_any b E x s bad _ hr4 (by omega) hcb4).mono ?_
    rintro e w5 ⟨rfl, hr5, ⟨vm, vc, hc5, hS5⟩, hkk5⟩
    have hR5 := hR4.kept hkk5 (by unfold Two; omega)
    have hk6 : Kx (Only b) w w5 := hk5.trans' hkk5 (fun j hj hy => hy.elim id (fun e => absurd e (by have := HD.out; omega)))
    have hS6 : CoS w5 (D + 1) vm vc (Pu.readTagV s bad (Pu.Co.of x)) := hS5.mono (by rw [hs4]; omega)
    have HV : Hid (Pu.readOneV s bad = Pu.readTagV s bad (Pu.Co.of x)) := HE.out.2
    generalize Pu.readTagV s bad (Pu.Co.of x) = cc at *
    clear hkk5 hk5 hcb4 hr4 hR4 hs4 hS5 hcb3 hr3 hR3
    have x0 := hc5.cell 0
    have x1 := hc5.cell 1
    have x2 := hc5.cell 2
    have x3 := hc5.cell 3
    have x4 := hc5.cell 4
    have x5 := hc5.cell 5
    have x6 := hc5.cell 6
    have x7 := hc5.cell 7
    have x8 := hc5.cell 8
    have x9 := hc5.cell 9
    have x10 := hc5.cell 10
    have y0 := hR5.cell 0
    have y1 := hR5.cell 1
    have y2 := hR5.cell 2
    have y3 := hR5.cell 3
    have y4 := hR5.cell 4
    have y5 := hR5.cell 5
    have y6 := hR5.cell 6
    have y7 := hR5.cell 7
    have y8 := hR5.cell 8
    have y9 := hR5.cell 9
    have y10 := hR5.cell 10
    have fy := hR5.frozen
    clear hc5 hR5
    unfold coC at x0 x1 x2 x3 x4 x5 x6 x7 x8 x9 x10
    obtain ⟨qm, cm, hvm, _⟩ := id hS6.ms
    obtain ⟨qc, cc2, hvc, _⟩ := id hS6.cs
    subst hvm hvc
    go_wp2
    refine bodyPost_ret (v := .agg (coC cc (.slice qm cc.merges.length cm) (.slice qc cc.changes.length cc2))) (by simp [results, Tryz.results120, go_sem, coC, y0, y1, y2, y3, y4, y5, y6, y7, y8, y9, y10]) rfl ⟨⟨_, rfl, _, _, by rw [HV.out], ?_⟩, ?_, ?_⟩
    · rw [HV.out, HD.out]
      exact cos_res hS6 ((((((((((((Kx.refl (Only D) w5).only_set _).only_set _).only_set _).only_set _).only_set _).only_set _).only_set _).only_set _).only_set _).only_set _).only_set _)
    · rw [HE.out.1]
      exact (((((((((((hr5).setNew hbD _).setNew hbD _).setNew hbD _).setNew hbD _).setNew hbD _).setNew hbD _).setNew hbD _).setNew hbD _).setNew hbD _).setNew hbD _).setNew hbD _
    · have hDle : w.heap.size ≤ D := Nat.le_of_eq HD.out
      exact (((((((((((hk6).setNew hDle _).setNew hDle _).setNew hDle _).setNew hDle _).setNew hDle _).setNew hDle _).setNew hDle _).setNew hDle _).setNew hDle _).setNew hDle _).setNew hDle _
  by_cases hx3 : x = [114, 101, 115, 101, 116]
  · have HRow : Hid (rowV x = (.agg #[.string ⟨#[114, 101, 115, 101, 116]⟩, .func (.func 173) #[] #[], .func (.func 174) #[] #[], .func (.func 175) #[] #[]], true)) := by
      show _ = _
      subst hx3
      rfl
    have HE : Hid (Pu.readOne s bad = Pu.readReset s bad ∧ Pu.readOneV s bad = Pu.readResetV s bad (Pu.Co.of x)) := by
      show _ ∧ _
      unfold Pu.readOne Pu.readOneV
      rw [HW.out, hx3]
      exact ⟨rfl, rfl⟩
    rw [HRow.out]
    clear HRow hx0 hx1 hx2 hx3
    have hcb4 := hcb3.alloc (.cells #[.string ⟨#[114, 101, 115, 101, 116]⟩, .func (.func 173) #[] #[], .func (.func 174) #[] #[], .func (.func 175) #[] #[]] 163)
    have hr4 := hr3.alloc (.cells #[.string ⟨#[114, 101, 115, 101, 116]⟩, .func (.func 173) #[] #[], .func (.func 174) #[] #[], .func (.func 175) #[] #[]] 163)
    have hR4 := hR3.alloc (.cells #[.string ⟨#[114, 101, 115, 101, 116]⟩, .func (.func 173) #[] #[], .func (.func 174) #[] #[], .func (.func 175) #[] #[]] 163)
    have hk5 := hk4.alloc (.cells #[.string ⟨#[114, 101, 115, 101, 116]⟩, .func (.func 173) #[] #[], .func (.func 174) #[] #[], .func (.func 175) #[] #[]] 163)
    have hs4 : (w3.alloc (.cells #[.string ⟨#[114, 101, 115, 101, 116]⟩, .func (.func 173) #[] #[], .func (.func 174) #[] #[], .func (.func 175) #[] #[]] 163)).heap.size = w3.heap.size + 1 := by simp
    go_wp2_with fail
    refine (readReset_any b E x s bad _ hr4 (by omega) hcb4).mono ?_
    rintro e w5 ⟨rfl, hr5, ⟨vm, vc, hc5, hS5⟩, hkk5⟩
    have hR5 := hR4.kept hkk5 (by unfold Two; omega)
    have hk6 : Kx (Only b) w w5 := hk5.trans' hkk5 (fun j hj hy => hy.elim id (fun e => absurd e (by have := HD.out; omega)))
    have hS6 : CoS w5 (D + 1) vm vc (Pu.readResetV s bad (Pu.Co.of x)) := hS5.mono (by rw [hs4]; omega)
    have HV : Hid (Pu.readOneV s bad = Pu.readResetV s bad (Pu.Co.of x)) := HE.out.2
    generalize Pu.readResetV s bad (Pu.Co.of x) = cc at *
    clear hkk5 hk5 hcb4 hr4 hR4 hs4 hS5 hcb3 hr3 hR3
    have x0 := hc5.cell 0
    have x1 := hc5.cell 1
    have x2 := hc5.cell 2
    have x3 := hc5.cell 3
    have x4 := hc5.cell 4
    have x5 := hc5.cell 5
    have x6 := hc5.cell 6
    have x7 := hc5.cell 7
    have x8 := hc5.cell 8
    have x9 := hc5.cell 9
    have x10 := hc5.cell 10
    have y0 := hR5.cell 0
    have y1 := hR5.cell 1
    have y2 := hR5.cell 2
    have y3 := hR5.cell 3
    have y4 := hR5.cell 4
    have y5 := hR5.cell 5
    have y6 := hR5.cell 6
    have y7 := hR5.cell 7
    have y8 := hR5.cell 8
    have y9 := hR5.cell 9
    have y10 := hR5.cell 10
    have fy := hR5.frozen
    clear hc5 hR5
    unfold coC at x0 x1 x2 x3 x4 x5 x6 x7 x8 x9 x10
    obtain ⟨qm, cm, hvm, _⟩ := id hS6.ms
    obtain ⟨qc, cc2, hvc, _⟩ := id hS6.cs
    subst hvm hvc
    go_wp2
    refine bodyPost_ret (v := .agg (coC cc (.slice qm cc.merges.length cm) (.slice qc cc.changes.length cc2))) (by simp [results, Tryz.results120, go_sem, coC, y0, y1, y2, y3, y4, y5, y6, y7, y8, y9, y10]) rfl ⟨⟨_, rfl, _, _, by rw [HV.out], ?_⟩, ?_, ?_⟩
    · rw [HV.out, HD.out]
      exact cos_res hS6 ((((((((((((Kx.refl (Only D) w5).only_set _).only_set _).only_set _).only_set _).only_set _).only_set _).only_set _).only_set _).only_set _).only_set _).only_set _)
    · rw [HE.out.1]
      exact (((((((((((hr5).setNew hbD _).setNew hbD _).setNew hbD _).setNew hbD _).setNew hbD _).setNew hbD _).setNew hbD _).setNew hbD _).setNew hbD _).setNew hbD _).setNew hbD _
    · have hDle : w.heap.size ≤ D := Nat.le_of_eq HD.out
      exact (((((((((((hk6).setNew hDle _).setNew hDle _).setNew hDle _).setNew hDle _).setNew hDle _).setNew hDle _).setNew hDle _).setNew hDle _).setNew hDle _).setNew hDle _).setNew hDle _
  have HRow : Hid (rowV x = (.agg #[.string ⟨#[]⟩, .nilFunc, .nilFunc, .nilFunc], false)) := by
    show _ = _
    unfold rowV
    rw [if_neg hx0, if_neg hx1, if_neg hx2, if_neg hx3]
  have HE : Hid (Pu.readOne s bad = ([], true) ∧ Pu.readOneV s bad = Pu.Co.of []) := by
    have e0 : (x == Pu.sBlob) = false := beq_eq_false_iff_ne.2 hx0
    have e1 : (x == Pu.sCommit) = false := beq_eq_false_iff_ne.2 hx1
    have e2 : (x == Pu.sTag) = false := beq_eq_false_iff_ne.2 hx2
    have e3 : (x == Pu.sReset) = false := beq_eq_false_iff_ne.2 hx3
    show _ ∧ _
    unfold Pu.readOne Pu.readOneV
    rw [HW.out, e0, e1, e2, e3]
    exact ⟨rfl, rfl⟩
  rw [HRow.out]
  clear HRow hx0 hx1 hx2 hx3
  have hr4 := hr3.alloc (.cells #[.string ⟨#[]⟩, .nilFunc, .nilFunc, .nilFunc] 163)
  have hR4 := hR3.alloc (.cells #[.string ⟨#[]⟩, .nilFunc, .nilFunc, .nilFunc] 163)
  have hk5 := hk4.alloc (.cells #[.string ⟨#[]⟩, .nilFunc, .nilFunc, .nilFunc] 163)
  go_wp2_with fail
  refine (fail_any b s bad _ hr4).mono ?_
  rintro e w5 ⟨rfl, hr5, hkk5⟩
  have hR5 := hR4.only hkk5 hbD
  have hk6 : Kx (Only b) w w5 := hk5.trans hkk5
  clear hkk5 hk5 hr4 hR4 hcb3 hr3 hR3
  have y0 := hR5.cell 0
  have y1 := hR5.cell 1
  have y2 := hR5.cell 2
  have y3 := hR5.cell 3
  have y4 := hR5.cell 4
  have y5 := hR5.cell 5
  have y6 := hR5.cell 6
  have y7 := hR5.cell 7
  have y8 := hR5.cell 8
  have y9 := hR5.cell 9
  have y10 := hR5.cell 10
  have fy := hR5.frozen
  clear hR5
  go_wp2
  refine bodyPost_ret (v := .agg (coC (Pu.Co.of []) (.slice none 0 0) (.slice none 0 0))) (by simp [results, Tryz.results120, go_sem, coC, Pu.Co.of, y0, y1, y2, y3, y4, y5, y6, y7, y8, y9, y10]) rfl ⟨⟨_, rfl, _, _, by rw [HE.out.2], ?_⟩, ?_, ?_⟩
  · rw [HE.out.2]
    exact CoS.nil _ _ _ rfl rfl
  · rw [HE.out.1]
    exact (((((((((((hr5).setNew hbD _).setNew hbD _).setNew hbD _).setNew hbD _).setNew hbD _).setNew hbD _).setNew hbD _).setNew hbD _).setNew hbD _).setNew hbD _).setNew hbD _
  · have hDle : w.heap.size ≤ D := Nat.le_of_eq HD.out
    exact (((((((((((hk6).setNew hDle _).setNew hDle _).setNew hDle _).setNew hDle _).setNew hDle _).setNew hDle _).setNew hDle _).setNew hDle _).setNew hDle _).setNew hDle _).setNew hDle _

end Go.Proofs.YtepgoppgblfjbaaGreatDoor
