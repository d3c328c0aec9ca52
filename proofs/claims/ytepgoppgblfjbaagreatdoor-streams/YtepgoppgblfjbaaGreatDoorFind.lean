/- The table of commands, and find. -/
import Derived.Test.YtepgoppgblfjbaaGreatDoorCommit
import Derived.Laws.EntriesVeiled
namespace Go.Proofs.YtepgoppgblfjbaaGreatDoor
open Go.RowKit

/-- What the table's making leaves. -/
structure Tbl (w w' : World) : Prop where
  size : w'.heap.size = w.heap.size + 1
  tbl : Cb w.heap.size #[.string ⟨#[98, 108, 111, 98]⟩, .func (.func 164) #[] #[], .func (.func 165) #[] #[], .func (.func 166) #[] #[], .string ⟨#[99, 111, 109, 109, 105, 116]⟩, .func (.func 167) #[] #[], .func (.func 168) #[] #[], .func (.func 169) #[] #[], .string ⟨#[116, 97, 103]⟩, .func (.func 170) #[] #[], .func (.func 171) #[] #[], .func (.func 172) #[] #[], .string ⟨#[114, 101, 115, 101, 116]⟩, .func (.func 173) #[] #[], .func (.func 174) #[] #[], .func (.func 175) #[] #[]] 163 w'
  kx : ∀ X, Kx X w w'

set_option maxHeartbeats 400000 in
theorem table_any (w : World) :
    Calls Tryz.prog 123 #[] w fun e w' => e = .returned (.slice (some ⟨w.heap.size, 0, none⟩) 4 4) ∧ Tbl w w' := by
  go_enter Tryz.func123, Tryz.ntmps123
  go_wp2
  go_ret
  exact ⟨rfl, by simp, Cb.new _ _ _, fun X => (Kx.refl X w).alloc _⟩

theorem Kx.trans' {X Y : Nat → Prop} {a c d : World} (h : Kx X a c) (k : Kx Y c d) (hXY : ∀ j, j < a.heap.size → Y j → X j) : Kx X a d :=
  ⟨k.os.trans h.os, k.tape.trans h.tape, k.output.trans h.output, Nat.le_trans h.size k.size,
   fun i hi hx => (k.block i (Nat.lt_of_lt_of_le hi h.size) (fun y => hx (hXY i hi y))).trans (h.block i hi hx)⟩

/-- The row of a word: the functions that read, do and write the command. -/
def rowV (x : List UInt8) : Value × Bool :=
  if x = [98, 108, 111, 98] then (.agg #[.string ⟨#[98, 108, 111, 98]⟩, .func (.func 164) #[] #[], .func (.func 165) #[] #[], .func (.func 166) #[] #[]], true)
  else if x = [99, 111, 109, 109, 105, 116] then (.agg #[.string ⟨#[99, 111, 109, 109, 105, 116]⟩, .func (.func 167) #[] #[], .func (.func 168) #[] #[], .func (.func 169) #[] #[]], true)
  else if x = [116, 97, 103] then (.agg #[.string ⟨#[116, 97, 103]⟩, .func (.func 170) #[] #[], .func (.func 171) #[] #[], .func (.func 172) #[] #[]], true)
  else if x = [114, 101, 115, 101, 116] then (.agg #[.string ⟨#[114, 101, 115, 101, 116]⟩, .func (.func 173) #[] #[], .func (.func 174) #[] #[], .func (.func 175) #[] #[]], true)
  else (.agg #[.string ⟨#[]⟩, .nilFunc, .nilFunc, .nilFunc], false)

set_option maxHeartbeats 4000000 in
set_option maxRecDepth 100000 in
theorem find_any (x : List UInt8) (w : World) :
    Calls Tryz.prog 81 #[.string ⟨x.toArray⟩] w fun e w' => e = .returned (.tuple #[(rowV x).1, .bool (rowV x).2]) ∧ Kx (fun _ => False) w w' := by
  have hR0 := Cb.new #[.string ⟨#[]⟩, .nilFunc, .nilFunc, .nilFunc] 163 w
  have hx0 := (Kx.refl (fun _ => False) w).alloc (.cells #[.string ⟨#[]⟩, .nilFunc, .nilFunc, .nilFunc] 163)
  go_enter Tryz.func81, Tryz.ntmps81
  go_wp2_with fail
  refine (table_any _).mono ?_
  rintro e W ⟨rfl, hW⟩
  have hR1 : Cb w.heap.size #[.string ⟨#[]⟩, .nilFunc, .nilFunc, .nilFunc] 163 W := hR0.kept (hW.kx (fun _ => False)) id
  have hx1 : Kx (fun _ => False) w W := hx0.trans (hW.kx _)
  have hT1 : Cb (w.heap.size + 1) #[.string ⟨#[98, 108, 111, 98]⟩, .func (.func 164) #[] #[], .func (.func 165) #[] #[], .func (.func 166) #[] #[], .string ⟨#[99, 111, 109, 109, 105, 116]⟩, .func (.func 167) #[] #[], .func (.func 168) #[] #[], .func (.func 169) #[] #[], .string ⟨#[116, 97, 103]⟩, .func (.func 170) #[] #[], .func (.func 171) #[] #[], .func (.func 172) #[] #[], .string ⟨#[114, 101, 115, 101, 116]⟩, .func (.func 173) #[] #[], .func (.func 174) #[] #[], .func (.func 175) #[] #[]] 163 W := by have := hW.tbl; simpa using this
  clear hW hR0 hx0
  obtain ⟨D, HD⟩ : ∃ D, Hid (w.heap.size = D) := ⟨_, rfl⟩
  have hDD : w.heap.size = D := HD.out
  simp only [World.size_alloc]
  rw [hDD] at hR1 hT1 ⊢
  clear hDD
  go_wp2
  go_loopw [8] (fun iv w' => ∃ k : Nat, iv = .int .i64 k ∧ k ≤ 4 ∧ (∀ j u, j < k → [[98, 108, 111, 98], [99, 111, 109, 109, 105, 116], [116, 97, 103], [114, 101, 115, 101, 116]][j]? = some u → x ≠ u) ∧ Kx (fun _ => False) w w' ∧ Cb D #[.string ⟨#[]⟩, .nilFunc, .nilFunc, .nilFunc] 163 w' ∧ Cb (D + 1) #[.string ⟨#[98, 108, 111, 98]⟩, .func (.func 164) #[] #[], .func (.func 165) #[] #[], .func (.func 166) #[] #[], .string ⟨#[99, 111, 109, 109, 105, 116]⟩, .func (.func 167) #[] #[], .func (.func 168) #[] #[], .func (.func 169) #[] #[], .string ⟨#[116, 97, 103]⟩, .func (.func 170) #[] #[], .func (.func 171) #[] #[], .func (.func 172) #[] #[], .string ⟨#[114, 101, 115, 101, 116]⟩, .func (.func 173) #[] #[], .func (.func 174) #[] #[], .func (.func 175) #[] #[]] 163 w') (fun iv _ => 4 - (intOf iv).toNat)
  case atStart => exact ⟨0, rfl, by omega, fun j u hj => absurd hj (by omega), hx1, hR1, hT1⟩
  case round =>
    clear hR1 hT1 hx1
    obtain ⟨k, rfl, hk4, hno, hk, hR, hT⟩ := hrel
    have HK : Hid (Kx (fun _ => False) w wr) := hk
    have hsz := hT.lt
    have hDle : w.heap.size ≤ D := Nat.le_of_eq HD.out
    have hDl : D < wr.heap.size := by omega
    have y0 := hR.cell 0
    have y1 := hR.cell 1
    have y2 := hR.cell 2
    have y3 := hR.cell 3
    have fy := hR.frozen
    have hcase : k = 0 ∨ k = 1 ∨ k = 2 ∨ k = 3 ∨ k = 4 := by omega
    rcases hcase with hk0 | hk1 | hk2 | hk3 | hk4
    · subst hk0
      have t0 := hT.cell 0
      have t1 := hT.cell 1
      have t2 := hT.cell 2
      have t3 := hT.cell 3
      by_cases hx : x = [98, 108, 111, 98]
      · have HE : Hid (rowV x = (.agg #[.string ⟨#[98, 108, 111, 98]⟩, .func (.func 164) #[] #[], .func (.func 165) #[] #[], .func (.func 166) #[] #[]], true)) := by
          show _ = _
          subst hx
          rfl
        subst hx
        clear hno hk
        go_wp2
        refine bodyPost_ret (v := .tuple #[.agg #[.string ⟨#[98, 108, 111, 98]⟩, .func (.func 164) #[] #[], .func (.func 165) #[] #[], .func (.func 166) #[] #[]], .bool true]) (by simp [results, Tryz.results81, go_sem, y0, y1, y2, y3, hDl]) rfl ⟨by rw [HE.out], ?_⟩
        exact ((((HK.out.setNew (p := ⟨D, 0, none⟩) hDle _).setNew (p := ⟨D, 1, none⟩) hDle _).setNew (p := ⟨D, 2, none⟩) hDle _).setNew (p := ⟨D, 3, none⟩) hDle _).alloc _
      · have hxb : ([98, 108, 111, 98] == x) = false := by simpa using fun e : [98, 108, 111, 98] = x => hx e.symm
        have hno2 : ∀ j u, j < 0 + 1 → [[98, 108, 111, 98], [99, 111, 109, 109, 105, 116], [116, 97, 103], [114, 101, 115, 101, 116]][j]? = some u → x ≠ u := by
          intro j u hj hu
          by_cases e : j = 0
          · subst e
            simp at hu
            subst hu
            exact hx
          · exact hno j u (by omega) hu
        have HN : Hid (∀ j u, j < 0 + 1 → [[98, 108, 111, 98], [99, 111, 109, 109, 105, 116], [116, 97, 103], [114, 101, 115, 101, 116]][j]? = some u → x ≠ u) := hno2
        clear hno hno2 hx
        go_wp2
        go_roundw
        case rel => exact ⟨0 + 1, by go_num, by omega, HN.out, HK.out.alloc _, hR.alloc _, hT.alloc _⟩
        case measure => simp [intOf]
    · subst hk1
      have t0 := hT.cell 4
      have t1 := hT.cell 5
      have t2 := hT.cell 6
      have t3 := hT.cell 7
      by_cases hx : x = [99, 111, 109, 109, 105, 116]
      · have HE : Hid (rowV x = (.agg #[.string ⟨#[99, 111, 109, 109, 105, 116]⟩, .func (.func 167) #[] #[], .func (.func 168) #[] #[], .func (.func 169) #[] #[]], true)) := by
          show _ = _
          subst hx
          rfl
        subst hx
        clear hno hk
        go_wp2
        refine bodyPost_ret (v := .tuple #[.agg #[.string ⟨#[99, 111, 109, 109, 105, 116]⟩, .func (.func 167) #[] #[], .func (.func 168) #[] #[], .func (.func 169) #[] #[]], .bool true]) (by simp [results, Tryz.results81, go_sem, y0, y1, y2, y3, hDl]) rfl ⟨by rw [HE.out], ?_⟩
        exact ((((HK.out.setNew (p := ⟨D, 0, none⟩) hDle _).setNew (p := ⟨D, 1, none⟩) hDle _).setNew (p := ⟨D, 2, none⟩) hDle _).setNew (p := ⟨D, 3, none⟩) hDle _).alloc _
      · have hxb : ([99, 111, 109, 109, 105, 116] == x) = false := by simpa using fun e : [99, 111, 109, 109, 105, 116] = x => hx e.symm
        have hno2 : ∀ j u, j < 1 + 1 → [[98, 108, 111, 98], [99, 111, 109, 109, 105, 116], [116, 97, 103], [114, 101, 115, 101, 116]][j]? = some u → x ≠ u := by
          intro j u hj hu
          by_cases e : j = 1
          · subst e
            simp at hu
            subst hu
            exact hx
          · exact hno j u (by omega) hu
        have HN : Hid (∀ j u, j < 1 + 1 → [[98, 108, 111, 98], [99, 111, 109, 109, 105, 116], [116, 97, 103], [114, 101, 115, 101, 116]][j]? = some u → x ≠ u) := hno2
        clear hno hno2 hx
        go_wp2
        go_roundw
        case rel => exact ⟨1 + 1, by go_num, by omega, HN.out, HK.out.alloc _, hR.alloc _, hT.alloc _⟩
        case measure => simp [intOf]
    · subst hk2
      have t0 := hT.cell 8
      have t1 := hT.cell 9
      have t2 := hT.cell 10
      have t3 := hT.cell 11
      by_cases hx : x = [116, 97, 103]
      · have HE : Hid (rowV x = (.agg #[.string ⟨#[116, 97, 103]⟩, .func (.func 170) #[] #[], .func (.func 171) #[] #[], .func (.func 172) #[] #[]], true)) := by
          show _ = _
          subst hx
          rfl
        subst hx
        clear hno hk
        go_wp2
        refine bodyPost_ret (v := .tuple #[.agg #[.string ⟨#[116, 97, 103]⟩, .func (.func 170) #[] #[], .func (.func 171) #[] #[], .func (.func 172) #[] #[]], .bool true]) (by simp [results, Tryz.results81, go_sem, y0, y1, y2, y3, hDl]) rfl ⟨by rw [HE.out], ?_⟩
        exact ((((HK.out.setNew (p := ⟨D, 0, none⟩) hDle _).setNew (p := ⟨D, 1, none⟩) hDle _).setNew (p := ⟨D, 2, none⟩) hDle _).setNew (p := ⟨D, 3, none⟩) hDle _).alloc _
      · have hxb : ([116, 97, 103] == x) = false := by simpa using fun e : [116, 97, 103] = x => hx e.symm
        have hno2 : ∀ j u, j < 2 + 1 → [[98, 108, 111, 98], [99, 111, 109, 109, 105, 116], [116, 97, 103], [114, 101, 115, 101, 116]][j]? = some u → x ≠ u := by
          intro j u hj hu
          by_cases e : j = 2
          · subst e
            simp at hu
            subst hu
            exact hx
          · exact hno j u (by omega) hu
        have HN : Hid (∀ j u, j < 2 + 1 → [[98, 108, 111, 98], [99, 111, 109, 109, 105, 116], [116, 97, 103], [114, 101, 115, 101, 116]][j]? = some u → x ≠ u) := hno2
        clear hno hno2 hx
        go_wp2
        go_roundw
        case rel => exact ⟨2 + 1, by go_num, by omega, HN.out, HK.out.alloc _, hR.alloc _, hT.alloc _⟩
        case measure => simp [intOf]
    · subst hk3
      have t0 := hT.cell 12
      have t1 := hT.cell 13
      have t2 := hT.cell 14
      have t3 := hT.cell 15
      by_cases hx : x = [114, 101, 115, 101, 116]
      · have HE : Hid (rowV x = (.agg #[.string ⟨#[114, 101, 115, 101, 116]⟩, .func (.func 173) #[] #[], .func (.func 174) #[] #[], .func (.func 175) #[] #[]], true)) := by
          show _ = _
          subst hx
          rfl
        subst hx
        clear hno hk
        go_wp2
        refine bodyPost_ret (v := .tuple #[.agg #[.string ⟨#[114, 101, 115, 101, 116]⟩, .func (.func 173) #[] #[], .func (.func 174) #[] #[], .func (.func 175) #[] #[]], .bool true]) (by simp [results, Tryz.results81, go_sem, y0, y1, y2, y3, hDl]) rfl ⟨by rw [HE.out], ?_⟩
        exact ((((HK.out.setNew (p := ⟨D, 0, none⟩) hDle _).setNew (p := ⟨D, 1, none⟩) hDle _).setNew (p := ⟨D, 2, none⟩) hDle _).setNew (p := ⟨D, 3, none⟩) hDle _).alloc _
      · have hxb : ([114, 101, 115, 101, 116] == x) = false := by simpa using fun e : [114, 101, 115, 101, 116] = x => hx e.symm
        have hno2 : ∀ j u, j < 3 + 1 → [[98, 108, 111, 98], [99, 111, 109, 109, 105, 116], [116, 97, 103], [114, 101, 115, 101, 116]][j]? = some u → x ≠ u := by
          intro j u hj hu
          by_cases e : j = 3
          · subst e
            simp at hu
            subst hu
            exact hx
          · exact hno j u (by omega) hu
        have HN : Hid (∀ j u, j < 3 + 1 → [[98, 108, 111, 98], [99, 111, 109, 109, 105, 116], [116, 97, 103], [114, 101, 115, 101, 116]][j]? = some u → x ≠ u) := hno2
        clear hno hno2 hx
        go_wp2
        go_roundw
        case rel => exact ⟨3 + 1, by go_num, by omega, HN.out, HK.out.alloc _, hR.alloc _, hT.alloc _⟩
        case measure => simp [intOf]
    · subst hk4
      have HE : Hid (rowV x = (.agg #[.string ⟨#[]⟩, .nilFunc, .nilFunc, .nilFunc], false)) := by
        show _ = _
        unfold rowV
        rw [if_neg (hno 0 _ (by omega) rfl), if_neg (hno 1 _ (by omega) rfl), if_neg (hno 2 _ (by omega) rfl), if_neg (hno 3 _ (by omega) rfl)]
      clear hno hk
      go_wp2
      refine bodyPost_ret (v := .tuple #[.agg #[.string ⟨#[]⟩, .nilFunc, .nilFunc, .nilFunc], .bool false]) (by simp [results, Tryz.results81, go_sem, y0, y1, y2, y3]) rfl ⟨by rw [HE.out], ?_⟩
      exact (((HK.out.setNew (p := ⟨D, 0, none⟩) hDle _).setNew (p := ⟨D, 1, none⟩) hDle _).setNew (p := ⟨D, 2, none⟩) hDle _).setNew (p := ⟨D, 3, none⟩) hDle _

end Go.Proofs.YtepgoppgblfjbaaGreatDoor
