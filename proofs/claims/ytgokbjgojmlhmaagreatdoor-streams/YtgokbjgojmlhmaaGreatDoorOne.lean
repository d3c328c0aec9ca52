/- word, table, readOne. -/
import Derived.Test.YtgokbjgojmlhmaaGreatDoorCommit
import Derived.Laws.EntriesVeiled
namespace Go.Proofs.YtgokbjgojmlhmaaGreatDoor
open Go.RowKit

set_option maxHeartbeats 400000 in
theorem word_any (b : Nat) (s : List UInt8) (bad : Bool) (w : World) (h : Rd b s bad w) :
    Calls Tryz.prog 67 #[.pointer (some ⟨b, 0, none⟩)] w fun e w' => e = .returned (.string ⟨(Pu.word s).toArray⟩) ∧ ∃ n, w' = w.drewN n := by
  obtain ⟨c0, c1, f0, f1, pos, ⟨m, hm⟩, short⟩ := h
  have hl := (Pu.cut_lens s [10]).1
  have HE : Hid (Pu.word s = (Lib.cut (Lib.cut s [10]).1 [32]).1) := rfl
  go_enter Tryz.func67, Tryz.ntmps67
  go_wp2_with fail
  refine (cut_any s [10] m _ short hm).mono ?_
  rintro e w1 ⟨rfl, n, rfl⟩
  generalize Lib.cut s [10] = x at *
  obtain ⟨x0, x1, x2⟩ := x
  go_wp2_with fail
  refine (cut_any x0 [32] m _ (by omega) (by exact hm)).mono ?_
  rintro e w2 ⟨rfl, n2, rfl⟩
  generalize Lib.cut x0 [32] = y at *
  obtain ⟨y0, y1, y2⟩ := y
  go_wp2
  go_ret
  exact ⟨by rw [HE.out]; rfl, n + n2, by simp⟩

/-- What the table's making leaves. -/
structure Tbl (w w' : World) : Prop where
  size : w'.heap.size = w.heap.size + 1
  tbl : Cb w.heap.size #[.string ⟨#[98, 108, 111, 98]⟩, .func (.func 113) #[] #[], .string ⟨#[99, 111, 109, 109, 105, 116]⟩, .func (.func 114) #[] #[], .string ⟨#[116, 97, 103]⟩, .func (.func 115) #[] #[], .string ⟨#[114, 101, 115, 101, 116]⟩, .func (.func 116) #[] #[]] 177 w'
  kx : ∀ X, Kx X w w'

set_option maxHeartbeats 400000 in
theorem table_any (w : World) :
    Calls Tryz.prog 96 #[] w fun e w' => e = .returned (.slice (some ⟨w.heap.size, 0, none⟩) 4 4) ∧ Tbl w w' := by
  go_enter Tryz.func96, Tryz.ntmps96
  go_wp2
  go_ret
  exact ⟨rfl, by simp, Cb.new _ _ _, fun X => (Kx.refl X w).alloc _⟩

theorem Cm.new (w : World) : Cm w.heap.size (w.alloc (.cells #[.string ⟨#[]⟩, .string ⟨#[]⟩, .int .i64 0, .string ⟨#[]⟩, .string ⟨#[]⟩, .int .i64 0, .string ⟨#[]⟩, .int .i64 0, .string ⟨#[]⟩, .slice none 0 0, .slice none 0 0] 153)) :=
  ⟨_, _, _, _, _, _, _, _, _, _, _, _, _, _, _, Cb.new _ _ _⟩

theorem Cm.newAt (w : World) (o : Obj) (x : ByteArray) : Cm (w.heap.size + 1) ((w.alloc o).alloc (.cells #[.string x, .string ⟨#[]⟩, .int .i64 0, .string ⟨#[]⟩, .string ⟨#[]⟩, .int .i64 0, .string ⟨#[]⟩, .int .i64 0, .string ⟨#[]⟩, .slice none 0 0, .slice none 0 0] 153)) := by
  have h := Cb.new #[.string x, .string ⟨#[]⟩, .int .i64 0, .string ⟨#[]⟩, .string ⟨#[]⟩, .int .i64 0, .string ⟨#[]⟩, .int .i64 0, .string ⟨#[]⟩, .slice none 0 0, .slice none 0 0] 153 (w.alloc o)
  rw [World.size_alloc] at h
  exact ⟨_, _, _, _, _, _, _, _, _, _, _, _, _, _, _, h⟩

theorem Cm.kept {k : Nat} {X : Nat → Prop} {w w' : World} (h : Cm k w) (hk : Kx X w w') (hx : ¬ X k) : Cm k w' := by
  obtain ⟨a0, a1, a2, a3, a4, a5, a6, a7, a8, a9, n9, c9, a10, n10, c10, h⟩ := h
  exact ⟨_, _, _, _, _, _, _, _, _, _, _, _, _, _, _, h.kept hk hx⟩

theorem Cm.alloc {k : Nat} {w : World} (h : Cm k w) (o : Obj) : Cm k (w.alloc o) :=
  h.kept (X := fun _ => False) ((Kx.refl _ _).alloc o) id

theorem Kx.trans' {X Y : Nat → Prop} {a c d : World} (h : Kx X a c) (k : Kx Y c d) (hXY : ∀ j, j < a.heap.size → Y j → X j) : Kx X a d :=
  ⟨k.os.trans h.os, k.tape.trans h.tape, k.output.trans h.output, Nat.le_trans h.size k.size,
   fun i hi hx => (k.block i (Nat.lt_of_lt_of_le hi h.size) (fun y => hx (hXY i hi y))).trans (h.block i hi hx)⟩

/-- A command as a value. -/
def IsCmd (v : Value) : Prop := ∃ (a0 a1 : ByteArray) (a2 : Int) (a3 a4 : ByteArray) (a5 : Int) (a6 : ByteArray) (a7 : Int) (a8 : ByteArray) (a9 : Option Addr) (n9 c9 : Nat) (a10 : Option Addr) (n10 c10 : Nat), v = .agg #[.string a0, .string a1, .int .i64 a2, .string a3, .string a4, .int .i64 a5, .string a6, .int .i64 a7, .string a8, .slice a9 n9 c9, .slice a10 n10 c10]

set_option maxHeartbeats 4000000 in
set_option maxRecDepth 100000 in
theorem readOne_any (b : Nat) (s : List UInt8) (bad : Bool) (w : World) (h : Rd b s bad w) :
    Calls Tryz.prog 69 #[.pointer (some ⟨b, 0, none⟩)] w fun e w' => (∃ v, IsCmd v ∧ e = .returned v) ∧ Rd b (Pu.readOne s bad).1 (Pu.readOne s bad).2 w' ∧ Kx (Only b) w w' := by
  have hb := h.lt
  have h1 := h.alloc (.cells #[.string ⟨#[]⟩, .string ⟨#[]⟩, .int .i64 0, .string ⟨#[]⟩, .string ⟨#[]⟩, .int .i64 0, .string ⟨#[]⟩, .int .i64 0, .string ⟨#[]⟩, .slice none 0 0, .slice none 0 0] 153)
  have hm := Cm.new w
  have hx1 := (Kx.refl (Only b) w).alloc (.cells #[.string ⟨#[]⟩, .string ⟨#[]⟩, .int .i64 0, .string ⟨#[]⟩, .string ⟨#[]⟩, .int .i64 0, .string ⟨#[]⟩, .int .i64 0, .string ⟨#[]⟩, .slice none 0 0, .slice none 0 0] 153)
  have hz1 : (w.alloc (.cells #[.string ⟨#[]⟩, .string ⟨#[]⟩, .int .i64 0, .string ⟨#[]⟩, .string ⟨#[]⟩, .int .i64 0, .string ⟨#[]⟩, .int .i64 0, .string ⟨#[]⟩, .slice none 0 0, .slice none 0 0] 153)).heap.size = w.heap.size + 1 := by simp
  go_enter Tryz.func69, Tryz.ntmps69
  go_wp2_with fail
  refine (word_any b s bad _ h1).mono ?_
  rintro e w1 ⟨rfl, n, rfl⟩
  obtain ⟨x, HW⟩ : ∃ x, Hid (Pu.word s = x) := ⟨_, rfl⟩
  rw [HW.out]
  go_wp2_with fail
  refine (table_any _).mono ?_
  rintro e W ⟨rfl, hW⟩
  have hr0 : Rd b s bad W := (h1.drewN n).kept (hW.kx (fun _ => False)) id id
  have hR0 : Cm w.heap.size W := (hm.kept (X := fun _ => False) ((Kx.refl _ _).drewN n) id).kept (hW.kx (fun _ => False)) id
  have hk0 : Kx (Only b) w W := (hx1.drewN n).trans (hW.kx _)
  have hT0 : Cb (w.heap.size + 1) #[.string ⟨#[98, 108, 111, 98]⟩, .func (.func 113) #[] #[], .string ⟨#[99, 111, 109, 109, 105, 116]⟩, .func (.func 114) #[] #[], .string ⟨#[116, 97, 103]⟩, .func (.func 115) #[] #[], .string ⟨#[114, 101, 115, 101, 116]⟩, .func (.func 116) #[] #[]] 177 W := by have := hW.tbl; simpa using this
  clear hW h1 hm hx1 hz1
  go_wp2
  go_loopw [11] (fun iv w' => ∃ k : Nat, iv = .int .i64 k ∧ k ≤ 4 ∧ (∀ j u, j < k → [[98, 108, 111, 98], [99, 111, 109, 109, 105, 116], [116, 97, 103], [114, 101, 115, 101, 116]][j]? = some u → x ≠ u) ∧ Rd b s bad w' ∧ Cm w.heap.size w' ∧ Kx (Only b) w w' ∧ Cb (w.heap.size + 1) #[.string ⟨#[98, 108, 111, 98]⟩, .func (.func 113) #[] #[], .string ⟨#[99, 111, 109, 109, 105, 116]⟩, .func (.func 114) #[] #[], .string ⟨#[116, 97, 103]⟩, .func (.func 115) #[] #[], .string ⟨#[114, 101, 115, 101, 116]⟩, .func (.func 116) #[] #[]] 177 w') (fun iv _ => 4 - (intOf iv).toNat)
  case atStart => exact ⟨0, rfl, by omega, fun j u hj => absurd hj (by omega), hr0, hR0, hk0, hT0⟩
  case round =>
    clear hr0 hR0 hk0 hT0
    obtain ⟨k, rfl, hk4, hno, hr, hR, hk, hT⟩ := hrel
    have HK : Hid (Kx (Only b) w wr) := hk
    have hsz := hT.lt
    have hcase : k = 0 ∨ k = 1 ∨ k = 2 ∨ k = 3 ∨ k = 4 := by omega
    rcases hcase with hk0 | hk1 | hk2 | hk3 | hk4
    · subst hk0
      have t0 := hT.cell 0
      have t1 := hT.cell 1
      by_cases hx : x = [98, 108, 111, 98]
      · have HE : Hid (Pu.readOne s bad = Pu.readBlob s bad) := by
          show _ = _
          unfold Pu.readOne
          rw [HW.out, hx]
          rfl
        subst hx
        clear hno hk
        go_wp2_with fail
        refine (readBlob_any b (wr.heap.size + 1) s bad _ ((hr.alloc _).alloc _) (by omega) (Cm.newAt _ _ _)).mono ?_
        rintro e w2 ⟨rfl, hr2, hC2, hk2⟩
        have hR2 := ((hR.alloc _).alloc _).kept hk2 (by unfold Two; omega)
        have hk6 := ((HK.out.alloc _).alloc _).trans' hk2 (fun j hj hy => hy.elim id (fun e => absurd e (by omega)))
        clear hk2 hT hR hr t0 t1
        obtain ⟨a0, a1, a2, a3, a4, a5, a6, a7, a8, a9, n9, c9, a10, n10, c10, hCb⟩ := hC2
        obtain ⟨a0p, a1p, a2p, a3p, a4p, a5p, a6p, a7p, a8p, a9p, n9p, c9p, a10p, n10p, c10p, hRb⟩ := hR2
        have x0 := hCb.cell 0
        have x1 := hCb.cell 1
        have x2 := hCb.cell 2
        have x3 := hCb.cell 3
        have x4 := hCb.cell 4
        have x5 := hCb.cell 5
        have x6 := hCb.cell 6
        have x7 := hCb.cell 7
        have x8 := hCb.cell 8
        have x9 := hCb.cell 9
        have x10 := hCb.cell 10
        have y0 := hRb.cell 0
        have y1 := hRb.cell 1
        have y2 := hRb.cell 2
        have y3 := hRb.cell 3
        have y4 := hRb.cell 4
        have y5 := hRb.cell 5
        have y6 := hRb.cell 6
        have y7 := hRb.cell 7
        have y8 := hRb.cell 8
        have y9 := hRb.cell 9
        have y10 := hRb.cell 10
        have fy := hRb.frozen
        clear hCb hRb
        go_wp2
        refine bodyPost_ret (v := .agg #[.string a0, .string a1, .int .i64 a2, .string a3, .string a4, .int .i64 a5, .string a6, .int .i64 a7, .string a8, .slice a9 n9 c9, .slice a10 n10 c10]) (by simp [results, Tryz.results69, go_sem, y0, y1, y2, y3, y4, y5, y6, y7, y8, y9, y10]) rfl ⟨⟨_, ⟨_, _, _, _, _, _, _, _, _, _, _, _, _, _, _, rfl⟩, rfl⟩, ?_, ?_⟩
        · rw [HE.out]
          exact (((((((((((hr2).setNew hb _).setNew hb _).setNew hb _).setNew hb _).setNew hb _).setNew hb _).setNew hb _).setNew hb _).setNew hb _).setNew hb _).setNew hb _
        · exact (((((((((((hk6).setNew (Nat.le_refl _) _).setNew (Nat.le_refl _) _).setNew (Nat.le_refl _) _).setNew (Nat.le_refl _) _).setNew (Nat.le_refl _) _).setNew (Nat.le_refl _) _).setNew (Nat.le_refl _) _).setNew (Nat.le_refl _) _).setNew (Nat.le_refl _) _).setNew (Nat.le_refl _) _).setNew (Nat.le_refl _) _
      · have hxb : ([98, 108, 111, 98] == x) = false := by simpa using fun e : [98, 108, 111, 98] = x => hx e.symm
        have hno2 : ∀ j u, j < 0 + 1 → [[98, 108, 111, 98], [99, 111, 109, 109, 105, 116], [116, 97, 103], [114, 101, 115, 101, 116]][j]? = some u → x ≠ u := by
          intro j u hj hu
          by_cases e : j = 0
          · subst e
            simp at hu
            subst hu
            exact hx
          · exact hno j u (by omega) hu
        have HN : Hid (∀ j u, j < 0 + 1 → [[98, 108, 111, 98], [99, 111, 109, 109, 105, 116], [116, 97, 103], [114, 101, 115, 101, 116]][j]? = some u → x ≠ u) := hno2
        clear hno hno2 hx
        go_wp2
        go_roundw
        case rel => exact ⟨0 + 1, by go_num, by omega, HN.out, hr.alloc _, hR.alloc _, HK.out.alloc _, hT.alloc _⟩
        case measure => simp [intOf]
    · subst hk1
      have t0 := hT.cell 2
      have t1 := hT.cell 3
      by_cases hx : x = [99, 111, 109, 109, 105, 116]
      · have HE : Hid (Pu.readOne s bad = Pu.readCommit s bad) := by
          show _ = _
          unfold Pu.readOne
          rw [HW.out, hx]
          rfl
        subst hx
        clear hno hk
        go_wp2_with fail
        refine (readCommit_any b (wr.heap.size + 1) s bad _ ((hr.alloc _).alloc _) (by omega) (Cm.newAt _ _ _)).mono ?_
        rintro e w2 ⟨rfl, hr2, hC2, hk2⟩
        have hR2 := ((hR.alloc _).alloc _).kept hk2 (by unfold Two; omega)
        have hk6 := ((HK.out.alloc _).alloc _).trans' hk2 (fun j hj hy => hy.elim id (fun e => absurd e (by omega)))
        clear hk2 hT hR hr t0 t1
        obtain ⟨a0, a1, a2, a3, a4, a5, a6, a7, a8, a9, n9, c9, a10, n10, c10, hCb⟩ := hC2
        obtain ⟨a0p, a1p, a2p, a3p, a4p, a5p, a6p, a7p, a8p, a9p, n9p, c9p, a10p, n10p, c10p, hRb⟩ := hR2
        have x0 := hCb.cell 0
        have x1 := hCb.cell 1
        have x2 := hCb.cell 2
        have x3 := hCb.cell 3
        have x4 := hCb.cell 4
        have x5 := hCb.cell 5
        have x6 := hCb.cell 6
        have x7 := hCb.cell 7
        have x8 := hCb.cell 8
        have x9 := hCb.cell 9
        have x10 := hCb.cell 10
        have y0 := hRb.cell 0
        have y1 := hRb.cell 1
        have y2 := hRb.cell 2
        have y3 := hRb.cell 3
        have y4 := hRb.cell 4
        have y5 := hRb.cell 5
        have y6 := hRb.cell 6
        have y7 := hRb.cell 7
        have y8 := hRb.cell 8
        have y9 := hRb.cell 9
        have y10 := hRb.cell 10
        have fy := hRb.frozen
        clear hCb hRb
        go_wp2
        refine bodyPost_ret (v := .agg #[.string a0, .string a1, .int .i64 a2, .string a3, .string a4, .int .i64 a5, .string a6, .int .i64 a7, .string a8, .slice a9 n9 c9, .slice a10 n10 c10]) (by simp [results, Tryz.results69, go_sem, y0, y1, y2, y3, y4, y5, y6, y7, y8, y9, y10]) rfl ⟨⟨_, ⟨_, _, _, _, _, _, _, _, _, _, _, _, _, _, _, rfl⟩, rfl⟩, ?_, ?_⟩
        · rw [HE.out]
          exact (((((((((((hr2).setNew hb _).setNew hb _).setNew hb _).setNew hb _).setNew hb _).setNew hb _).setNew hb _).setNew hb _).setNew hb _).setNew hb _).setNew hb _
        · exact (((((((((((hk6).setNew (Nat.le_refl _) _).setNew (Nat.le_refl _) _).setNew (Nat.le_refl _) _).setNew (Nat.le_refl _) _).setNew (Nat.le_refl _) _).setNew (Nat.le_refl _) _).setNew (Nat.le_refl _) _).setNew (Nat.le_refl _) _).setNew (Nat.le_refl _) _).setNew (Nat.le_refl _) _).setNew (Nat.le_refl _) _
      · have hxb : ([99, 111, 109, 109, 105, 116] == x) = false := by simpa using fun e : [99, 111, 109, 109, 105, 116] = x => hx e.symm
        have hno2 : ∀ j u, j < 1 + 1 → [[98, 108, 111, 98], [99, 111, 109, 109, 105, 116], [116, 97, 103], [114, 101, 115, 101, 116]][j]? = some u → x ≠ u := by
          intro j u hj hu
          by_cases e : j = 1
          · subst e
            simp at hu
            subst hu
            exact hx
          · exact hno j u (by omega) hu
        have HN : Hid (∀ j u, j < 1 + 1 → [[98, 108, 111, 98], [99, 111, 109, 109, 105, 116], [116, 97, 103], [114, 101, 115, 101, 116]][j]? = some u → x ≠ u) := hno2
        clear hno hno2 hx
        go_wp2
        go_roundw
        case rel => exact ⟨1 + 1, by go_num, by omega, HN.out, hr.alloc _, hR.alloc _, HK.out.alloc _, hT.alloc _⟩
        case measure => simp [intOf]
    · subst hk2
      have t0 := hT.cell 4
      have t1 := hT.cell 5
      by_cases hx : x = [116, 97, 103]
      · have HE : Hid (Pu.readOne s bad = Pu.readTag s bad) := by
          show _ = _
          unfold Pu.readOne
          rw [HW.out, hx]
          rfl
        subst hx
        clear hno hk
        go_wp2_with fail
        refine (readTag_any b (wr.heap.size + 1) s bad _ ((hr.alloc _).alloc _) (by omega) (Cm.newAt _ _ _)).mono ?_
        rintro e w2 ⟨rfl, hr2, hC2, hk2⟩
        have hR2 := ((hR.alloc _).alloc _).kept hk2 (by unfold Two; omega)
        have hk6 := ((HK.out.alloc _).alloc _).trans' hk2 (fun j hj hy => hy.elim id (fun e => absurd e (by omega)))
        clear hk2 hT hR hr t0 t1
        obtain ⟨a0, a1, a2, a3, a4, a5, a6, a7, a8, a9, n9, c9, a10, n10, c10, hCb⟩ := hC2
        obtain ⟨a0p, a1p, a2p, a3p, a4p, a5p, a6p, a7p, a8p, a9p, n9p, c9p, a10p, n10p, c10p, hRb⟩ := hR2
        have x0 := hCb.cell 0
        have x1 := hCb.cell 1
        have x2 := hCb.cell 2
        have x3 := hCb.cell 3
        have x4 := hCb.cell 4
        have x5 := hCb.cell 5
        have x6 := hCb.cell 6
        have x7 := hCb.cell 7
        have x8 := hCb.cell 8
        have x9 := hCb.cell 9
        have x10 := hCb.cell 10
        have y0 := hRb.cell 0
        have y1 := hRb.cell 1
        have y2 := hRb.cell 2
        have y3 := hRb.cell 3
        have y4 := hRb.cell 4
        have y5 := hRb.cell 5
        have y6 := hRb.cell 6
        have y7 := hRb.cell 7
        have y8 := hRb.cell 8
        have y9 := hRb.cell 9
        have y10 := hRb.cell 10
        have fy := hRb.frozen
        clear hCb hRb
        go_wp2
        refine bodyPost_ret (v := .agg #[.string a0, .string a1, .int .i64 a2, .string a3, .string a4, .int .i64 a5, .string a6, .int .i64 a7, .string a8, .slice a9 n9 c9, .slice a10 n10 c10]) (by simp [results, Tryz.results69, go_sem, y0, y1, y2, y3, y4, y5, y6, y7, y8, y9, y10]) rfl ⟨⟨_, ⟨_, _, _, _, _, _, _, _, _, _, _, _, _, _, _, rfl⟩, rfl⟩, ?_, ?_⟩
        · rw [HE.out]
          exact (((((((((((hr2).setNew hb _).setNew hb _).setNew hb _).setNew hb _).setNew hb _).setNew hb _).setNew hb _).setNew hb _).setNew hb _).setNew hb _).setNew hb _
        · exact (((((((((((hk6).setNew (Nat.le_refl _) _).setNew (Nat.le_refl _) _).setNew (Nat.le_refl _) _).setNew (Nat.le_refl _) _).setNew (Nat.le_refl _) _).setNew (Nat.le_refl _) _).setNew (Nat.le_refl _) _).setNew (Nat.le_refl _) _).setNew (Nat.le_refl _) _).setNew (Nat.le_refl _) _).setNew (Nat.le_refl _) _
      · have hxb : ([116, 97, 103] == x) = false := by simpa using fun e : [116, 97, 103] = x => hx e.symm
        have hno2 : ∀ j u, j < 2 + 1 → [[98, 108, 111, 98], [99, 111, 109, 109, 105, 116], [116, 97, 103], [114, 101, 115, 101, 116]][j]? = some u → x ≠ u := by
          intro j u hj hu
          by_cases e : j = 2
          · subst e
            simp at hu
            subst hu
            exact hx
          · exact hno j u (by omega) hu
        have HN : Hid (∀ j u, j < 2 + 1 → [[98, 108, 111, 98], [99, 111, 109, 109, 105, 116], [116, 97, 103], [114, 101, 115, 101, 116]][j]? = some u → x ≠ u) := hno2
        clear hno hno2 hx
        go_wp2
        go_roundw
        case rel => exact ⟨2 + 1, by go_num, by omega, HN.out, hr.alloc _, hR.alloc _, HK.out.alloc _, hT.alloc _⟩
        case measure => simp [intOf]
    · subst hk3
      have t0 := hT.cell 6
      have t1 := hT.cell 7
      by_cases hx : x = [114, 101, 115, 101, 116]
      · have HE : Hid (Pu.readOne s bad = Pu.readReset s bad) := by
          show _ = _
          unfold Pu.readOne
          rw [HW.out, hx]
          rfl
        subst hx
        clear hno hk
        go_wp2_with fail
        refine (readReset_any b (wr.heap.size + 1) s bad _ ((hr.alloc _).alloc _) (by omega) (Cm.newAt _ _ _)).mono ?_
        rintro e w2 ⟨rfl, hr2, hC2, hk2⟩
        have hR2 := ((hR.alloc _).alloc _).kept hk2 (by unfold Two; omega)
        have hk6 := ((HK.out.alloc _).alloc _).trans' hk2 (fun j hj hy => hy.elim id (fun e => absurd e (by omega)))
        clear hk2 hT hR hr t0 t1
        obtain ⟨a0, a1, a2, a3, a4, a5, a6, a7, a8, a9, n9, c9, a10, n10, c10, hCb⟩ := hC2
        obtain ⟨a0p, a1p, a2p, a3p, a4p, a5p, a6p, a7p, a8p, a9p, n9p, c9p, a10p, n10p, c10p, hRb⟩ := hR2
        have x0 := hCb.cell 0
        have x1 := hCb.cell 1
        have x2 := hCb.cell 2
        have x3 := hCb.cell 3
        have x4 := hCb.cell 4
        have x5 := hCb.cell 5
        have x6 := hCb.cell 6
        have x7 := hCb.cell 7
        have x8 := hCb.cell 8
        have x9 := hCb.cell 9
        have x10 := hCb.cell 10
        have y0 := hRb.cell 0
        have y1 := hRb.cell 1
        have y2 := hRb.cell 2
        have y3 := hRb.cell 3
        have y4 := hRb.cell 4
        have y5 := hRb.cell 5
        have y6 := hRb.cell 6
        have y7 := hRb.cell 7
        have y8 := hRb.cell 8
        have y9 := hRb.cell 9
        have y10 := hRb.cell 10
        have fy := hRb.frozen
        clear hCb hRb
        go_wp2
        refine bodyPost_ret (v := .agg #[.string a0, .string a1, .int .i64 a2, .string a3, .string a4, .int .i64 a5, .string a6, .int .i64 a7, .string a8, .slice a9 n9 c9, .slice a10 n10 c10]) (by simp [results, Tryz.results69, go_sem, y0, y1, y2, y3, y4, y5, y6, y7, y8, y9, y10]) rfl ⟨⟨_, ⟨_, _, _, _, _, _, _, _, _, _, _, _, _, _, _, rfl⟩, rfl⟩, ?_, ?_⟩
        · rw [HE.out]
          exact (((((((((((hr2).setNew hb _).setNew hb _).setNew hb _).setNew hb _).setNew hb _).setNew hb _).setNew hb _).setNew hb _).setNew hb _).setNew hb _).setNew hb _
        · exact (((((((((((hk6).setNew (Nat.le_refl _) _).setNew (Nat.le_refl _) _).setNew (Nat.le_refl _) _).setNew (Nat.le_refl _) _).setNew (Nat.le_refl _) _).setNew (Nat.le_refl _) _).setNew (Nat.le_refl _) _).setNew (Nat.le_refl _) _).setNew (Nat.le_refl _) _).setNew (Nat.le_refl _) _).setNew (Nat.le_refl _) _
      · have hxb : ([114, 101, 115, 101, 116] == x) = false := by simpa using fun e : [114, 101, 115, 101, 116] = x => hx e.symm
        have hno2 : ∀ j u, j < 3 + 1 → [[98, 108, 111, 98], [99, 111, 109, 109, 105, 116], [116, 97, 103], [114, 101, 115, 101, 116]][j]? = some u → x ≠ u := by
          intro j u hj hu
          by_cases e : j = 3
          · subst e
            simp at hu
            subst hu
            exact hx
          · exact hno j u (by omega) hu
        have HN : Hid (∀ j u, j < 3 + 1 → [[98, 108, 111, 98], [99, 111, 109, 109, 105, 116], [116, 97, 103], [114, 101, 115, 101, 116]][j]? = some u → x ≠ u) := hno2
        clear hno hno2 hx
        go_wp2
        go_roundw
        case rel => exact ⟨3 + 1, by go_num, by omega, HN.out, hr.alloc _, hR.alloc _, HK.out.alloc _, hT.alloc _⟩
        case measure => simp [intOf]
    · subst hk4
      have HE : Hid (Pu.readOne s bad = ([], true)) := by
        show _ = _
        have n0 := hno 0 _ (by omega) rfl
        have n1 := hno 1 _ (by omega) rfl
        have n2 := hno 2 _ (by omega) rfl
        have n3 := hno 3 _ (by omega) rfl
        have e0 : (x == Pu.sBlob) = false := beq_eq_false_iff_ne.2 n0
        have e1 : (x == Pu.sCommit) = false := beq_eq_false_iff_ne.2 n1
        have e2 : (x == Pu.sTag) = false := beq_eq_false_iff_ne.2 n2
        have e3 : (x == Pu.sReset) = false := beq_eq_false_iff_ne.2 n3
        unfold Pu.readOne
        rw [HW.out, e0, e1, e2, e3]
        rfl
      clear hno hk
      go_wp2_with fail
      refine (fail_any b s bad _ hr).mono ?_
      rintro e w2 ⟨rfl, hr2, hk2⟩
      have hR2 := hR.only hk2 hb
      have hk6 := HK.out.trans hk2
      clear hk2 hT hR hr
      obtain ⟨a0p, a1p, a2p, a3p, a4p, a5p, a6p, a7p, a8p, a9p, n9p, c9p, a10p, n10p, c10p, hRb⟩ := hR2
      have y0 := hRb.cell 0
      have y1 := hRb.cell 1
      have y2 := hRb.cell 2
      have y3 := hRb.cell 3
      have y4 := hRb.cell 4
      have y5 := hRb.cell 5
      have y6 := hRb.cell 6
      have y7 := hRb.cell 7
      have y8 := hRb.cell 8
      have y9 := hRb.cell 9
      have y10 := hRb.cell 10
      have fy := hRb.frozen
      clear hRb
      go_wp2
      refine bodyPost_ret (v := .agg #[.string ⟨#[]⟩, .string ⟨#[]⟩, .int .i64 0, .string ⟨#[]⟩, .string ⟨#[]⟩, .int .i64 0, .string ⟨#[]⟩, .int .i64 0, .string ⟨#[]⟩, .slice none 0 0, .slice none 0 0]) (by simp [results, Tryz.results69, go_sem, y0, y1, y2, y3, y4, y5, y6, y7, y8, y9, y10]) rfl ⟨⟨_, ⟨_, _, _, _, _, _, _, _, _, _, _, _, _, _, _, rfl⟩, rfl⟩, ?_, ?_⟩
      · rw [HE.out]
        exact (((((((((((hr2).setNew hb _).setNew hb _).setNew hb _).setNew hb _).setNew hb _).setNew hb _).setNew hb _).setNew hb _).setNew hb _).setNew hb _).setNew hb _
      · exact (((((((((((hk6).setNew (Nat.le_refl _) _).setNew (Nat.le_refl _) _).setNew (Nat.le_refl _) _).setNew (Nat.le_refl _) _).setNew (Nat.le_refl _) _).setNew (Nat.le_refl _) _).setNew (Nat.le_refl _) _).setNew (Nat.le_refl _) _).setNew (Nat.le_refl _) _).setNew (Nat.le_refl _) _).setNew (Nat.le_refl _) _

end Go.Proofs.YtgokbjgojmlhmaaGreatDoor
