import Derived.Test.YtepgoppgblfjbaaGreatDoorGw15
namespace Go.Proofs.YtepgoppgblfjbaaGreatDoor
open Go.RowKit

theorem Lst.own {M : Nat → Prop} {w w' : World} {base : Nat} {v : Value} {l : List Fi} (hM : ∀ k, M k → k < w.heap.size) (hb : w.heap.size ≤ base) (ho : w'.ownsRow base 114 3 v l.length (cellsF l)) (hok : FOk l) : ∃ a c, v = .slice a l.length c ∧ Lst M w' v l := by
  have hf := Fs.of_own ho
  have hf' := hf
  obtain ⟨q, c, rfl, _⟩ := hf'
  refine ⟨q, c, rfl, hf, hok, fun k e => ?_⟩
  have h1 := ho.lt k e
  exact ⟨fun m => by have := hM k m; omega, h1.2⟩

theorem change1_M (W : Wk) (l : List Fi) (c : Pu.Ch) (h : c.word = [77]) : Pd.change1 Sh.K W l c = match (conR W c).1 with | some s => (Pf.putE ⟨c.path, c.mode, s⟩ l, (conR W c).2, Pf.put ⟨c.path, c.mode, s⟩ l) | none => (4, (conR W c).2, l) := by
  unfold Pd.change1 conR
  rw [if_pos h]
  split
  · rfl
  · cases W.ms c.mark with
    | none => rfl
    | some m => cases m <;> rfl

def ChR (M : Nat → Prop) (w' : World) (r : Int × Wk × List Fi) (e : Ending) : Prop :=
  ∃ v', e = .returned (.tuple #[v', .int .i64 r.1]) ∧ (r.1 = 0 → ∃ a c, v' = .slice a r.2.2.length c ∧ Lst M w' v' r.2.2)

set_option maxHeartbeats 1600000 in
set_option maxRecDepth 100000 in
theorem changeM_any {M : Nat → Prop} {w : World} {B : Bl} {n : Nat} {S : St} {W : Wk} (h : Wrk M w B n S W) (hn : n < maxLen) (c : Pu.Ch) (hc : ChOk c) (hw : c.word = [77]) (l : List Fi) (al : Option Addr) (cl : Nat) (hl : Lst M w (.slice al l.length cl) l) :
    Calls Tryz.prog 296 #[.pointer (some ⟨B.q, 0, none⟩), .slice al l.length cl, .agg (chC c)] w fun e w' => ChR M w' (Pd.change1 Sh.K W l c) e ∧ Wrk M w' B (n + 1) S (Pd.change1 Sh.K W l c).2.1 ∧ Kx (Only B.mo) w w' := by
  rw [change1_M W l c hw]
  obtain ⟨word, mode, mark, data, path, tto⟩ := c
  obtain rfl : word = [77] := hw
  have hA := (Kx.refl (fun _ => False) w).alloc (.cells #[.string ⟨#[77]⟩, .string ⟨mode.toArray⟩, .int .i64 mark, .string ⟨data.toArray⟩, .string ⟨path.toArray⟩, .string ⟨tto.toArray⟩] 332)
  have hbx := Cb.new #[.string ⟨#[77]⟩, .string ⟨mode.toArray⟩, .int .i64 mark, .string ⟨data.toArray⟩, .string ⟨path.toArray⟩, .string ⟨tto.toArray⟩] 332 w
  have hcon := contentW_any (h.kept hA) hn ⟨[77], mode, mark, data, path, tto⟩ hc
  obtain ⟨_, hmo, hda, hpa, hto⟩ := hc
  simp only at *
  unfold chC at *
  simp only at *
  have b0 : (w.alloc (.cells #[.string ⟨#[77]⟩, .string ⟨mode.toArray⟩, .int .i64 mark, .string ⟨data.toArray⟩, .string ⟨path.toArray⟩, .string ⟨tto.toArray⟩] 332)).cell? ⟨w.heap.size, 0, none⟩ = some (.string ⟨#[77]⟩) := Cb.cell hbx 0
  have b1 : (w.alloc (.cells #[.string ⟨#[77]⟩, .string ⟨mode.toArray⟩, .int .i64 mark, .string ⟨data.toArray⟩, .string ⟨path.toArray⟩, .string ⟨tto.toArray⟩] 332)).cell? ⟨w.heap.size, 1, none⟩ = some (.string ⟨mode.toArray⟩) := Cb.cell hbx 1
  have b2 : (w.alloc (.cells #[.string ⟨#[77]⟩, .string ⟨mode.toArray⟩, .int .i64 mark, .string ⟨data.toArray⟩, .string ⟨path.toArray⟩, .string ⟨tto.toArray⟩] 332)).cell? ⟨w.heap.size, 2, none⟩ = some (.int .i64 mark) := Cb.cell hbx 2
  have b3 : (w.alloc (.cells #[.string ⟨#[77]⟩, .string ⟨mode.toArray⟩, .int .i64 mark, .string ⟨data.toArray⟩, .string ⟨path.toArray⟩, .string ⟨tto.toArray⟩] 332)).cell? ⟨w.heap.size, 3, none⟩ = some (.string ⟨data.toArray⟩) := Cb.cell hbx 3
  have b4 : (w.alloc (.cells #[.string ⟨#[77]⟩, .string ⟨mode.toArray⟩, .int .i64 mark, .string ⟨data.toArray⟩, .string ⟨path.toArray⟩, .string ⟨tto.toArray⟩] 332)).cell? ⟨w.heap.size, 4, none⟩ = some (.string ⟨path.toArray⟩) := Cb.cell hbx 4
  have b5 : (w.alloc (.cells #[.string ⟨#[77]⟩, .string ⟨mode.toArray⟩, .int .i64 mark, .string ⟨data.toArray⟩, .string ⟨path.toArray⟩, .string ⟨tto.toArray⟩] 332)).cell? ⟨w.heap.size, 5, none⟩ = some (.string ⟨tto.toArray⟩) := Cb.cell hbx 5
  have hmw := h.lowM
  have hb1 : w.heap.size ≠ B.mo := fun e => by have := h.lowM B.mo (h.inM B.mo (.inl rfl)); omega
  have hXM : ∀ k, k < w.heap.size → Only B.mo k → M k := fun k _ e => h.inM k (.inl e)
  generalize conR W ⟨[77], mode, mark, data, path, tto⟩ = CR at *
  obtain ⟨cs, cw⟩ := CR
  simp only at *
  cases cs with
  | none =>
    simp only at *
    unfold conV at hcon
    simp only at hcon
    go_enter Tryz.func296, Tryz.ntmps296
    go_wp2_with fail
    refine hcon.mono ?_
    rintro _ w2 ⟨rfl, _, hw2, hk2⟩
    have hk3 : Kx (Only B.mo) w w2 := (hA.mono (fun _ _ h => h.elim)).trans hk2
    clear hcon hA hbx hk2 b0 b1 b2 b3 b4 b5
    go_wp2
    go_ret2
    exact ⟨⟨_, rfl, fun e => (by cases e)⟩, hw2, hk3⟩
  | some s =>
    simp only at *
    unfold conV at hcon
    simp only at hcon
    obtain ⟨E, hE⟩ : ∃ E, Pf.putE ⟨path, mode, s⟩ l = E := ⟨_, rfl⟩
    obtain ⟨L, hL⟩ : ∃ L, Pf.put ⟨path, mode, s⟩ l = L := ⟨_, rfl⟩
    rw [hE, hL]
    have HE : Hid (Pf.putE ⟨path, mode, s⟩ l = E) := hE
    have HL : Hid (Pf.put ⟨path, mode, s⟩ l = L) := hL
    clear hE hL
    go_enter Tryz.func296, Tryz.ntmps296
    go_wp2_with fail
    refine hcon.mono ?_
    rintro _ w2 ⟨rfl, hs2, hw2, hk2⟩
    have hsl := hs2 s rfl
    have hk3 : Kx (Only B.mo) w w2 := (hA.mono (fun _ _ h => h.elim)).trans hk2
    have hbx2 := hbx.kept hk2 hb1
    have d1 : w2.cell? ⟨w.heap.size, 1, none⟩ = some (.string ⟨mode.toArray⟩) := Cb.cell hbx2 1
    have d4 : w2.cell? ⟨w.heap.size, 4, none⟩ = some (.string ⟨path.toArray⟩) := Cb.cell hbx2 4
    have hl2 := hl.kept hk3 hXM
    have hput := put_any l ⟨path, mode, s⟩ _ w2 hl2.fs (by have := hl2.ok.len; omega) (own_put hl2.ok.own)
    unfold Fi.cells at hput
    simp only at hput
    have hok : Pf.putE ⟨path, mode, s⟩ l = 0 → FOk (Pf.put ⟨path, mode, s⟩ l) := fun e => hl2.ok.put ⟨path, mode, s⟩ hsl (by show path.length ≤ 100; omega) hmo e
    rw [HE.out, HL.out] at hok hput
    have hsz := hk3.size
    clear hcon hA hbx hk2 b0 b1 b2 b3 b4 b5 hs2 hbx2 hl
    go_wp2_with fail
    refine hput.mono ?_
    rintro _ w3 ⟨⟨v', rfl, ho3⟩, hk4⟩
    have hw3 := hw2.kept hk4
    have hk5 : Kx (Only B.mo) w w3 := hk3.trans (hk4.mono (fun _ _ h => h.elim))
    clear hput hk4 hk3 hw2 d1 d4
    go_wp2
    go_ret2
    exact ⟨⟨v', rfl, fun e => Lst.own hmw hsz (ho3 e) (hok e)⟩, hw3, hk5⟩

theorem bne_of {a b : List UInt8} (h : ¬ a = b) : (a == b) = false := by simpa using h

theorem change1_D (W : Wk) (l : List Fi) (c : Pu.Ch) (h : c.word = [68]) : Pd.change1 Sh.K W l c = (0, W, Pf.delete c.path l) := by
  unfold Pd.change1
  rw [h]
  rfl
theorem change1_C (W : Wk) (l : List Fi) (c : Pu.Ch) (h : c.word = [67]) : Pd.change1 Sh.K W l c = (Pf.copyE c.path c.to l, W, Pf.copy c.path c.to l) := by
  unfold Pd.change1
  rw [h]
  rfl
theorem change1_R (W : Wk) (l : List Fi) (c : Pu.Ch) (h : c.word = [82]) : Pd.change1 Sh.K W l c = (Pf.moveE c.path c.to l, W, Pf.moved c.path c.to l) := by
  unfold Pd.change1
  rw [h]
  rfl
theorem change1_A (W : Wk) (l : List Fi) (c : Pu.Ch) (h1 : ¬ c.word = [77]) (h2 : ¬ c.word = [68]) (h3 : ¬ c.word = [67]) (h4 : ¬ c.word = [82]) : Pd.change1 Sh.K W l c = (0, W, []) := by
  unfold Pd.change1
  rw [if_neg h1, if_neg h2, if_neg h3, if_neg h4]

set_option maxHeartbeats 1600000 in
set_option maxRecDepth 100000 in
theorem changeD_any {M : Nat → Prop} {w : World} {B : Bl} {n : Nat} {S : St} {W : Wk} (h : Wrk M w B n S W) (c : Pu.Ch) (hc : ChOk c) (hw : c.word = [68]) (l : List Fi) (al : Option Addr) (cl : Nat) (hl : Lst M w (.slice al l.length cl) l) :
    Calls Tryz.prog 296 #[.pointer (some ⟨B.q, 0, none⟩), .slice al l.length cl, .agg (chC c)] w fun e w' => ChR M w' (Pd.change1 Sh.K W l c) e ∧ Wrk M w' B (n + 1) S (Pd.change1 Sh.K W l c).2.1 ∧ Kx (Only B.mo) w w' := by
  rw [change1_D W l c hw]
  obtain ⟨word, mode, mark, data, path, tto⟩ := c
  obtain rfl : word = [68] := hw
  have hA := (Kx.refl (fun _ => False) w).alloc (.cells #[.string ⟨#[68]⟩, .string ⟨mode.toArray⟩, .int .i64 mark, .string ⟨data.toArray⟩, .string ⟨path.toArray⟩, .string ⟨tto.toArray⟩] 332)
  have hbx := Cb.new #[.string ⟨#[68]⟩, .string ⟨mode.toArray⟩, .int .i64 mark, .string ⟨data.toArray⟩, .string ⟨path.toArray⟩, .string ⟨tto.toArray⟩] 332 w
  obtain ⟨_, hmo, hda, hpa, hto⟩ := hc
  simp only at *
  unfold chC at *
  simp only at *
  have hw0 := (h.mono (Nat.le_succ n)).kept hA
  have hl0 := hl.kept hA (fun _ _ h => h.elim)
  have hmw := h.lowM
  have hszA := hA.size
  have b0 : (w.alloc (.cells #[.string ⟨#[68]⟩, .string ⟨mode.toArray⟩, .int .i64 mark, .string ⟨data.toArray⟩, .string ⟨path.toArray⟩, .string ⟨tto.toArray⟩] 332)).cell? ⟨w.heap.size, 0, none⟩ = some (.string ⟨#[68]⟩) := Cb.cell hbx 0
  have b4 : (w.alloc (.cells #[.string ⟨#[68]⟩, .string ⟨mode.toArray⟩, .int .i64 mark, .string ⟨data.toArray⟩, .string ⟨path.toArray⟩, .string ⟨tto.toArray⟩] 332)).cell? ⟨w.heap.size, 4, none⟩ = some (.string ⟨path.toArray⟩) := Cb.cell hbx 4
  have b5 : (w.alloc (.cells #[.string ⟨#[68]⟩, .string ⟨mode.toArray⟩, .int .i64 mark, .string ⟨data.toArray⟩, .string ⟨path.toArray⟩, .string ⟨tto.toArray⟩] 332)).cell? ⟨w.heap.size, 5, none⟩ = some (.string ⟨tto.toArray⟩) := Cb.cell hbx 5
  have hcall := delete_any l path _ _ hl0.fs (by have := hl0.ok.len; omega)
  have hok := hl0.ok.delete path
  generalize Pf.delete path l = L at *
  go_enter Tryz.func296, Tryz.ntmps296
  go_wp2_with fail
  refine hcall.mono ?_
  rintro _ w3 ⟨⟨v', rfl, ho3⟩, hk4⟩
  have hw3 := hw0.kept hk4
  have hk5 : Kx (Only B.mo) w w3 := (hA.trans hk4).mono (fun _ _ h => h.elim)
  clear hcall hk4 hA hbx b0 b4 b5 hw0 hl0
  go_wp2
  go_ret2
  exact ⟨⟨v', rfl, fun _ => Lst.own hmw hszA ho3 hok⟩, hw3, hk5⟩

set_option maxHeartbeats 1600000 in
set_option maxRecDepth 100000 in
theorem changeC_any {M : Nat → Prop} {w : World} {B : Bl} {n : Nat} {S : St} {W : Wk} (h : Wrk M w B n S W) (c : Pu.Ch) (hc : ChOk c) (hw : c.word = [67]) (l : List Fi) (al : Option Addr) (cl : Nat) (hl : Lst M w (.slice al l.length cl) l) :
    Calls Tryz.prog 296 #[.pointer (some ⟨B.q, 0, none⟩), .slice al l.length cl, .agg (chC c)] w fun e w' => ChR M w' (Pd.change1 Sh.K W l c) e ∧ Wrk M w' B (n + 1) S (Pd.change1 Sh.K W l c).2.1 ∧ Kx (Only B.mo) w w' := by
  rw [change1_C W l c hw]
  obtain ⟨word, mode, mark, data, path, tto⟩ := c
  obtain rfl : word = [67] := hw
  have hA := (Kx.refl (fun _ => False) w).alloc (.cells #[.string ⟨#[67]⟩, .string ⟨mode.toArray⟩, .int .i64 mark, .string ⟨data.toArray⟩, .string ⟨path.toArray⟩, .string ⟨tto.toArray⟩] 332)
  have hbx := Cb.new #[.string ⟨#[67]⟩, .string ⟨mode.toArray⟩, .int .i64 mark, .string ⟨data.toArray⟩, .string ⟨path.toArray⟩, .string ⟨tto.toArray⟩] 332 w
  obtain ⟨_, hmo, hda, hpa, hto⟩ := hc
  simp only at *
  unfold chC at *
  simp only at *
  have hw0 := (h.mono (Nat.le_succ n)).kept hA
  have hl0 := hl.kept hA (fun _ _ h => h.elim)
  have hmw := h.lowM
  have hszA := hA.size
  have b0 : (w.alloc (.cells #[.string ⟨#[67]⟩, .string ⟨mode.toArray⟩, .int .i64 mark, .string ⟨data.toArray⟩, .string ⟨path.toArray⟩, .string ⟨tto.toArray⟩] 332)).cell? ⟨w.heap.size, 0, none⟩ = some (.string ⟨#[67]⟩) := Cb.cell hbx 0
  have b4 : (w.alloc (.cells #[.string ⟨#[67]⟩, .string ⟨mode.toArray⟩, .int .i64 mark, .string ⟨data.toArray⟩, .string ⟨path.toArray⟩, .string ⟨tto.toArray⟩] 332)).cell? ⟨w.heap.size, 4, none⟩ = some (.string ⟨path.toArray⟩) := Cb.cell hbx 4
  have b5 : (w.alloc (.cells #[.string ⟨#[67]⟩, .string ⟨mode.toArray⟩, .int .i64 mark, .string ⟨data.toArray⟩, .string ⟨path.toArray⟩, .string ⟨tto.toArray⟩] 332)).cell? ⟨w.heap.size, 5, none⟩ = some (.string ⟨tto.toArray⟩) := Cb.cell hbx 5
  have hcall := copy_any l path tto _ _ hl0.fs (by have := hl0.ok.len; omega) (fun f hf => by have := (hl0.ok.fine f hf).2.1; omega) (by omega) (own_copy hl0.ok.own hl0.ok.own)
  have hok := fun e => hl0.ok.copy (a := path) (b := tto) e
  generalize Pf.copyE path tto l = E at *
  generalize Pf.copy path tto l = L at *
  go_enter Tryz.func296, Tryz.ntmps296
  go_wp2_with fail
  refine hcall.mono ?_
  rintro _ w3 ⟨⟨v', rfl, ho3⟩, hk4⟩
  have hw3 := hw0.kept hk4
  have hk5 : Kx (Only B.mo) w w3 := (hA.trans hk4).mono (fun _ _ h => h.elim)
  clear hcall hk4 hA hbx b0 b4 b5 hw0 hl0
  go_wp2
  go_ret2
  exact ⟨⟨v', rfl, fun e => Lst.own hmw hszA (ho3 e) (hok e)⟩, hw3, hk5⟩

set_option maxHeartbeats 1600000 in
set_option maxRecDepth 100000 in
theorem changeR_any {M : Nat → Prop} {w : World} {B : Bl} {n : Nat} {S : St} {W : Wk} (h : Wrk M w B n S W) (c : Pu.Ch) (hc : ChOk c) (hw : c.word = [82]) (l : List Fi) (al : Option Addr) (cl : Nat) (hl : Lst M w (.slice al l.length cl) l) :
    Calls Tryz.prog 296 #[.pointer (some ⟨B.q, 0, none⟩), .slice al l.length cl, .agg (chC c)] w fun e w' => ChR M w' (Pd.change1 Sh.K W l c) e ∧ Wrk M w' B (n + 1) S (Pd.change1 Sh.K W l c).2.1 ∧ Kx (Only B.mo) w w' := by
  rw [change1_R W l c hw]
  obtain ⟨word, mode, mark, data, path, tto⟩ := c
  obtain rfl : word = [82] := hw
  have hA := (Kx.refl (fun _ => False) w).alloc (.cells #[.string ⟨#[82]⟩, .string ⟨mode.toArray⟩, .int .i64 mark, .string ⟨data.toArray⟩, .string ⟨path.toArray⟩, .string ⟨tto.toArray⟩] 332)
  have hbx := Cb.new #[.string ⟨#[82]⟩, .string ⟨mode.toArray⟩, .int .i64 mark, .string ⟨data.toArray⟩, .string ⟨path.toArray⟩, .string ⟨tto.toArray⟩] 332 w
  obtain ⟨_, hmo, hda, hpa, hto⟩ := hc
  simp only at *
  unfold chC at *
  simp only at *
  have hw0 := (h.mono (Nat.le_succ n)).kept hA
  have hl0 := hl.kept hA (fun _ _ h => h.elim)
  have hmw := h.lowM
  have hszA := hA.size
  have b0 : (w.alloc (.cells #[.string ⟨#[82]⟩, .string ⟨mode.toArray⟩, .int .i64 mark, .string ⟨data.toArray⟩, .string ⟨path.toArray⟩, .string ⟨tto.toArray⟩] 332)).cell? ⟨w.heap.size, 0, none⟩ = some (.string ⟨#[82]⟩) := Cb.cell hbx 0
  have b4 : (w.alloc (.cells #[.string ⟨#[82]⟩, .string ⟨mode.toArray⟩, .int .i64 mark, .string ⟨data.toArray⟩, .string ⟨path.toArray⟩, .string ⟨tto.toArray⟩] 332)).cell? ⟨w.heap.size, 4, none⟩ = some (.string ⟨path.toArray⟩) := Cb.cell hbx 4
  have b5 : (w.alloc (.cells #[.string ⟨#[82]⟩, .string ⟨mode.toArray⟩, .int .i64 mark, .string ⟨data.toArray⟩, .string ⟨path.toArray⟩, .string ⟨tto.toArray⟩] 332)).cell? ⟨w.heap.size, 5, none⟩ = some (.string ⟨tto.toArray⟩) := Cb.cell hbx 5
  have hcall := move_any l path tto _ _ hl0.fs (by have := hl0.ok.len; omega) (fun f hf => by have := (hl0.ok.fine f hf).2.1; omega) (by omega) (own_copy hl0.ok.own.delete hl0.ok.own)
  have hok := fun e => hl0.ok.moved (a := path) (b := tto) e
  generalize Pf.moveE path tto l = E at *
  generalize Pf.moved path tto l = L at *
  go_enter Tryz.func296, Tryz.ntmps296
  go_wp2_with fail
  refine hcall.mono ?_
  rintro _ w3 ⟨⟨v', rfl, ho3⟩, hk4⟩
  have hw3 := hw0.kept hk4
  have hk5 : Kx (Only B.mo) w w3 := (hA.trans hk4).mono (fun _ _ h => h.elim)
  clear hcall hk4 hA hbx b0 b4 b5 hw0 hl0
  go_wp2
  go_ret2
  exact ⟨⟨v', rfl, fun e => Lst.own hmw hszA (ho3 e) (hok e)⟩, hw3, hk5⟩

set_option maxHeartbeats 1600000 in
set_option maxRecDepth 100000 in
theorem changeA_any {M : Nat → Prop} {w : World} {B : Bl} {n : Nat} {S : St} {W : Wk} (h : Wrk M w B n S W) (c : Pu.Ch) (hc : ChOk c) (h1 : ¬ c.word = [77]) (h2 : ¬ c.word = [68]) (h3 : ¬ c.word = [67]) (h4 : ¬ c.word = [82]) (l : List Fi) (al : Option Addr) (cl : Nat) (hl : Lst M w (.slice al l.length cl) l) :
    Calls Tryz.prog 296 #[.pointer (some ⟨B.q, 0, none⟩), .slice al l.length cl, .agg (chC c)] w fun e w' => ChR M w' (Pd.change1 Sh.K W l c) e ∧ Wrk M w' B (n + 1) S (Pd.change1 Sh.K W l c).2.1 ∧ Kx (Only B.mo) w w' := by
  rw [change1_A W l c h1 h2 h3 h4]
  obtain ⟨word, mode, mark, data, path, tto⟩ := c
  have hA := (Kx.refl (fun _ => False) w).alloc (.cells #[.string ⟨word.toArray⟩, .string ⟨mode.toArray⟩, .int .i64 mark, .string ⟨data.toArray⟩, .string ⟨path.toArray⟩, .string ⟨tto.toArray⟩] 332)
  have hbx := Cb.new #[.string ⟨word.toArray⟩, .string ⟨mode.toArray⟩, .int .i64 mark, .string ⟨data.toArray⟩, .string ⟨path.toArray⟩, .string ⟨tto.toArray⟩] 332 w
  obtain ⟨_, hmo, hda, hpa, hto⟩ := hc
  simp only at *
  unfold chC at *
  simp only at *
  have hw0 := (h.mono (Nat.le_succ n)).kept hA
  have hl0 := hl.kept hA (fun _ _ h => h.elim)
  have hmw := h.lowM
  have hszA := hA.size
  have b0 : (w.alloc (.cells #[.string ⟨word.toArray⟩, .string ⟨mode.toArray⟩, .int .i64 mark, .string ⟨data.toArray⟩, .string ⟨path.toArray⟩, .string ⟨tto.toArray⟩] 332)).cell? ⟨w.heap.size, 0, none⟩ = some (.string ⟨word.toArray⟩) := Cb.cell hbx 0
  have b4 : (w.alloc (.cells #[.string ⟨word.toArray⟩, .string ⟨mode.toArray⟩, .int .i64 mark, .string ⟨data.toArray⟩, .string ⟨path.toArray⟩, .string ⟨tto.toArray⟩] 332)).cell? ⟨w.heap.size, 4, none⟩ = some (.string ⟨path.toArray⟩) := Cb.cell hbx 4
  have b5 : (w.alloc (.cells #[.string ⟨word.toArray⟩, .string ⟨mode.toArray⟩, .int .i64 mark, .string ⟨data.toArray⟩, .string ⟨path.toArray⟩, .string ⟨tto.toArray⟩] 332)).cell? ⟨w.heap.size, 5, none⟩ = some (.string ⟨tto.toArray⟩) := Cb.cell hbx 5
  have n1 := bne_of h1
  have n2 := bne_of h2
  have n3 := bne_of h3
  have n4 := bne_of h4
  have hk5 : Kx (Only B.mo) w _ := hA.mono (fun _ _ h => h.elim)
  go_enter Tryz.func296, Tryz.ntmps296
  go_wp2
  go_ret2
  exact ⟨⟨_, rfl, fun _ => ⟨none, 0, rfl, Lst.nil _ _⟩⟩, hw0, hk5⟩

theorem changedByW_any {M : Nat → Prop} {w : World} {B : Bl} {n : Nat} {S : St} {W : Wk} (h : Wrk M w B n S W) (hn : n < maxLen) (c : Pu.Ch) (hc : ChOk c) (l : List Fi) (al : Option Addr) (cl : Nat) (hl : Lst M w (.slice al l.length cl) l) :
    Calls Tryz.prog 296 #[.pointer (some ⟨B.q, 0, none⟩), .slice al l.length cl, .agg (chC c)] w fun e w' => ChR M w' (Pd.change1 Sh.K W l c) e ∧ Wrk M w' B (n + 1) S (Pd.change1 Sh.K W l c).2.1 ∧ Kx (Only B.mo) w w' := by
  by_cases h1 : c.word = [77]
  · exact changeM_any h hn c hc h1 l al cl hl
  by_cases h2 : c.word = [68]
  · exact changeD_any h c hc h2 l al cl hl
  by_cases h3 : c.word = [67]
  · exact changeC_any h c hc h3 l al cl hl
  by_cases h4 : c.word = [82]
  · exact changeR_any h c hc h4 l al cl hl
  exact changeA_any h c hc h1 h2 h3 h4 l al cl hl

theorem changes_step (W : Wk) (l : List Fi) (c : Pu.Ch) (r : List Pu.Ch) : Pd.changes Sh.K W l (c :: r) = if (Pd.change1 Sh.K W l c).1 = 0 then Pd.changes Sh.K (Pd.change1 Sh.K W l c).2.1 (Pd.change1 Sh.K W l c).2.2 r else Pd.change1 Sh.K W l c := rfl

set_option maxHeartbeats 1600000 in
set_option maxRecDepth 100000 in
theorem changedW_any {M : Nat → Prop} {w : World} {B : Bl} {n : Nat} {S : St} {W : Wk} (h : Wrk M w B n S W) (cs : List Pu.Ch) (hn : n + cs.length < maxLen) (hcs : ∀ x ∈ cs, ChOk x) (ac : Option Addr) (cc : Nat) (hr : Reads w (.slice ac cs.length cc) cs.length (chsC cs))
    (hro : ∀ k, (Value.slice ac cs.length cc).ownBlock = some k → k ≠ B.mo) (l : List Fi) (al : Option Addr) (cl : Nat) (hl : Lst M w (.slice al l.length cl) l) :
    Calls Tryz.prog 228 #[.pointer (some ⟨B.q, 0, none⟩), .slice al l.length cl, .slice ac cs.length cc] w fun e w' => ChR M w' (Pd.changes Sh.K W l cs) e ∧ Wrk M w' B (n + cs.length) S (Pd.changes Sh.K W l cs).2.1 ∧ Kx (Only B.mo) w w' := by
  obtain ⟨qq, cq, hqq, hcq, hrow⟩ := hr
  cases hqq
  have hmx : maxLen = 9223372036854775807 := rfl
  obtain ⟨RR, hRR⟩ : ∃ R, Pd.changes Sh.K W l cs = R := ⟨_, rfl⟩
  rw [hRR]
  have HR : Hid (Pd.changes Sh.K W l cs = RR) := hRR
  clear hRR
  have hXM : ∀ k, Only B.mo k → M k := fun k e => h.inM k (.inl e)
  go_enter Tryz.func228, Tryz.ntmps228
  go_wp2
  go_loopw [13, 1, 8] (fun iv v1 v8 wr => ∃ (k : Nat) (W' : Wk) (l' : List Fi) (a : Option Addr) (c : Nat), iv = .int .i64 k ∧ v1 = .slice a l'.length c ∧ v8 = .int .i64 0 ∧ k ≤ cs.length ∧ Kx (Only B.mo) w wr ∧ Wrk M wr B (n + k) S W' ∧ Lst M wr (.slice a l'.length c) l' ∧ Hid (Pd.changes Sh.K W' l' (cs.drop k) = RR)) (fun iv _ _ _ => cs.length - (intOf iv).toNat)
  case atStart => exact ⟨0, W, l, al, cl, rfl, rfl, rfl, by omega, Kx.refl _ _, h, hl, HR⟩
  case round =>
    obtain ⟨k, W', l', a, c, rfl, rfl, rfl, hk, hkx, hw, hlr, HQ⟩ := hrel
    by_cases hlt : k < cs.length
    · have hlt2 : (k : Int) < (cs.length : Int) := by omega
      obtain ⟨gb, o, rfl, hcell⟩ := hrow (by omega)
      have hgb : gb ≠ B.mo := hro gb rfl
      have hck : ∀ j x, (chL cs[k])[j]? = some x → wr.cell? ⟨gb, o + (6 * k + j), none⟩ = some x := fun j x hj => by
        have h1 := hcell _ _ (flat_at chL 6 (fun _ => rfl) cs k cs[k] (List.getElem?_eq_getElem hlt) j x hj)
        rw [hkx.cell (p := ⟨gb, o + (6 * k + j), none⟩) (lt_of_cell (p := ⟨gb, o + (6 * k + j), none⟩) h1) hgb]
        exact h1
      have hok : ChOk cs[k] := hcs cs[k] (List.getElem_mem hlt)
      have HD : Hid (cs.drop k = cs[k] :: cs.drop (k + 1)) := List.drop_eq_getElem_cons hlt
      generalize cs[k] = x at *
      obtain ⟨word, mode, mark, data, path, tto⟩ := x
      have c0 : wr.cell? ⟨gb, o + k * 6, none⟩ = some (.string ⟨word.toArray⟩) := by rw [show o + k * 6 = o + (6 * k + 0) from by omega]; exact hck 0 _ rfl
      have c1 : wr.cell? ⟨gb, o + k * 6 + 1, none⟩ = some (.string ⟨mode.toArray⟩) := by rw [show o + k * 6 + 1 = o + (6 * k + 1) from by omega]; exact hck 1 _ rfl
      have c2 : wr.cell? ⟨gb, o + k * 6 + 2, none⟩ = some (.int .i64 mark) := by rw [show o + k * 6 + 2 = o + (6 * k + 2) from by omega]; exact hck 2 _ rfl
      have c3 : wr.cell? ⟨gb, o + k * 6 + 3, none⟩ = some (.string ⟨data.toArray⟩) := by rw [show o + k * 6 + 3 = o + (6 * k + 3) from by omega]; exact hck 3 _ rfl
      have c4 : wr.cell? ⟨gb, o + k * 6 + 4, none⟩ = some (.string ⟨path.toArray⟩) := by rw [show o + k * 6 + 4 = o + (6 * k + 4) from by omega]; exact hck 4 _ rfl
      have c5 : wr.cell? ⟨gb, o + k * 6 + 5, none⟩ = some (.string ⟨tto.toArray⟩) := by rw [show o + k * 6 + 5 = o + (6 * k + 5) from by omega]; exact hck 5 _ rfl
      have hA := (Kx.refl (fun _ => False) wr).alloc (.cells #[.string ⟨word.toArray⟩, .string ⟨mode.toArray⟩, .int .i64 mark, .string ⟨data.toArray⟩, .string ⟨path.toArray⟩, .string ⟨tto.toArray⟩] 332)
      have hcall := changedByW_any (hw.kept hA) (by omega) ⟨word, mode, mark, data, path, tto⟩ hok l' a c (hlr.kept hA (fun _ _ h => h.elim))
      have HS : Hid (RR = if (Pd.change1 Sh.K W' l' ⟨word, mode, mark, data, path, tto⟩).1 = 0 then Pd.changes Sh.K (Pd.change1 Sh.K W' l' ⟨word, mode, mark, data, path, tto⟩).2.1 (Pd.change1 Sh.K W' l' ⟨word, mode, mark, data, path, tto⟩).2.2 (cs.drop (k + 1)) else Pd.change1 Sh.K W' l' ⟨word, mode, mark, data, path, tto⟩) := by
        show RR = _
        rw [← changes_step, ← HD.out]
        exact HQ.out.symm
      unfold chC at hcall
      simp only at hcall
      generalize Pd.change1 Sh.K W' l' ⟨word, mode, mark, data, path, tto⟩ = r1 at *
      obtain ⟨E, W2, l2⟩ := r1
      simp only at *
      have hkA : Kx (Only B.mo) w _ := hkx.trans (hA.mono (fun _ _ h => h.elim))
      clear hck hcell HQ HD hw hlr hA
      go_wp2_with fail
      refine hcall.mono ?_
      rintro _ w3 ⟨⟨v', rfl, hv'⟩, hw3, hk3⟩
      have hk4 := hkA.trans hk3
      simp only at hv'
      clear hcall hkA hk3 c0 c1 c2 c3 c4 c5
      by_cases hE : E = 0
      · subst hE
        obtain ⟨a2, c2, rfl, hl3⟩ := hv' rfl
        have HN : Hid (Pd.changes Sh.K W2 l2 (cs.drop (k + 1)) = RR) := by
          have := HS.out
          rw [if_pos rfl] at this
          exact this.symm
        have hw4 : Wrk M w3 B (n + (k + 1)) S W2 := hw3
        clear HS hv' hw3
        go_wp2
        go_roundw
        case rel => exact ⟨k + 1, W2, l2, a2, c2, by go_num, rfl, rfl, hlt, hk4, hw4, hl3, HN⟩
        case measure => simp [intOf]; omega
      · have HN : Hid (RR = (E, W2, l2)) := by
          have := HS.out
          rw [if_neg hE] at this
          exact this
        have hw4 : Wrk M w3 B (n + cs.length) S W2 := hw3.mono (by omega)
        clear HS hv' hw3
        go_wp2
        go_ret2
        rw [HN.out]
        exact ⟨⟨_, rfl, fun e => absurd e hE⟩, hw4, hk4⟩
    · obtain rfl : k = cs.length := by omega
      have hlt2 : ¬ (cs.length : Int) < (cs.length : Int) := by omega
      have HN : Hid (RR = (0, W', l')) := by
        have := HQ.out
        rw [List.drop_of_length_le (Nat.le_refl _)] at this
        exact this.symm
      clear HQ
      go_wp2
      go_ret2
      rw [HN.out]
      exact ⟨⟨_, rfl, fun _ => ⟨a, c, rfl, hlr⟩⟩, hw, hkx⟩

def DoR (M : Nat → Prop) (w w' : World) (B : Bl) (n : Nat) (S : St) (r : Int × Wk) (e : Ending) : Prop :=
  e = .returned (.int .i64 r.1) ∧ (r.1 = 0 → Wrk M w' B n S r.2) ∧ Kx B.X w w'

theorem mark_wrk {M : Nat → Prop} {w w' : World} {B : Bl} {n : Nat} {S : St} {W : Wk} (h : Wrk M w B n S W) {f' : Int → Option Value} {g' : Int → Option Mkd} (hk : Kx (Only B.kb) w w') (hm : MapI Tryz.prog 3 w' B.kb (n + 1) f') (hf : MksF M w' f' g') :
    Wrk M w' B (n + 1) S { W with ms := g' } := by
  have hX : ∀ k, k < w.heap.size → Only B.kb k → M k := fun k _ e => h.inM k (.inr (.inr (.inr (.inr e))))
  exact h.turn (hk.mono (fun k _ e => .inr (.inr (.inr (.inr e))))) (h.kobjs hk (fun e => h.sep.ok e) (Nat.le_succ n)) (h.kcoms hk hX (fun e => h.sep.ck e) (Nat.le_succ n)) (h.krefs hk hX (fun e => h.sep.rk e) (Nat.le_succ n)) (h.ktags hk hX (fun e => h.sep.tk e) (Nat.le_succ n)) ⟨f', hm, hf⟩

set_option maxHeartbeats 1600000 in
set_option maxRecDepth 100000 in
theorem doBlob_any {M : Nat → Prop} {w : World} {B : Bl} {n : Nat} {S : St} {W : Wk} (h : Wrk M w B n S W) (hn : n + 1 < maxLen) (c : Pu.Co) (hc : CoOk c) (am ac : Option Addr) (nm cm nc cc : Nat) :
    Calls Tryz.prog 165 #[.pointer (some ⟨B.q, 0, none⟩), .agg (coC c (.slice am nm cm) (.slice ac nc cc))] w fun e w' => DoR M w w' B (n + 2) S (Pd.blob Sh.K W c) e := by
  obtain ⟨word, ref, mark, ⟨an, ama, at'⟩, data, ⟨fm, fr⟩, ms, cs⟩ := c
  obtain ⟨m0, m1⟩ : 0 ≤ mark ∧ mark ≤ 999 := hc.mark
  have hda : data.length ≤ 1000 := hc.data
  clear hc
  unfold coC
  simp only
  have hB : Pd.blob Sh.K W ⟨word, ref, mark, ⟨an, ama, at'⟩, data, ⟨fm, fr⟩, ms, cs⟩ = if Pd.isSet W mark then (3, W) else (0, { Pd.addObj Sh.K 1 data W with ms := upd W.ms mark (some (.blob (Pd.sum Sh.K 1 data))) }) := rfl
  rw [hB]
  clear hB
  have hA := (Kx.refl (fun _ => False) w).alloc (.cells #[.string ⟨word.toArray⟩, .string ⟨ref.toArray⟩, .int .i64 mark, .string ⟨an.toArray⟩, .string ⟨ama.toArray⟩, .int .i64 at', .string ⟨data.toArray⟩, .int .i64 fm, .string ⟨fr.toArray⟩, .slice am nm cm, .slice ac nc cc] 158)
  have hbx := Cb.new #[.string ⟨word.toArray⟩, .string ⟨ref.toArray⟩, .int .i64 mark, .string ⟨an.toArray⟩, .string ⟨ama.toArray⟩, .int .i64 at', .string ⟨data.toArray⟩, .int .i64 fm, .string ⟨fr.toArray⟩, .slice am nm cm, .slice ac nc cc] 158 w
  have h1 := h.kept hA
  have his := isSet_any h1 mark m0 m1
  have b2 : (w.alloc (.cells #[.string ⟨word.toArray⟩, .string ⟨ref.toArray⟩, .int .i64 mark, .string ⟨an.toArray⟩, .string ⟨ama.toArray⟩, .int .i64 at', .string ⟨data.toArray⟩, .int .i64 fm, .string ⟨fr.toArray⟩, .slice am nm cm, .slice ac nc cc] 158)).cell? ⟨w.heap.size, 2, none⟩ = some (.int .i64 mark) := Cb.cell hbx 2
  have hxb : ¬ B.X w.heap.size := fun e => by have := h.lowM _ (h.inM _ e); omega
  cases hset : Pd.isSet W mark with
  | true =>
    rw [hset] at his
    simp only [if_true]
    go_enter Tryz.func165, Tryz.ntmps165
    go_wp2_with fail
    refine his.mono ?_
    rintro _ w2 ⟨rfl, hk2⟩
    have hk3 : Kx B.X w w2 := (hA.trans hk2).mono (fun _ _ h => h.elim)
    clear his hA hbx h1 b2 hk2
    go_wp2
    go_ret
    exact ⟨rfl, fun e => (by cases e), hk3⟩
  | false =>
    rw [hset] at his
    simp only [Bool.false_eq_true, if_false]
    go_enter Tryz.func165, Tryz.ntmps165
    go_wp2_with fail
    refine his.mono ?_
    rintro _ w2 ⟨rfl, hk2⟩
    have h2 := h1.kept hk2
    have hbx2 := hbx.kept hk2 id
    have hk3 := hA.trans hk2
    clear his hA hbx h1 b2 hk2
    go_wp2_with fail
    generalize w.heap.size = b1 at *
    refine wp_region_mid (C := fun w' => Kx B.X w2 w') 9 (by kernel_rfl) (by kernel_rfl) (Kx.refl _ _).drew ?_
    refine headC_val rfl (.pointer (some ⟨B.q, 0, none⟩)) (fun w' hC => by go_simp) ?_
    refine headC_val rfl (.pointer (some ⟨B.q, 0, none⟩)) (fun w' hC => by go_simp) ?_
    refine headC_val rfl (.pointer (some ⟨B.q, 2, none⟩)) (fun w' hC => by go_simp) ?_
    refine headC_val rfl (.map (some B.kb)) (fun w' hC => by
      have hc0 : w'.cell? ⟨B.q, 2, none⟩ = some (.map (some B.kb)) := Cb.cell (h2.wq.kept hC h2.sep.q) 2
      go_simp) ?_
    refine headC_val rfl (.pointer (some ⟨b1, 2, none⟩)) (fun w' hC => by go_simp) ?_
    refine headC_val rfl (.int .i64 mark) (fun w' hC => by
      have hc0 : w'.cell? ⟨b1, 2, none⟩ = some (.int .i64 mark) := Cb.cell (hbx2.kept hC hxb) 2
      go_simp) ?_
    refine headC_val rfl (.pointer (some ⟨B.q, 0, none⟩)) (fun w' hC => by go_simp) ?_
    refine headC_val rfl (.pointer (some ⟨b1, 6, none⟩)) (fun w' hC => by go_simp) ?_
    refine headC_val rfl (.string ⟨data.toArray⟩) (fun w' hC => by
      have hc0 : w'.cell? ⟨b1, 6, none⟩ = some (.string ⟨data.toArray⟩) := Cb.cell (hbx2.kept hC hxb) 6
      go_simp) ?_
    refine headC_nil ?_
    simp only [Act.put, sI, sS, sZ, List.drop_succ_cons, List.drop_zero]
    have h3 := h2.kept ((Kx.refl (fun _ => False) w2).drew)
    refine seqC_enter rfl 219 #[.pointer (some ⟨B.q, 0, none⟩), .string ⟨data.toArray⟩] (by go_simp) ?_
    refine (blobW_any h3 data (by omega) (by omega)).mono ?_
    rintro _ w4 ⟨rfl, hw4, hk4⟩
    have hk5 : Kx B.X w2 w4 := ((Kx.refl _ _).drew).trans (hk4.mono (fun _ _ e => .inl e))
    refine ⟨_, rfl, hk5, ?_⟩
    obtain ⟨f, hf, hM⟩ := hw4.marks
    have hsl : (Pd.sum Sh.K 1 data).length = 32 := ofK_len _ _
    obtain ⟨sm, hsm⟩ : ∃ sm, Pd.sum Sh.K 1 data = sm := ⟨_, rfl⟩
    rw [hsm] at hsl ⊢
    simp only [Act.put, sI, sS, sZ]
    refine seqC_val rfl (.agg #[.pointer none, .string ⟨(Sh.hex sm).toArray⟩]) (by go_simp) hk5 ?_
    simp only [Act.put, sI, sS, sZ]
    unfold SeqC
    refine wpList_putI rfl _ _ _ 168 rfl 314 (by kernel_rfl) (by kernel_rfl) B.kb (n + 1) f rfl hf (by omega) mark rfl (by omega) (by omega) (.agg #[.pointer none, .string ⟨(Sh.hex sm).toArray⟩]) rfl ?_
    intro w6 hf6 hk6
    have hX6 : Kx B.X w2 w6 := hk5.trans (hk6.mono (fun _ _ e => .inr (.inr (.inr (.inr e)))))
    have hw6 := mark_wrk hw4 hk6 hf6 ((hM.kept hk6 (fun k _ e => hw4.inM k (.inr (.inr (.inr (.inr e)))))).updB mark sm hsl)
    have hk7 : Kx B.X w w6 := (hk3.mono (fun _ _ h => h.elim)).trans hX6
    refine ⟨rfl, hX6, ?_⟩
    unfold SeqC
    simp only [Act.put]

    go_wp2
    go_ret
    rw [hsm]
    exact ⟨rfl, fun _ => hw6, hk7⟩

theorem ref_wrk {M : Nat → Prop} {w w' : World} {B : Bl} {n : Nat} {S : St} {W : Wk} (h : Wrk M w B n S W) {f' : List UInt8 → Option Value} {g' : List UInt8 → Option (Option Com)} (hk : Kx (Only B.mr) w w') (hm : MpS w' B.mr (n + 1) f') (hf : RefF M w' f' g') :
    Wrk M w' B (n + 1) S { W with st := { W.st with ref := refO g' S.ref } } := by
  have hX : ∀ k, k < w.heap.size → Only B.mr k → M k := fun k _ e => h.inM k (.inr (.inr (.inl e)))
  exact h.turn (hk.mono (fun k _ e => .inr (.inr (.inl e)))) (h.kobjs hk (fun e => h.sep.or e) (Nat.le_succ n)) (h.kcoms hk hX (fun e => h.sep.cr e) (Nat.le_succ n)) ⟨g', f', hm, hf, rfl⟩ (h.ktags hk hX (fun e => h.sep.rt e.symm) (Nat.le_succ n)) (h.kmarks hk hX (fun e => h.sep.rk e.symm) (Nat.le_succ n))

theorem setRefW_any {M : Nat → Prop} {w : World} {B : Bl} {n : Nat} {S : St} {W : Wk} (h : Wrk M w B n S W) (hn : n < maxLen) (name : List UInt8) (hna : name.length ≤ 1000) (x : Option Com) (p : Option Addr) (hp : PtrC M w x p) :
    Calls Tryz.prog 233 #[.pointer (some ⟨B.d, 0, none⟩), .string ⟨name.toArray⟩, .pointer p] w fun e w' => e = .returned (.tuple #[]) ∧ Wrk M w' B (n + 1) S { W with st := { W.st with ref := upd W.st.ref name x } } ∧ Kx (Only B.mr) w w' := by
  obtain ⟨g, f, h1, h2, h3⟩ := h.refs
  have hmx : maxLen = 9223372036854775807 := rfl
  have hX : ∀ k, k < w.heap.size → Only B.mr k → M k := fun k _ e => h.inM k (.inr (.inr (.inl e)))
  refine (setRef_any B.d B.p B.m B.mo B.mc B.mr B.mt n f name (.pointer p) w h.dr h.hm h1 hn (by omega)).mono ?_
  rintro _ w' ⟨rfl, hm, hk⟩
  refine ⟨rfl, ?_, hk⟩
  have h4 := h2.kept hk hX
  have h5 := hp.kept hk hX
  rw [h3, ← refO_upd]
  cases x with
  | none =>
    obtain rfl : p = none := h5
    exact ref_wrk h hk hm (h4.gone name)
  | some c =>
    obtain ⟨b, rfl, hc⟩ := h5
    exact ref_wrk h hk hm (h4.upd hc)

set_option maxHeartbeats 1600000 in
set_option maxRecDepth 100000 in
theorem doReset_any {M : Nat → Prop} {w : World} {B : Bl} {n : Nat} {S : St} {W : Wk} (h : Wrk M w B n S W) (hn : n < maxLen) (c : Pu.Co) (hc : CoOk c) (am ac : Option Addr) (nm cm nc cc : Nat) :
    Calls Tryz.prog 174 #[.pointer (some ⟨B.q, 0, none⟩), .agg (coC c (.slice am nm cm) (.slice ac nc cc))] w fun e w' => DoR M w w' B (n + 1) S (Pd.reset W c) e := by
  obtain ⟨word, ref, mark, ⟨an, ama, at'⟩, data, ⟨fm, fr⟩, ms, cs⟩ := c
  have hwh : WhOk ⟨fm, fr⟩ := hc.frm
  have href : ref.length ≤ 1000 := hc.ref
  clear hc
  unfold coC
  simp only
  have hF : Pd.reset W ⟨word, ref, mark, ⟨an, ama, at'⟩, data, ⟨fm, fr⟩, ms, cs⟩ = if fm = 0 ∧ fr = [] then ((0 : Int), (⟨⟨W.st.obj, W.st.com, upd W.st.ref ref none, W.st.tag⟩, W.ms⟩ : Wk)) else match Pd.comOf W ⟨fm, fr⟩ with | none => (4, W) | some x => (0, ⟨⟨W.st.obj, W.st.com, upd W.st.ref ref (some x), W.st.tag⟩, W.ms⟩) := rfl
  rw [hF]
  clear hF
  have hA := (Kx.refl (fun _ => False) w).alloc (.cells #[.string ⟨word.toArray⟩, .string ⟨ref.toArray⟩, .int .i64 mark, .string ⟨an.toArray⟩, .string ⟨ama.toArray⟩, .int .i64 at', .string ⟨data.toArray⟩, .int .i64 fm, .string ⟨fr.toArray⟩, .slice am nm cm, .slice ac nc cc] 158)
  have hbx := Cb.new #[.string ⟨word.toArray⟩, .string ⟨ref.toArray⟩, .int .i64 mark, .string ⟨an.toArray⟩, .string ⟨ama.toArray⟩, .int .i64 at', .string ⟨data.toArray⟩, .int .i64 fm, .string ⟨fr.toArray⟩, .slice am nm cm, .slice ac nc cc] 158 w
  have h1 := h.kept hA
  have hcom := commitW_any h1 (Kx.refl _ _) ⟨fm, fr⟩ hwh
  simp only at hcom
  by_cases hz : fm = 0 ∧ fr = []
  · obtain ⟨rfl, rfl⟩ := hz
    rw [if_pos ⟨rfl, rfl⟩]
    clear hcom
    go_enter Tryz.func174, Tryz.ntmps174
    go_wp2_with fail
    revert hA hbx h1
    generalize w.alloc (.cells #[.string ⟨word.toArray⟩, .string ⟨ref.toArray⟩, .int .i64 mark, .string ⟨an.toArray⟩, .string ⟨ama.toArray⟩, .int .i64 at', .string ⟨data.toArray⟩, .int .i64 0, .string ⟨#[]⟩, .slice am nm cm, .slice ac nc cc] 158) = W1
    generalize w.heap.size = b1
    intro hA hbx h1
    refine wp_region_quiet_tail (C := fun w' => Kx (fun _ => False) W1 w') 6 (by kernel_rfl) (by kernel_rfl) (Kx.refl _ _).drew ?_
    refine quiet_val rfl (.pointer (some ⟨B.q, 0, none⟩)) (fun w' hC => by go_simp) ?_
    refine quiet_val rfl (.pointer (some ⟨B.q, 0, none⟩)) (fun w' hC => by go_simp) ?_
    refine quiet_val rfl (.pointer (some ⟨B.q, 0, none⟩)) (fun w' hC => by go_simp) ?_
    refine quiet_val rfl (.pointer (some ⟨B.d, 0, none⟩)) (fun w' hC => by
      have hc0 : w'.cell? ⟨B.q, 0, none⟩ = some (.pointer (some ⟨B.d, 0, none⟩)) := Cb.cell (h1.wq.kept hC id) 0
      go_simp) ?_
    refine quiet_val rfl (.pointer (some ⟨b1, 1, none⟩)) (fun w' hC => by go_simp) ?_
    refine quiet_val rfl (.string ⟨ref.toArray⟩) (fun w' hC => by
      have hc0 : w'.cell? ⟨b1, 1, none⟩ = some (.string ⟨ref.toArray⟩) := Cb.cell (hbx.kept hC id) 1
      go_simp) ?_
    refine wpQuiet_nil (fun w' hC => ?_)
    simp only [Act.put, sI, sS, sZ, List.drop_succ_cons, List.drop_zero]
    have h3 := h1.kept hC
    have hk3 := hA.trans hC
    have hcall := setRefW_any h3 hn ref href none none rfl
    clear h1 hC hbx hA
    go_wp2_with fail
    refine hcall.mono ?_
    rintro _ w4 ⟨rfl, hw4, hk4⟩
    have hk5 : Kx B.X w w4 := (hk3.mono (fun _ _ h => h.elim)).trans (hk4.mono (fun _ _ e => .inr (.inr (.inl e))))
    clear hcall
    go_wp2
    go_ret
    exact ⟨rfl, fun _ => hw4, hk5⟩
  · rw [if_neg hz]
    obtain ⟨RR, hRR⟩ : ∃ RR, (match Pd.comOf W ⟨fm, fr⟩ with | none => ((4 : Int), W) | some x => (0, ⟨⟨W.st.obj, W.st.com, upd W.st.ref ref (some x), W.st.tag⟩, W.ms⟩)) = RR := ⟨_, rfl⟩
    rw [hRR]
    have HRR : Hid ((match Pd.comOf W ⟨fm, fr⟩ with | none => ((4 : Int), W) | some x => (0, ⟨⟨W.st.obj, W.st.com, upd W.st.ref ref (some x), W.st.tag⟩, W.ms⟩)) = RR) := hRR
    clear hRR
    by_cases hf0 : fm = 0
    · have hfr : ¬ fr = [] := fun e => hz ⟨hf0, e⟩
      subst hf0
      clear hz
      go_enter Tryz.func174, Tryz.ntmps174
      go_wp2_with fail
      refine hcom.mono ?_
      rintro e w2 ⟨hR, hk2⟩
      have hk3 := hA.trans hk2
      have hw2 := h1.kept hk2
      have hbx2 := hbx.kept hk2 id
      clear hcom hA hbx
      cases hr : Pd.comOf W ⟨0, fr⟩ with
      | none =>
        rw [hr] at hR
        obtain rfl := hR
        go_wp2
        go_ret
        have hq := HRR.out
        rw [hr] at hq
        rw [← hq]
        exact ⟨rfl, fun e => (by cases e), hk3.mono (fun _ _ h => h.elim)⟩
      | some c =>
        rw [hr] at hR
        obtain ⟨b, rfl, hcm⟩ := hR
        have hcm2 := hcm.kept hk2 (fun _ _ h => h.elim)
        clear hk2 hcm h1
        go_wp2_with fail
        generalize w.heap.size = b1 at *
        refine wp_region_quiet_tail (C := fun w' => Kx (fun _ => False) w2 w') 7 (by kernel_rfl) (by kernel_rfl) (Kx.refl _ _).drew ?_
        refine quiet_val rfl (.pointer (some ⟨B.q, 0, none⟩)) (fun w' hC => by go_simp) ?_
        refine quiet_val rfl (.pointer (some ⟨B.q, 0, none⟩)) (fun w' hC => by go_simp) ?_
        refine quiet_val rfl (.pointer (some ⟨B.q, 0, none⟩)) (fun w' hC => by go_simp) ?_
        refine quiet_val rfl (.pointer (some ⟨B.d, 0, none⟩)) (fun w' hC => by
          have hc0 : w'.cell? ⟨B.q, 0, none⟩ = some (.pointer (some ⟨B.d, 0, none⟩)) := Cb.cell (hw2.wq.kept hC id) 0
          go_simp) ?_
        refine quiet_val rfl (.pointer (some ⟨b1, 1, none⟩)) (fun w' hC => by go_simp) ?_
        refine quiet_val rfl (.string ⟨ref.toArray⟩) (fun w' hC => by
          have hc0 : w'.cell? ⟨b1, 1, none⟩ = some (.string ⟨ref.toArray⟩) := Cb.cell (hbx2.kept hC id) 1
          go_simp) ?_
        refine quiet_val rfl (.pointer (some ⟨b, 0, none⟩)) (fun w' hC => by go_simp) ?_
        refine wpQuiet_nil (fun w' hC => ?_)
        simp only [Act.put, sI, sS, sZ, List.drop_succ_cons, List.drop_zero]
        have h3 := hw2.kept hC
        have hk4 := hk3.trans hC
        have hcall := setRefW_any h3 hn ref href (some c) (some ⟨b, 0, none⟩) ⟨b, rfl, hcm2.kept hC (fun _ _ h => h.elim)⟩
        clear hw2 hC hbx2 hk3
        go_wp2_with fail
        refine hcall.mono ?_
        rintro _ w4 ⟨rfl, hw4, hk5⟩
        have hk6 : Kx B.X w w4 := (hk4.mono (fun _ _ h => h.elim)).trans (hk5.mono (fun _ _ e => .inr (.inr (.inl e))))
        clear hcall
        go_wp2
        go_ret
        have hq := HRR.out
        rw [hr] at hq
        rw [← hq]
        exact ⟨rfl, fun _ => hw4, hk6⟩
    · clear hz
      go_enter Tryz.func174, Tryz.ntmps174
      go_wp2_with fail
      refine hcom.mono ?_
      rintro e w2 ⟨hR, hk2⟩
      have hk3 := hA.trans hk2
      have hw2 := h1.kept hk2
      have hbx2 := hbx.kept hk2 id
      clear hcom hA hbx
      cases hr : Pd.comOf W ⟨fm, fr⟩ with
      | none =>
        rw [hr] at hR
        obtain rfl := hR
        go_wp2
        go_ret
        have hq := HRR.out
        rw [hr] at hq
        rw [← hq]
        exact ⟨rfl, fun e => (by cases e), hk3.mono (fun _ _ h => h.elim)⟩
      | some c =>
        rw [hr] at hR
        obtain ⟨b, rfl, hcm⟩ := hR
        have hcm2 := hcm.kept hk2 (fun _ _ h => h.elim)
        clear hk2 hcm h1
        go_wp2_with fail
        generalize w.heap.size = b1 at *
        refine wp_region_quiet_tail (C := fun w' => Kx (fun _ => False) w2 w') 7 (by kernel_rfl) (by kernel_rfl) (Kx.refl _ _).drew ?_
        refine quiet_val rfl (.pointer (some ⟨B.q, 0, none⟩)) (fun w' hC => by go_simp) ?_
        refine quiet_val rfl (.pointer (some ⟨B.q, 0, none⟩)) (fun w' hC => by go_simp) ?_
        refine quiet_val rfl (.pointer (some ⟨B.q, 0, none⟩)) (fun w' hC => by go_simp) ?_
        refine quiet_val rfl (.pointer (some ⟨B.d, 0, none⟩)) (fun w' hC => by
          have hc0 : w'.cell? ⟨B.q, 0, none⟩ = some (.pointer (some ⟨B.d, 0, none⟩)) := Cb.cell (hw2.wq.kept hC id) 0
          go_simp) ?_
        refine quiet_val rfl (.pointer (some ⟨b1, 1, none⟩)) (fun w' hC => by go_simp) ?_
        refine quiet_val rfl (.string ⟨ref.toArray⟩) (fun w' hC => by
          have hc0 : w'.cell? ⟨b1, 1, none⟩ = some (.string ⟨ref.toArray⟩) := Cb.cell (hbx2.kept hC id) 1
          go_simp) ?_
        refine quiet_val rfl (.pointer (some ⟨b, 0, none⟩)) (fun w' hC => by go_simp) ?_
        refine wpQuiet_nil (fun w' hC => ?_)
        simp only [Act.put, sI, sS, sZ, List.drop_succ_cons, List.drop_zero]
        have h3 := hw2.kept hC
        have hk4 := hk3.trans hC
        have hcall := setRefW_any h3 hn ref href (some c) (some ⟨b, 0, none⟩) ⟨b, rfl, hcm2.kept hC (fun _ _ h => h.elim)⟩
        clear hw2 hC hbx2 hk3
        go_wp2_with fail
        refine hcall.mono ?_
        rintro _ w4 ⟨rfl, hw4, hk5⟩
        have hk6 : Kx B.X w w4 := (hk4.mono (fun _ _ h => h.elim)).trans (hk5.mono (fun _ _ e => .inr (.inr (.inl e))))
        clear hcall
        go_wp2
        go_ret
        have hq := HRR.out
        rw [hr] at hq
        rw [← hq]
        exact ⟨rfl, fun _ => hw4, hk6⟩

set_option maxHeartbeats 800000 in
set_option maxRecDepth 100000 in
theorem tagM_any (mb : Nat) (name msg : List UInt8) (b : Nat) (c : Com) (M : Nat → Prop) (w0 w : World) (hk0 : Kx (fun _ => False) w0 w) (hgl : Gl w) (hK : Cb mb (A32 Sh.K) 281 w) (hc : Cmt M w0 b c) (h1 : name.length ≤ 1000) (h2 : msg.length ≤ 1000) :
    Calls Tryz.prog 241 #[.pointer (some ⟨mb, 0, none⟩), .string ⟨name.toArray⟩, .pointer (some ⟨b, 0, none⟩), .string ⟨msg.toArray⟩] w fun e w' => ∃ t, e = .returned (.pointer (some ⟨t, 0, none⟩)) ∧ w.heap.size ≤ t ∧
      Cb t #[.int .i64 4, .string ⟨(Pd.tagText c name msg).toArray⟩, .string ⟨(Sh.idK Sh.K 4 (Pd.tagText c name msg)).toArray⟩, .string ⟨name.toArray⟩, .pointer (some ⟨b, 0, none⟩), .string ⟨msg.toArray⟩] 187 w' ∧ Kx (fun _ => False) w w' := by
  have hid := (hk0.cell (p := ⟨b, 2, none⟩) (lt_of_cell (p := ⟨b, 2, none⟩) hc.id) id).trans hc.id
  have hlen : (Sh.hex c.sum).length = 64 := by rw [hex_len, hc.sum]
  have htx : Pd.tagText c name msg = 111 :: 98 :: 106 :: 101 :: 99 :: 116 :: 32 :: (Sh.hex c.sum ++ 10 :: 116 :: 97 :: 103 :: 32 :: (name ++ 10 :: 10 :: msg)) := by unfold Pd.tagText; simp
  have htl : (Pd.tagText c name msg).length ≤ 45000 := by
    rw [htx]
    simp only [List.length_cons, List.length_append]
    omega
  have hobj := object_any Sh.K K72 mb 281 4 (Pd.tagText c name msg) w hgl hK (by omega) htl
  rw [htx] at hobj htl ⊢
  clear htx hc
  generalize Sh.hex c.sum = ci at *
  obtain ⟨ti, hti⟩ : ∃ ti, Sh.idK Sh.K 4 (111 :: 98 :: 106 :: 101 :: 99 :: 116 :: 32 :: (ci ++ 10 :: 116 :: 97 :: 103 :: 32 :: (name ++ 10 :: 10 :: msg))) = ti := ⟨_, rfl⟩
  rw [hti] at hobj ⊢
  clear hti
  have hcat : ∀ a b : List UInt8, (⟨a.toArray⟩ : ByteArray) ++ ⟨b.toArray⟩ = ⟨(a ++ b).toArray⟩ := fun a b => by
    apply ByteArray.ext; simp
  have hmx : maxLen = 9223372036854775807 := rfl
  go_enter Tryz.func241, Tryz.ntmps241
  go_wp2_with fail
  refine hobj.mono ?_
  rintro _ w2 ⟨rfl, hk2⟩
  have hkF := hk2.alloc (.cells #[.int .i64 4, .string ⟨(111 :: 98 :: 106 :: 101 :: 99 :: 116 :: 32 :: (ci ++ 10 :: 116 :: 97 :: 103 :: 32 :: (name ++ 10 :: 10 :: msg))).toArray⟩, .string ⟨ti.toArray⟩, .string ⟨name.toArray⟩, .pointer (some ⟨b, 0, none⟩), .string ⟨msg.toArray⟩] 187)
  have hcb := Cb.new #[.int .i64 4, .string ⟨(111 :: 98 :: 106 :: 101 :: 99 :: 116 :: 32 :: (ci ++ 10 :: 116 :: 97 :: 103 :: 32 :: (name ++ 10 :: 10 :: msg))).toArray⟩, .string ⟨ti.toArray⟩, .string ⟨name.toArray⟩, .pointer (some ⟨b, 0, none⟩), .string ⟨msg.toArray⟩] 187 w2
  have hsz := hk2.size
  clear hobj hid hcat
  go_wp2
  go_ret
  exact ⟨_, rfl, hsz, hcb, hkF⟩

end Go.Proofs.YtepgoppgblfjbaaGreatDoor
