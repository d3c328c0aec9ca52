import Derived.Test.YtepgoppgblfjbaaGreatDoorGw27
namespace Go.Proofs.YtepgoppgblfjbaaGreatDoor
open Go.RowKit

set_option maxHeartbeats 400000 in
theorem wwhich_any (b n m : Nat) (head r : List UInt8) (g : Option Nat) (w : World) (h : Wd b n g w) (hgl : Gl w) (hm : m ≤ 1000000) (hl : n + head.length + r.length + 24 ≤ 1000000) :
    Calls Tryz.prog 236 #[.pointer (some ⟨b, 0, none⟩), .string ⟨head.toArray⟩, .agg #[.int .i64 (m : Int), .string ⟨r.toArray⟩]] w fun e w' => e = .returned (.tuple #[]) ∧ WdR b (n + head.length + r.length + 24) g w w' := by
  have hmx : maxLen = 9223372036854775807 := rfl
  have happ := app_str
  have hA := (Kx.refl (fun _ => False) w).alloc (.cells #[.int .i64 (m : Int), .string ⟨r.toArray⟩] 154)
  have hglA := hgl.kept hA (fun _ _ => id)
  by_cases h0 : 0 < m
  · have h1 : (0 : Int) < (m : Int) := by omega
    have hmt := markText_any m hm _ hglA
    have ht := mkT_len m hm
    generalize mkT m = t at *
    go_enter Tryz.func236, Tryz.ntmps236
    go_wp2_with fail
    refine hmt.mono ?_
    rintro _ w1 ⟨rfl, hk1⟩
    clear hmt
    have hk2 := hA.trans hk1
    have hline := wline_any b n (head ++ t) g w1 (h.same hk2) (by rw [List.length_append]; omega)
    go_wp2_with fail
    refine hline.mono ?_
    rintro _ w2 ⟨rfl, hR⟩
    clear hline
    go_wp2
    go_end0
    exact ⟨rfl, (WdR.after h hk2 rfl hR).more (by rw [List.length_append]; omega)⟩
  · have h1 : ¬ (0 : Int) < (m : Int) := by omega
    have hline := wline_any b n (head ++ r) g _ (h.same hA) (by rw [List.length_append]; omega)
    go_enter Tryz.func236, Tryz.ntmps236
    go_wp2_with fail
    refine hline.mono ?_
    rintro _ w2 ⟨rfl, hR⟩
    clear hline
    go_wp2
    go_end0
    exact ⟨rfl, (WdR.after h hA rfl hR).more (by rw [List.length_append]; omega)⟩

set_option maxHeartbeats 400000 in
theorem wfrom_any (b n m : Nat) (r : List UInt8) (g : Option Nat) (w : World) (h : Wd b n g w) (hgl : Gl w) (hm : m ≤ 1000000) (hl : n + r.length + 30 ≤ 1000000) :
    Calls Tryz.prog 235 #[.pointer (some ⟨b, 0, none⟩), .agg #[.int .i64 (m : Int), .string ⟨r.toArray⟩]] w fun e w' => e = .returned (.tuple #[]) ∧ WdR b (n + r.length + 30) g w w' := by
  have hmx : maxLen = 9223372036854775807 := rfl
  have hA := (Kx.refl (fun _ => False) w).alloc (.cells #[.int .i64 (m : Int), .string ⟨r.toArray⟩] 154)
  have hglA := hgl.kept hA (fun _ _ => id)
  by_cases h0 : m = 0 ∧ r = []
  · obtain ⟨rfl, rfl⟩ := h0
    go_enter Tryz.func235, Tryz.ntmps235
    go_wp2
    go_end0
    exact ⟨rfl, ⟨g, (h.same hA).more (by omega), .inl rfl, hA.mono (fun _ _ e => e.elim)⟩⟩
  · have hwh := wwhich_any b n m [102, 114, 111, 109, 32] r g _ (h.same hA) hglA hm (by simp only [List.length_cons, List.length_nil]; omega)
    by_cases hm0 : m = 0
    · have hr : (r == ([] : List UInt8)) = false := by cases r with | nil => exact absurd ⟨hm0, rfl⟩ h0 | cons a l => rfl
      subst hm0
      go_enter Tryz.func235, Tryz.ntmps235
      go_wp2_with fail
      refine hwh.mono ?_
      rintro _ w2 ⟨rfl, hR⟩
      clear hwh
      go_wp2
      go_end0
      exact ⟨rfl, (WdR.after h hA rfl hR).more (by simp only [List.length_cons, List.length_nil]; omega)⟩
    · have hm1 : ¬ (m : Int) = 0 := by omega
      have hm2 : ((m : Int) == 0) = false := by simpa using hm1
      go_enter Tryz.func235, Tryz.ntmps235
      go_wp2_with fail
      refine hwh.mono ?_
      rintro _ w2 ⟨rfl, hR⟩
      clear hwh
      go_wp2
      go_end0
      exact ⟨rfl, (WdR.after h hA rfl hR).more (by simp only [List.length_cons, List.length_nil]; omega)⟩

def chgV (word mode : List UInt8) (m : Nat) (data path dst : List UInt8) : Array Value := #[.string ⟨word.toArray⟩, .string ⟨mode.toArray⟩, .int .i64 (m : Int), .string ⟨data.toArray⟩, .string ⟨path.toArray⟩, .string ⟨dst.toArray⟩]

set_option maxHeartbeats 800000 in
set_option maxRecDepth 100000 in
theorem wput_any (b n m : Nat) (word mode data path dst : List UInt8) (g : Option Nat) (w : World) (h : Wd b n g w) (hgl : Gl w) (hm : m ≤ 1000000) (hl : n + mode.length + path.length + data.length + 80 ≤ 1000000) :
    Calls Tryz.prog 302 #[.pointer (some ⟨b, 0, none⟩), .agg (chgV word mode m data path dst)] w fun e w' => e = .returned (.tuple #[]) ∧ WdR b (n + mode.length + path.length + data.length + 80) g w w' := by
  have hmx : maxLen = 9223372036854775807 := rfl
  have happ := app_str
  have hbx := Cb.new (chgV word mode m data path dst) 332 w
  have hA := (Kx.refl (fun _ => False) w).alloc (.cells (chgV word mode m data path dst) 332)
  unfold chgV at hbx hA ⊢
  have hglA := hgl.kept hA (fun _ _ => id)
  have hwA := h.same hA
  by_cases h0 : 0 < m
  · have h1 : (0 : Int) < (m : Int) := by omega
    have hmt := fun w hw => markText_any m hm w hw
    have ht := mkT_len m hm
    generalize mkT m = t at *
    go_enter Tryz.func302, Tryz.ntmps302
    go_wp2_with fail
    revert hbx hA hglA hwA
    generalize w.alloc (.cells #[.string ⟨word.toArray⟩, .string ⟨mode.toArray⟩, .int .i64 (m : Int), .string ⟨data.toArray⟩, .string ⟨path.toArray⟩, .string ⟨dst.toArray⟩] 332) = w1
    generalize w.heap.size = k
    intro hbx hA hglA hwA
    refine wp_region_quiet_tail (C := fun w' => Kx (fun _ => False) w1 w') 13 (by kernel_rfl) (by kernel_rfl) (Kx.refl _ _).drew ?_
    refine quiet_val rfl (.pointer (some ⟨b, 0, none⟩)) (fun w' hC => by go_simp) ?_
    refine quiet_val rfl (.pointer (some ⟨k, 1, none⟩)) (fun w' hC => by go_simp) ?_
    refine quiet_val rfl (.string ⟨mode.toArray⟩) (fun w' hC => by
      have hc0 : w'.cell? ⟨k, 1, none⟩ = some (.string ⟨mode.toArray⟩) := Cb.cell (hbx.kept hC id) 1
      go_simp) ?_
    refine quiet_val rfl (.string ⟨(77 :: 32 :: mode).toArray⟩) (fun w' hC => by go_simp; omega) ?_
    refine quiet_val rfl (.string ⟨(77 :: 32 :: (mode ++ [32])).toArray⟩) (fun w' hC => by go_simp; omega) ?_
    refine quiet_val rfl (.pointer (some ⟨k, 2, none⟩)) (fun w' hC => by go_simp) ?_
    refine quiet_val rfl (.int .i64 (m : Int)) (fun w' hC => by
      have hc0 : w'.cell? ⟨k, 2, none⟩ = some (.int .i64 (m : Int)) := Cb.cell (hbx.kept hC id) 2
      go_simp) ?_
    refine quiet_enter rfl 291 #[.int .i64 (m : Int)] (.string ⟨t.toArray⟩) (fun w' => by go_simp) (fun w' hC => (hmt w' (hglA.kept hC (fun _ _ => id))).mono (fun e w'' hq => ⟨hq.1, hC.trans hq.2⟩)) ?_
    refine quiet_val rfl (.string ⟨(77 :: 32 :: (mode ++ 32 :: t)).toArray⟩) (fun w' hC => by go_simp; omega) ?_
    refine quiet_val rfl (.string ⟨(77 :: 32 :: (mode ++ 32 :: (t ++ [32]))).toArray⟩) (fun w' hC => by go_simp; omega) ?_
    refine quiet_val rfl (.pointer (some ⟨k, 4, none⟩)) (fun w' hC => by go_simp) ?_
    refine quiet_val rfl (.string ⟨path.toArray⟩) (fun w' hC => by
      have hc0 : w'.cell? ⟨k, 4, none⟩ = some (.string ⟨path.toArray⟩) := Cb.cell (hbx.kept hC id) 4
      go_simp) ?_
    refine quiet_val rfl (.string ⟨(77 :: 32 :: (mode ++ 32 :: (t ++ 32 :: path))).toArray⟩) (fun w' hC => by go_simp; omega) ?_
    refine wpQuiet_nil (fun w2 hC => ?_)
    simp only [Act.put, sI, sS, sZ, List.drop_succ_cons, List.drop_zero]
    have hline := wline_any b n (77 :: 32 :: (mode ++ 32 :: (t ++ 32 :: path))) g w2 (hwA.same hC) (by simp only [List.length_cons, List.length_append]; omega)
    have hk2 := hA.trans hC
    go_wp2_with fail
    refine hline.mono ?_
    rintro _ w3 ⟨rfl, hR⟩
    clear hline
    go_wp2
    refine bodyPost_ret (results_none rfl _ _ _) rfl ?_
    exact ⟨rfl, (WdR.after h hk2 rfl hR).more (by simp only [List.length_cons, List.length_append]; omega)⟩
  · have h1 : ¬ (0 : Int) < (m : Int) := by omega
    have hline := wline_any b n (77 :: 32 :: (mode ++ 32 :: 105 :: 110 :: 108 :: 105 :: 110 :: 101 :: 32 :: path)) g _ hwA (by simp only [List.length_cons, List.length_append]; omega)
    have hc3 := Cb.cell hbx 3
    go_enter Tryz.func302, Tryz.ntmps302
    go_wp2_with fail
    refine hline.mono ?_
    rintro _ w2 ⟨rfl, hR⟩
    clear hline
    obtain ⟨g2, hW2, hg2, hk2⟩ := (WdR.after h hA rfl hR).more (n' := n + mode.length + path.length + 12) (by simp only [List.length_cons, List.length_append]; omega)
    have hlt := h.lt
    have hglt := h.glt
    have hc4 : w2.cell? ⟨w.heap.size, 3, none⟩ = some (.string ⟨data.toArray⟩) := by
      obtain ⟨_, _, _, hk3⟩ := hR
      refine (hk3.cell (p := ⟨w.heap.size, 3, none⟩) (lt_of_cell (p := ⟨w.heap.size, 3, none⟩) hc3) (fun e => ?_)).trans hc3
      rcases e with e | e
      · have e' : w.heap.size = b := e
        omega
      · have := hglt _ e.symm
        exact absurd this (Nat.lt_irrefl _)
    have hgl2 : Gl w2 := hgl.kept hk2 (fun k hk e => by
      rcases e with e | e
      · have := h.hb; omega
      · have := h.hg k e.symm; omega)
    have hdat := wdata_any b (n + mode.length + path.length + 12) data g2 w2 hW2 hgl2 (by omega)
    clear hR hc3
    go_wp2_with fail
    refine hdat.mono ?_
    rintro _ w3 ⟨rfl, hR3⟩
    clear hdat
    have hF := WdR.trans hg2 hk2 (hR3.more (n' := n + mode.length + path.length + data.length + 80) (by omega))
    go_wp2
    go_end0
    exact ⟨rfl, hF⟩

theorem Wd.box {b n : Nat} {g : Option Nat} {w w' : World} {o : Obj} (h : Wd b n g w) (hk : Kx (BdX b g) (w.alloc o) w') : ∀ (i : Nat) (v : Value), (w.alloc o).cell? ⟨w.heap.size, i, none⟩ = some v → w'.cell? ⟨w.heap.size, i, none⟩ = some v := by
  intro i v hc
  refine (hk.cell (p := ⟨w.heap.size, i, none⟩) (lt_of_cell (p := ⟨w.heap.size, i, none⟩) hc) (fun e => ?_)).trans hc
  have hlt := h.lt
  rcases e with e | e
  · have e' : w.heap.size = b := e
    omega
  · have := h.glt _ e.symm
    exact absurd this (Nat.lt_irrefl _)

theorem Wd.gl {b n : Nat} {g : Option Nat} {w w' : World} (h : Wd b n g w) (hgl : Gl w) (hk : Kx (BdX b g) w w') : Gl w' :=
  hgl.kept hk (fun k hk e => by
    rcases e with e | e
    · have := h.hb; omega
    · have := h.hg k e.symm; omega)

set_option maxHeartbeats 800000 in
set_option maxRecDepth 100000 in
theorem wchange_any (b n m : Nat) (word mode data path dst : List UInt8) (g : Option Nat) (w : World) (h : Wd b n g w) (hgl : Gl w) (hm : m ≤ 1000000) (hl : n + mode.length + path.length + data.length + 80 ≤ 1000000) (hw : word = [77] ∨ word = [68]) :
    Calls Tryz.prog 237 #[.pointer (some ⟨b, 0, none⟩), .agg (chgV word mode m data path dst)] w fun e w' => e = .returned (.tuple #[]) ∧ WdR b (n + mode.length + path.length + data.length + 80) g w w' := by
  have hmx : maxLen = 9223372036854775807 := rfl
  have happ := app_str
  have hA := (Kx.refl (fun _ => False) w).alloc (.cells (chgV word mode m data path dst) 332)
  have hglA := hgl.kept hA (fun _ _ => id)
  have hwA := h.same hA
  have hput := wput_any b n m word mode data path dst g _ hwA hglA hm hl
  have hline := wline_any b n (68 :: 32 :: path) g _ hwA (by simp only [List.length_cons]; omega)
  unfold chgV at hA hput hline ⊢
  rcases hw with rfl | rfl
  · clear hline hwA hglA
    go_enter Tryz.func237, Tryz.ntmps237
    go_wp2_with fail
    refine hput.mono ?_
    rintro _ w2 ⟨rfl, hR⟩
    clear hput
    go_wp2
    go_end0
    exact ⟨rfl, WdR.after h hA rfl hR⟩
  · clear hput hwA hglA
    go_enter Tryz.func237, Tryz.ntmps237
    go_wp2_with fail
    refine hline.mono ?_
    rintro _ w2 ⟨rfl, hR⟩
    clear hline
    go_wp2
    go_end0
    exact ⟨rfl, (WdR.after h hA rfl hR).more (by simp only [List.length_cons]; omega)⟩

def cmdV (word ref : List UInt8) (m : Nat) (au : Au) (data : List UInt8) (fm : Nat) (fr : List UInt8) (vm vc : Value) : Array Value :=
  #[.string ⟨word.toArray⟩, .string ⟨ref.toArray⟩, .int .i64 (m : Int), .string ⟨au.name.toArray⟩, .string ⟨au.mail.toArray⟩, .int .i64 au.time, .string ⟨data.toArray⟩, .int .i64 (fm : Int), .string ⟨fr.toArray⟩, vm, vc]

section
variable (b n m fm : Nat) (word ref data fr : List UInt8) (au : Au) (vm vc : Value) (g : Option Nat) (w : World)

set_option maxHeartbeats 800000 in
set_option maxRecDepth 100000 in
theorem wblob_any (h : Wd b n g w) (hgl : Gl w) (hm : m ≤ 1000000) (hl : n + data.length + 100 ≤ 1000000) :
    Calls Tryz.prog 166 #[.pointer (some ⟨b, 0, none⟩), .agg (cmdV word ref m au data fm fr vm vc)] w fun e w' => e = .returned (.tuple #[]) ∧ WdR b (n + data.length + 100) g w w' := by
  have hmx : maxLen = 9223372036854775807 := rfl
  have hbx := Cb.new (cmdV word ref m au data fm fr vm vc) 158 w
  have hA := (Kx.refl (fun _ => False) w).alloc (.cells (cmdV word ref m au data fm fr vm vc) 158)
  have hglA := hgl.kept hA (fun _ _ => id)
  have hwA := h.same hA
  have hbox := fun w' hk => Wd.box (o := .cells (cmdV word ref m au data fm fr vm vc) 158) (w' := w') h hk
  have c2 := Cb.cell hbx 2
  have c6 := Cb.cell hbx 6
  have hline := wline_any b n [98, 108, 111, 98] g _ hwA (by simp only [List.length_cons, List.length_nil]; omega)
  unfold cmdV at hbx hA hglA hwA hbox c2 c6 hline ⊢
  go_enter Tryz.func166, Tryz.ntmps166
  go_wp2_with fail
  refine hline.mono ?_
  rintro _ w1 ⟨rfl, g1, W1, hg1, hk1⟩
  have d2 := hbox w1 hk1 2 _ c2
  have hmk := wmark_any b _ m g1 w1 W1 (hwA.gl hglA hk1) hm (by simp only [List.length_cons, List.length_nil]; omega)
  clear hline
  go_wp2_with fail
  refine hmk.mono ?_
  rintro _ w2 ⟨rfl, hR2⟩
  obtain ⟨g2, W2, hg2, hk2⟩ := WdR.trans hg1 hk1 hR2
  have d6 := hbox w2 hk2 6 _ c6
  have hda := wdata_any b _ data g2 w2 W2 (hwA.gl hglA hk2) (by simp only [List.length_cons, List.length_nil]; omega)
  clear hmk hR2 d2
  go_wp2_with fail
  refine hda.mono ?_
  rintro _ w3 ⟨rfl, hR3⟩
  have hF := WdR.after h hA rfl (WdR.trans hg2 hk2 (hR3.more (n' := n + data.length + 100) (by simp only [List.length_cons, List.length_nil]; omega)))
  clear hda hR3 d6
  go_wp2
  go_end0
  exact ⟨rfl, hF⟩

set_option maxHeartbeats 800000 in
set_option maxRecDepth 100000 in
theorem wtag_any (h : Wd b n g w) (hgl : Gl w) (hm : fm ≤ 1000000) (hl : n + data.length + ref.length + fr.length + 100 ≤ 1000000) :
    Calls Tryz.prog 172 #[.pointer (some ⟨b, 0, none⟩), .agg (cmdV word ref m au data fm fr vm vc)] w fun e w' => e = .returned (.tuple #[]) ∧ WdR b (n + data.length + ref.length + fr.length + 100) g w w' := by
  have hmx : maxLen = 9223372036854775807 := rfl
  have happ := app_str
  have hbx := Cb.new (cmdV word ref m au data fm fr vm vc) 158 w
  have hA := (Kx.refl (fun _ => False) w).alloc (.cells (cmdV word ref m au data fm fr vm vc) 158)
  have hglA := hgl.kept hA (fun _ _ => id)
  have hwA := h.same hA
  have hbox := fun w' hk => Wd.box (o := .cells (cmdV word ref m au data fm fr vm vc) 158) (w' := w') h hk
  have c6 := Cb.cell hbx 6
  have c7 := Cb.cell hbx 7
  have c8 := Cb.cell hbx 8
  have hline := wline_any b n (116 :: 97 :: 103 :: 32 :: ref) g _ hwA (by simp only [List.length_cons]; omega)
  unfold cmdV at hbx hA hglA hwA hbox c6 c7 c8 hline ⊢
  go_enter Tryz.func172, Tryz.ntmps172
  go_wp2_with fail
  refine hline.mono ?_
  rintro _ w1 ⟨rfl, g1, W1, hg1, hk1⟩
  have d7 := hbox w1 hk1 7 _ c7
  have d8 := hbox w1 hk1 8 _ c8
  have hwh := wwhich_any b _ fm [102, 114, 111, 109, 32] fr g1 w1 W1 (hwA.gl hglA hk1) hm (by simp only [List.length_cons, List.length_nil]; omega)
  clear hline
  go_wp2_with fail
  refine hwh.mono ?_
  rintro _ w2 ⟨rfl, hR2⟩
  obtain ⟨g2, W2, hg2, hk2⟩ := WdR.trans hg1 hk1 hR2
  have d6 := hbox w2 hk2 6 _ c6
  have hda := wdata_any b _ data g2 w2 W2 (hwA.gl hglA hk2) (by simp only [List.length_cons, List.length_nil]; omega)
  clear hwh hR2 d7 d8
  go_wp2_with fail
  refine hda.mono ?_
  rintro _ w3 ⟨rfl, hR3⟩
  have hF := WdR.after h hA rfl (WdR.trans hg2 hk2 (hR3.more (n' := n + data.length + ref.length + fr.length + 100) (by simp only [List.length_cons, List.length_nil]; omega)))
  clear hda hR3 d6
  go_wp2
  go_end0
  exact ⟨rfl, hF⟩

set_option maxHeartbeats 800000 in
set_option maxRecDepth 100000 in
theorem wreset_any (h : Wd b n g w) (hgl : Gl w) (hm : fm ≤ 1000000) (hl : n + ref.length + fr.length + 100 ≤ 1000000) :
    Calls Tryz.prog 175 #[.pointer (some ⟨b, 0, none⟩), .agg (cmdV word ref m au data fm fr vm vc)] w fun e w' => e = .returned (.tuple #[]) ∧ WdR b (n + ref.length + fr.length + 100) g w w' := by
  have hmx : maxLen = 9223372036854775807 := rfl
  have happ := app_str
  have hbx := Cb.new (cmdV word ref m au data fm fr vm vc) 158 w
  have hA := (Kx.refl (fun _ => False) w).alloc (.cells (cmdV word ref m au data fm fr vm vc) 158)
  have hglA := hgl.kept hA (fun _ _ => id)
  have hwA := h.same hA
  have hbox := fun w' hk => Wd.box (o := .cells (cmdV word ref m au data fm fr vm vc) 158) (w' := w') h hk
  have c7 := Cb.cell hbx 7
  have c8 := Cb.cell hbx 8
  have hline := wline_any b n (114 :: 101 :: 115 :: 101 :: 116 :: 32 :: ref) g _ hwA (by simp only [List.length_cons]; omega)
  unfold cmdV at hbx hA hglA hwA hbox c7 c8 hline ⊢
  go_enter Tryz.func175, Tryz.ntmps175
  go_wp2_with fail
  refine hline.mono ?_
  rintro _ w1 ⟨rfl, g1, W1, hg1, hk1⟩
  have d7 := hbox w1 hk1 7 _ c7
  have d8 := hbox w1 hk1 8 _ c8
  have hwh := wfrom_any b _ fm fr g1 w1 W1 (hwA.gl hglA hk1) hm (by simp only [List.length_cons]; omega)
  clear hline
  go_wp2_with fail
  refine hwh.mono ?_
  rintro _ w2 ⟨rfl, hR2⟩
  obtain ⟨g2, W2, hg2, hk2⟩ := WdR.trans hg1 hk1 hR2
  have hda := wline_any b _ [] g2 w2 W2 (by simp only [List.length_cons, List.length_nil]; omega)
  clear hwh hR2 d7 d8
  go_wp2_with fail
  refine hda.mono ?_
  rintro _ w3 ⟨rfl, hR3⟩
  have hF := WdR.after h hA rfl (WdR.trans hg2 hk2 (hR3.more (n' := n + ref.length + fr.length + 100) (by simp only [List.length_cons, List.length_nil]; omega)))
  clear hda hR3
  go_wp2
  go_end0
  exact ⟨rfl, hF⟩
end

structure Chg where
  (word mode : List UInt8)
  m : Nat
  (data path dst : List UInt8)
def whC1 (x : Nat × List UInt8) : List Value := [.int .i64 (x.1 : Int), .string ⟨x.2.toArray⟩]
def chC1 (c : Chg) : List Value := (chgV c.word c.mode c.m c.data c.path c.dst).toList

theorem flatN_at {α : Type} (f : α → List Value) (N : Nat) (hf : ∀ x, (f x).length = N) : ∀ (l : List α) (i j : Nat) (hi : i < l.length), j < N → (l.flatMap f)[i * N + j]? = (f l[i])[j]?
  | [], i, j, hi, _ => absurd hi (Nat.not_lt_zero _)
  | x :: l, 0, j, _, hj => by
    rw [List.flatMap_cons, Nat.zero_mul, Nat.zero_add, List.getElem?_append_left (by rw [hf]; exact hj)]
    rfl
  | x :: l, i + 1, j, hi, hj => by
    have e : (i + 1) * N + j = N + (i * N + j) := by rw [Nat.add_mul, Nat.one_mul]; omega
    rw [List.flatMap_cons, e, List.getElem?_append_right (by rw [hf]; omega), hf, Nat.add_sub_cancel_left, flatN_at f N hf l i j (by simpa using hi) hj]
    rfl

structure Outs (w : World) (b : Nat) (g : Option Nat) (vm vc : Value) (ms : List (Nat × List UInt8)) (cs : List Chg) : Prop where
  rm : Reads w vm ms.length (ms.flatMap whC1)
  rc : Reads w vc cs.length (cs.flatMap chC1)
  bm : ∀ k, vm.ownBlock = some k → ¬ BdX b g k
  bc : ∀ k, vc.ownBlock = some k → ¬ BdX b g k
  lm : ms.length ≤ 4 ∧ ∀ x ∈ ms, x.1 ≤ 1000000 ∧ x.2.length ≤ 100
  lc : cs.length ≤ 30 ∧ ∀ c ∈ cs, c.m ≤ 1000000 ∧ c.mode.length ≤ 20 ∧ c.data.length ≤ 100 ∧ c.path.length ≤ 100 ∧ (c.word = [77] ∨ c.word = [68])

theorem wstr_any (b n : Nat) (t : List UInt8) (g : Option Nat) (w : World) (h : Wd b n g w) (ht : 0 < t.length) (hl : n + t.length ≤ 1000000) :
    Calls Tryz.prog 192 #[.pointer (some ⟨b, 0, none⟩), .string ⟨t.toArray⟩] w fun e w' => e = .returned (.tuple #[.int .i64 t.length, .nilIface]) ∧ WdR b (n + t.length) g w w' := by
  obtain ⟨l, hB, hln⟩ := h.ex
  refine (writeString_anyW b l t g w hB ht (by omega)).mono ?_
  rintro _ w1 ⟨rfl, g', h1, h2, h3⟩
  refine ⟨rfl, g', ⟨⟨_, h1, by rw [List.length_append]; omega⟩, h.hb, fun k e => ?_⟩, h2, h3⟩
  rcases h2 with rfl | ⟨k', e', hl'⟩
  · exact h.hg k e
  · rw [e'] at e
    cases e
    have := h.hb
    have := h.lt
    omega

theorem line_lens (a : Au) (h1 : a.name.length ≤ 1000) (h2 : a.mail.length ≤ 1000) (ht : 0 ≤ a.time ∧ a.time ≤ 9999999999) : 0 < (Pf.line a).length ∧ (Pf.line a).length ≤ 2040 := by
  have hl := Lib.itoa_length_le a.time (by omega) (by omega)
  unfold Pf.line
  simp only [List.length_append, List.length_cons, List.length_nil]
  omega

section
variable (b n m fm : Nat) (word ref data fr : List UInt8) (au : Au) (vm vc : Value) (ms : List (Nat × List UInt8)) (cs : List Chg) (g : Option Nat) (w : World)

set_option maxHeartbeats 3130000 in
set_option maxRecDepth 100000 in
theorem wcommit_any (h : Wd b n g w) (hgl : Gl w) (hm : m ≤ 1000000) (hfm : fm ≤ 1000000) (ho : Outs w b g vm vc ms cs) (hn1 : au.name.length ≤ 1000) (hn2 : au.mail.length ≤ 1000) (ht : 0 ≤ au.time ∧ au.time ≤ 9999999999) (hl : n + data.length + ref.length + fr.length + 13000 ≤ 1000000) :
    Calls Tryz.prog 169 #[.pointer (some ⟨b, 0, none⟩), .agg (cmdV word ref m au data fm fr vm vc)] w fun e w' => e = .returned (.tuple #[]) ∧ WdR b (n + data.length + ref.length + fr.length + 13000) g w w' := by
  have hmx : maxLen = 9223372036854775807 := rfl
  have happ := app_str
  obtain ⟨vma, vmc, rfl, _, hrm⟩ := ho.rm
  obtain ⟨vca, vcc, rfl, _, hrc⟩ := ho.rc
  have hbx := Cb.new (cmdV word ref m au data fm fr (.slice vma ms.length vmc) (.slice vca cs.length vcc)) 158 w
  have hA := (Kx.refl (fun _ => False) w).alloc (.cells (cmdV word ref m au data fm fr (.slice vma ms.length vmc) (.slice vca cs.length vcc)) 158)
  have hglA := hgl.kept hA (fun _ _ => id)
  have hwA := h.same hA
  have hbox := fun w' hk => Wd.box (o := .cells (cmdV word ref m au data fm fr (.slice vma ms.length vmc) (.slice vca cs.length vcc)) 158) (w' := w') h hk
  have HOA : Hid (Outs (w.alloc (.cells (cmdV word ref m au data fm fr (.slice vma ms.length vmc) (.slice vca cs.length vcc)) 158)) b g (.slice vma ms.length vmc) (.slice vca cs.length vcc) ms cs) := ⟨ho.rm.kept hA (fun _ _ => id), ho.rc.kept hA (fun _ _ => id), ho.bm, ho.bc, ho.lm, ho.lc⟩
  have c1 := Cb.cell hbx 1
  have c2 := Cb.cell hbx 2
  have c3 := Cb.cell hbx 3
  have c4 := Cb.cell hbx 4
  have c5 := Cb.cell hbx 5
  have c6 := Cb.cell hbx 6
  have c7 := Cb.cell hbx 7
  have c8 := Cb.cell hbx 8
  have c9 := Cb.cell hbx 9
  have c10 := Cb.cell hbx 10
  have hlm := ho.lm.1
  have hlc := ho.lc.1
  have hline := wline_any b n (99 :: 111 :: 109 :: 109 :: 105 :: 116 :: 32 :: ref) g _ hwA (by simp only [List.length_cons]; omega)
  clear hrm hrc ho hbx
  have hal := fun w (hw : Gl w) => auline_any au w hw (by omega) (by omega) (by omega) (by omega)
  obtain ⟨hll1, hll2⟩ := line_lens au hn1 hn2 ht
  unfold cmdV Au.cells at *
  generalize Pf.line au = AL at *
  obtain ⟨name, mail, tm⟩ := au
  simp only at *
  go_enter Tryz.func169, Tryz.ntmps169
  go_wp2_with fail
  refine hline.mono ?_
  rintro _ w1 ⟨rfl, g1, W1, hg1, hk1⟩
  have d2 := hbox w1 hk1 2 _ c2
  have hmk := wmark_any b _ m g1 w1 W1 (hwA.gl hglA hk1) hm (by simp only [List.length_cons]; omega)
  clear hline
  go_wp2_with fail
  refine hmk.mono ?_
  rintro _ w2 ⟨rfl, hR2⟩
  obtain ⟨g2, W2, hg2, hk2⟩ := (WdR.trans hg1 hk1 hR2).more (n' := n + ref.length + 40) (by simp only [List.length_cons]; omega)
  clear hmk hR2 d2 W1 hk1 hg1
  go_wp2_with fail
  have hglw2 := hwA.gl hglA hk2
  have d3 := hbox w2 hk2 3 _ c3
  have d4 := hbox w2 hk2 4 _ c4
  have d5 := hbox w2 hk2 5 _ c5
  generalize w.alloc (.cells #[.string ⟨word.toArray⟩, .string ⟨ref.toArray⟩, .int .i64 (m : Int), .string ⟨name.toArray⟩, .string ⟨mail.toArray⟩, .int .i64 tm, .string ⟨data.toArray⟩, .int .i64 (fm : Int), .string ⟨fr.toArray⟩, .slice vma ms.length vmc, .slice vca cs.length vcc] 158) = wA at *
  generalize w.heap.size = k0 at *
  refine wp_region_quiet_tail (C := fun w' => Kx (fun _ => False) w2 w') 6 (by kernel_rfl) (by kernel_rfl) (Kx.refl _ _).drew ?_
  refine quiet_val rfl (.pointer (some ⟨b, 0, none⟩)) (fun w' hC => by go_simp) ?_
  refine quiet_val rfl (.pointer (some ⟨b, 0, none⟩)) (fun w' hC => by go_simp) ?_
  refine quiet_val rfl (.pointer (some ⟨b, 0, none⟩)) (fun w' hC => by go_simp) ?_
  refine quiet_val rfl (.pointer (some ⟨k0, 3, none⟩)) (fun w' hC => by go_simp) ?_
  refine quiet_val rfl (.agg #[.string ⟨name.toArray⟩, .string ⟨mail.toArray⟩, .int .i64 tm]) (fun w' hC => by
    have e3 := (hC.cell (p := ⟨k0, 3, none⟩) (lt_of_cell (p := ⟨k0, 3, none⟩) d3) id).trans d3
    have e4 := (hC.cell (p := ⟨k0, 4, none⟩) (lt_of_cell (p := ⟨k0, 4, none⟩) d4) id).trans d4
    have e5 := (hC.cell (p := ⟨k0, 5, none⟩) (lt_of_cell (p := ⟨k0, 5, none⟩) d5) id).trans d5
    go_simp) ?_
  refine quiet_enter rfl 234 #[.agg #[.string ⟨name.toArray⟩, .string ⟨mail.toArray⟩, .int .i64 tm]] (.string ⟨AL.toArray⟩) (fun w' => by go_simp) (fun w' hC => (hal w' (hglw2.kept hC (fun _ _ => id))).mono (fun e w'' hq => ⟨hq.1, hC.trans hq.2⟩)) ?_
  refine wpQuiet_nil (fun w3 hC => ?_)
  simp only [Act.put, sI, sS, sZ, List.drop_succ_cons, List.drop_zero]
  have hws := wstr_any b _ AL g2 w3 (W2.same hC) hll1 (by omega)
  go_wp2_with fail
  refine hws.mono ?_
  rintro _ w4 ⟨rfl, hR4⟩
  obtain ⟨g4, W4, hg4, hk4⟩ := (WdR.trans hg2 hk2 (WdR.after W2 hC rfl hR4)).more (n' := n + ref.length + 2100) (by omega)
  have d6 := hbox w4 hk4 6 _ c6
  have hda := wdata_any b _ data g4 w4 W4 (hwA.gl hglA hk4) (by omega)
  clear hws hR4 W2 hk2 hg2 d3 d4 d5 hC hal hglw2
  go_wp2_with fail
  refine hda.mono ?_
  rintro _ w5 ⟨rfl, hR5⟩
  obtain ⟨g5, W5, hg5, hk5⟩ := (WdR.trans hg4 hk4 hR5).more (n' := n + data.length + ref.length + 2130) (by omega)
  have d7 := hbox w5 hk5 7 _ c7
  have d8 := hbox w5 hk5 8 _ c8
  have hfr := wfrom_any b _ fm fr g5 w5 W5 (hwA.gl hglA hk5) hfm (by omega)
  clear hda hR5 W4 hk4 hg4 d6
  go_wp2_with fail
  refine hfr.mono ?_
  rintro _ w6 ⟨rfl, hR6⟩
  have HR6 := (WdR.trans hg5 hk5 hR6).more (n' := n + data.length + ref.length + fr.length + 2200) (by omega)
  clear hfr hR6 W5 hk5 hg5 d7 d8
  have d9 : w6.cell? ⟨k0, 9, none⟩ = _ := (let ⟨_, _, _, hk⟩ := HR6; hbox w6 hk 9 _ c9)
  go_wp2_with fail
  clear d9
  go_loopw [35] (fun iv wr => ∃ i : Nat, iv = .int .i64 i ∧ i ≤ ms.length ∧ WdR b (n + data.length + ref.length + fr.length + 2200 + i * 140) g wA wr) (fun iv _ => ms.length - (intOf iv).toNat)
  case atStart => exact ⟨0, rfl, by omega, HR6⟩
  case round =>
    obtain ⟨i, rfl, hi, hR⟩ := hrel
    clear HR6
    by_cases hlt : i < ms.length
    · have hlt2 : (i : Int) < (ms.length : Int) := by omega
      obtain ⟨g6, W6, hg6, hk6⟩ := hR
      obtain ⟨q, cq, he, _, hrd⟩ := HOA.out.rm.kept hk6 HOA.out.bm
      cases he
      obtain ⟨gm, om, rfl, hcl⟩ := hrd (by omega)
      have hx := HOA.out.lm.2 ms[i] (List.getElem_mem hlt)
      have e0 := hcl _ (.int .i64 (ms[i].1 : Int)) (by rw [flatN_at whC1 2 (fun _ => rfl) ms i 0 hlt (by omega)]; rfl)
      have e1 := hcl _ (.string ⟨ms[i].2.toArray⟩) (by rw [flatN_at whC1 2 (fun _ => rfl) ms i 1 hlt (by omega)]; rfl)
      rw [Nat.add_zero] at e0
      rw [← Nat.add_assoc] at e1
      generalize ms[i] = mi at *
      obtain ⟨mk, mr⟩ := mi
      simp only at hx e0 e1
      obtain ⟨hx1, hx2⟩ := hx
      clear hcl hrd
      have hkA := (Kx.refl (fun _ => False) wr).alloc (.cells #[.int .i64 (mk : Int), .string ⟨mr.toArray⟩] 154)
      have hwh := wwhich_any b _ mk [109, 101, 114, 103, 101, 32] mr g6 _ (W6.same hkA) ((hwA.gl hglA hk6).kept hkA (fun _ _ => id)) hx1 (by simp only [List.length_cons, List.length_nil]; omega)
      go_wp2_with fail
      refine hwh.mono ?_
      rintro _ w7 ⟨rfl, hR7⟩
      have HR7 := (WdR.trans hg6 hk6 (WdR.after W6 hkA rfl hR7)).more (n' := n + data.length + ref.length + fr.length + 2200 + (i + 1) * 140) (by simp only [List.length_cons, List.length_nil]; omega)
      clear hwh hR7 W6 hg6 hk6 e0 e1 hkA
      go_wp2
      go_roundw
      case rel => exact ⟨i + 1, by go_num, hlt, HR7⟩
      case measure => simp [intOf]; omega
    · obtain rfl : i = ms.length := by omega
      have hlt2 : ¬ (ms.length : Int) < (ms.length : Int) := by omega
      have HR7 := hR.more (n' := n + data.length + ref.length + fr.length + 2800) (by omega)
      clear hR
      have d10 : wr.cell? ⟨k0, 10, none⟩ = _ := (let ⟨_, _, _, hk⟩ := HR7; hbox wr hk 10 _ c10)
      go_wp2_with fail
      clear d10
      go_loopw [46] (fun iv wq => ∃ i : Nat, iv = .int .i64 i ∧ i ≤ cs.length ∧ WdR b (n + data.length + ref.length + fr.length + 2800 + i * 320) g wA wq) (fun iv _ => cs.length - (intOf iv).toNat)
      case atStart => exact ⟨0, rfl, by omega, HR7⟩
      case round =>
        obtain ⟨i, rfl, hi2, hR⟩ := hrel
        clear HR7
        by_cases hlt : i < cs.length
        · have hlt3 : (i : Int) < (cs.length : Int) := by omega
          obtain ⟨g6, W6, hg6, hk6⟩ := hR
          obtain ⟨q, cq, he, _, hrd⟩ := HOA.out.rc.kept hk6 HOA.out.bc
          cases he
          obtain ⟨gm, om, rfl, hcl⟩ := hrd (by omega)
          have hx := HOA.out.lc.2 cs[i] (List.getElem_mem hlt)
          have hcell : ∀ j, j < 6 → ∀ v, (chC1 cs[i])[j]? = some v → wr.cell? ⟨gm, om + (i * 6 + j), none⟩ = some v := fun j hj v hv => hcl _ v (by rw [flatN_at chC1 6 (fun _ => rfl) cs i j hlt hj]; exact hv)
          generalize cs[i] = ci at *
          obtain ⟨wd, mo, mk, da, pa, ds⟩ := ci
          have e0 := hcell 0 (by omega) (.string ⟨wd.toArray⟩) rfl
          have e1 := hcell 1 (by omega) (.string ⟨mo.toArray⟩) rfl
          have e2 := hcell 2 (by omega) (.int .i64 (mk : Int)) rfl
          have e3 := hcell 3 (by omega) (.string ⟨da.toArray⟩) rfl
          have e4 := hcell 4 (by omega) (.string ⟨pa.toArray⟩) rfl
          have e5 := hcell 5 (by omega) (.string ⟨ds.toArray⟩) rfl
          rw [Nat.add_zero] at e0
          rw [← Nat.add_assoc] at e1 e2 e3 e4 e5
          simp only at hx
          obtain ⟨hx1, hx2, hx3, hx4, hx5⟩ := hx
          clear hcl hrd hcell
          have hkA := (Kx.refl (fun _ => False) wr).alloc (.cells (chgV wd mo mk da pa ds) 332)
          have hch := wchange_any b _ mk wd mo da pa ds g6 _ (W6.same hkA) ((hwA.gl hglA hk6).kept hkA (fun _ _ => id)) hx1 (by omega) hx5
          unfold chgV at hkA hch
          go_wp2_with fail
          refine hch.mono ?_
          rintro _ w7 ⟨rfl, hR7⟩
          have HR8 := (WdR.trans hg6 hk6 (WdR.after W6 hkA rfl hR7)).more (n' := n + data.length + ref.length + fr.length + 2800 + (i + 1) * 320) (by omega)
          clear hch hR7 W6 hg6 hk6 e0 e1 e2 e3 e4 e5 hkA
          go_wp2
          go_roundw
          case rel => exact ⟨i + 1, by go_num, hlt, HR8⟩
          case measure => simp [intOf]; omega
        · obtain rfl : i = cs.length := by omega
          have hlt3 : ¬ (cs.length : Int) < (cs.length : Int) := by omega
          obtain ⟨g6, W6, hg6, hk6⟩ := hR
          have hli := wline_any b _ [] g6 _ W6 (by simp only [List.length_nil]; omega)
          go_wp2_with fail
          refine hli.mono ?_
          rintro _ w7 ⟨rfl, hR7⟩
          have hF := WdR.after h hA rfl ((WdR.trans hg6 hk6 hR7).more (n' := n + data.length + ref.length + fr.length + 13000) (by simp only [List.length_nil]; omega))
          clear hli hR7
          go_wp2
          go_end0
          exact ⟨rfl, hF⟩
end

structure Ocm where
  (word ref : List UInt8)
  m : Nat
  au : Au
  data : List UInt8
  fm : Nat
  fr : List UInt8
  (vm vc : Value)
  ms : List (Nat × List UInt8)
  cs : List Chg
def ocC (c : Ocm) : List Value := (cmdV c.word c.ref c.m c.au c.data c.fm c.fr c.vm c.vc).toList

structure OcOk (w : World) (L : Nat → Prop) (c : Ocm) : Prop where
  word : c.word = [98, 108, 111, 98] ∨ c.word = [99, 111, 109, 109, 105, 116] ∨ c.word = [116, 97, 103] ∨ c.word = [114, 101, 115, 101, 116]
  m : c.m ≤ 1000000
  fm : c.fm ≤ 1000000
  name : c.au.name.length ≤ 1000
  mail : c.au.mail.length ≤ 1000
  time : 0 ≤ c.au.time ∧ c.au.time ≤ 9999999999
  data : c.data.length + c.ref.length + c.fr.length ≤ 15000
  com : c.word = [99, 111, 109, 109, 105, 116] → c.data.length + c.ref.length + c.fr.length ≤ 3000
  rm : Reads w c.vm c.ms.length (c.ms.flatMap whC1)
  rc : Reads w c.vc c.cs.length (c.cs.flatMap chC1)
  bm : ∀ k, c.vm.ownBlock = some k → L k
  bc : ∀ k, c.vc.ownBlock = some k → L k
  lm : c.ms.length ≤ 4 ∧ ∀ x ∈ c.ms, x.1 ≤ 1000000 ∧ x.2.length ≤ 100
  lc : c.cs.length ≤ 30 ∧ ∀ x ∈ c.cs, x.m ≤ 1000000 ∧ x.mode.length ≤ 20 ∧ x.data.length ≤ 100 ∧ x.path.length ≤ 100 ∧ (x.word = [77] ∨ x.word = [68])

theorem OcOk.mono {w : World} {L L' : Nat → Prop} {c : Ocm} (h : OcOk w L c) (hL : ∀ k, L k → L' k) : OcOk w L' c :=
  { h with bm := fun k e => hL k (h.bm k e), bc := fun k e => hL k (h.bc k e) }

theorem OcOk.kept {w w' : World} {L : Nat → Prop} {X : Nat → Prop} {c : Ocm} (h : OcOk w L c) (hk : Kx X w w') (hX : ∀ k, L k → ¬ X k) : OcOk w' L c :=
  { h with rm := h.rm.kept hk (fun k e => hX k (h.bm k e)), rc := h.rc.kept hk (fun k e => hX k (h.bc k e)) }

set_option maxHeartbeats 3200000 in
set_option maxRecDepth 100000 in
theorem writeAll_any (l : List Ocm) (va : Option Addr) (cv : Nat) (w : World) (hgl : Gl w) (h7 : 7 ≤ w.heap.size) (hv : Reads w (.slice va l.length cv) l.length (l.flatMap ocC)) (hvb : ∀ k, (Value.slice va l.length cv).ownBlock = some k → k < w.heap.size)
    (hl : l.length ≤ 60) (hok : ∀ c ∈ l, OcOk w (fun k => k < w.heap.size) c) :
    Calls Tryz.prog 97 #[.slice va l.length cv] w fun e w' => ∃ t : List UInt8, e = .returned (.string ⟨t.toArray⟩) ∧ t.length ≤ 1000000 ∧ Kx (fun _ => False) w w' := by
  have hmx : maxLen = 9223372036854775807 := rfl
  have hA := (Kx.refl (fun _ => False) w).alloc (.cells #[.pointer none, .slice none 0 0] 248)
  have hwA : Wd w.heap.size 0 none (w.alloc (.cells #[.pointer none, .slice none 0 0] 248)) := ⟨⟨[], ⟨⟨.pointer none, .slice none 0 0, heap_alloc_new w _, .inl rfl, .inl ⟨rfl, rfl⟩, rfl, fun _ => rfl⟩, fun e => by cases e⟩, Nat.le_refl _⟩, h7, fun k e => by cases e⟩
  have hglA := hgl.kept hA (fun _ _ => id)
  have HV : Hid (Reads (w.alloc (.cells #[.pointer none, .slice none 0 0] 248)) (.slice va l.length cv) l.length (l.flatMap ocC)) := hv.kept hA (fun _ _ => id)
  have HOK : Hid (∀ c ∈ l, OcOk (w.alloc (.cells #[.pointer none, .slice none 0 0] 248)) (fun k => k < w.heap.size) c) := fun c hc => (hok c hc).kept hA (fun _ _ => id)
  have HVB : Hid (∀ k, (Value.slice va l.length cv).ownBlock = some k → k < w.heap.size) := hvb
  have HAA : Hid (∀ k, k < w.heap.size → k < (w.alloc (.cells #[.pointer none, .slice none 0 0] 248)).heap.size) := fun k hk => by simp; omega
  clear hv hok hvb
  go_enter Tryz.func97, Tryz.ntmps97
  go_wp2_with fail
  revert hA hwA hglA HV HOK HAA HVB
  generalize w.alloc (.cells #[.pointer none, .slice none 0 0] 248) = wA
  generalize hbw : w.heap.size = b at h7 ⊢
  intro hA hwA hglA HV HOK HVB HAA
  go_loopw [12] (fun iv wr => ∃ i : Nat, iv = .int .i64 i ∧ i ≤ l.length ∧ WdR b (i * 16000) none wA wr) (fun iv _ => l.length - (intOf iv).toNat)
  case atStart => exact ⟨0, rfl, by omega, WdR.refl (hwA.more (by omega))⟩
  case round =>
    obtain ⟨i, rfl, hi, hR⟩ := hrel
    by_cases hlt : i < l.length
    · have hlt2 : (i : Int) < (l.length : Int) := by omega
      obtain ⟨g6, W6, hg6, hk6⟩ := hR
      have hXb : ∀ k, k < b → ¬ BdX b none k := fun k hk e => by
        rcases e with e | e
        · omega
        · cases e
      have hgb : ∀ k, k < b → ¬ BdX b g6 k := fun k hk e => by
        rcases e with e | e
        · omega
        · rcases hg6 with rfl | ⟨k', e', hl'⟩
          · cases e
          · rw [e'] at e
            cases e
            have := HAA.out k hk
            omega
      obtain ⟨q, cq, he, _, hrd⟩ := HV.out.kept hk6 (fun k e => hXb k (HVB.out k e))
      cases he
      obtain ⟨gm, om, rfl, hcl⟩ := hrd (by omega)
      have hoc := (HOK.out l[i] (List.getElem_mem hlt)).kept hk6 hXb
      have hcell : ∀ j, j < 11 → ∀ v, (ocC l[i])[j]? = some v → wr.cell? ⟨gm, om + (i * 11 + j), none⟩ = some v := fun j hj v hv => hcl _ v (by rw [flatN_at ocC 11 (fun _ => rfl) l i j hlt hj]; exact hv)
      generalize l[i] = ci at *
      obtain ⟨word, ref, m, ⟨an, ama, tm⟩, data, fm, fr, vm, vc, ms, cs⟩ := ci
      have e0 := hcell 0 (by omega) _ rfl
      have e1 := hcell 1 (by omega) _ rfl
      have e2 := hcell 2 (by omega) _ rfl
      have e3 := hcell 3 (by omega) _ rfl
      have e4 := hcell 4 (by omega) _ rfl
      have e5 := hcell 5 (by omega) _ rfl
      have e6 := hcell 6 (by omega) _ rfl
      have e7 := hcell 7 (by omega) _ rfl
      have e8 := hcell 8 (by omega) _ rfl
      have e9 := hcell 9 (by omega) _ rfl
      have e10 := hcell 10 (by omega) _ rfl
      rw [Nat.add_zero] at e0
      rw [← Nat.add_assoc] at e1 e2 e3 e4 e5 e6 e7 e8 e9 e10
      clear hcl hrd hcell
      obtain ⟨vma, vmc, hvme, _, _⟩ := hoc.rm
      obtain ⟨vca, vcc, hvce, _, _⟩ := hoc.rc
      simp only at hvme hvce
      subst hvme
      subst hvce
      have hkA := (Kx.refl (fun _ => False) wr).alloc (.cells (cmdV word ref m ⟨an, ama, tm⟩ data fm fr (.slice vma ms.length vmc) (.slice vca cs.length vcc)) 158)
      have hbx := Cb.new (cmdV word ref m ⟨an, ama, tm⟩ data fm fr (.slice vma ms.length vmc) (.slice vca cs.length vcc)) 158 wr
      have hfind := find_any word (wr.alloc (.cells (cmdV word ref m ⟨an, ama, tm⟩ data fm fr (.slice vma ms.length vmc) (.slice vca cs.length vcc)) 158))
      have hW6 := W6.same hkA
      have hoc2 := hoc.kept hkA (fun _ _ => id)
      have hgl6 := (hwA.gl hglA hk6).kept hkA (fun _ _ => id)
      unfold cmdV at hkA hbx hfind hW6 hoc2 hgl6
      simp only at hkA hbx hfind hW6 hoc2 hgl6
      go_wp2_with fail
      refine hfind.mono ?_
      rintro _ w3 ⟨rfl, hk3⟩
      have hk03 := hkA.trans hk3
      have hW3 := hW6.same hk3
      have hbx3 := hbx.kept hk3 id
      have hoc3 := hoc2.kept hk3 (fun _ _ => id)
      have hgl3 := hgl6.kept hk3 (fun _ _ => id)
      have hR3 : ∀ n' w9, WdR b n' g6 w3 w9 → WdR b n' none wA w9 := fun n' w9 hq => WdR.trans hg6 hk6 (WdR.after W6 hk03 rfl hq)
      have hbl : wr.heap.size < w3.heap.size := hbx3.lt
      generalize wr.heap.size = bb at *
      have y0 : w3.cell? ⟨bb, 0, none⟩ = some (.string ⟨word.toArray⟩) := Cb.cell hbx3 0
      have y1 : w3.cell? ⟨bb, 1, none⟩ = some (.string ⟨ref.toArray⟩) := Cb.cell hbx3 1
      have y2 : w3.cell? ⟨bb, 2, none⟩ = some (.int .i64 (m : Int)) := Cb.cell hbx3 2
      have y3 : w3.cell? ⟨bb, 3, none⟩ = some (.string ⟨an.toArray⟩) := Cb.cell hbx3 3
      have y4 : w3.cell? ⟨bb, 4, none⟩ = some (.string ⟨ama.toArray⟩) := Cb.cell hbx3 4
      have y5 : w3.cell? ⟨bb, 5, none⟩ = some (.int .i64 tm) := Cb.cell hbx3 5
      have y6 : w3.cell? ⟨bb, 6, none⟩ = some (.string ⟨data.toArray⟩) := Cb.cell hbx3 6
      have y7 : w3.cell? ⟨bb, 7, none⟩ = some (.int .i64 (fm : Int)) := Cb.cell hbx3 7
      have y8 : w3.cell? ⟨bb, 8, none⟩ = some (.string ⟨fr.toArray⟩) := Cb.cell hbx3 8
      have y9 : w3.cell? ⟨bb, 9, none⟩ = some (.slice vma ms.length vmc) := Cb.cell hbx3 9
      have y10 : w3.cell? ⟨bb, 10, none⟩ = some (.slice vca cs.length vcc) := Cb.cell hbx3 10
      have hdat : data.length + ref.length + fr.length ≤ 15000 := hoc3.data
      clear e0 e1 e2 e3 e4 e5 e6 e7 e8 e9 e10 hfind hbx hW6 hoc hoc2 hgl6 hk3 hkA W6 hk6 hg6 hk03
      have hwd := hoc3.word
      simp only at hwd
      rcases hwd with hw0 | hw0 | hw0 | hw0
      · subst hw0
        have HRow : Hid (rowV [98, 108, 111, 98] = (.agg #[.string ⟨#[98, 108, 111, 98]⟩, .func (.func 164) #[] #[], .func (.func 165) #[] #[], .func (.func 166) #[] #[]], true)) := rfl
        rw [HRow.out]
        clear HRow
        have hA4 := (Kx.refl (fun _ => False) w3).alloc (.cells #[.string ⟨#[98, 108, 111, 98]⟩, .func (.func 164) #[] #[], .func (.func 165) #[] #[], .func (.func 166) #[] #[]] 163)
        have hcall := wblob_any b _ m fm [98, 108, 111, 98] ref data fr ⟨an, ama, tm⟩ (.slice vma ms.length vmc) (.slice vca cs.length vcc) g6 _ (hW3.same hA4) (hgl3.kept hA4 (fun _ _ => id)) hoc3.m (by omega)
        unfold cmdV at hcall
        simp only at hcall
        go_wp2_with fail
        refine hcall.mono ?_
        rintro _ w5 ⟨rfl, hR5⟩
        have HR5 := hR3 _ _ ((WdR.after hW3 hA4 rfl hR5).more (n' := (i + 1) * 16000) (by omega))
        clear hcall hR5 hR3
        go_wp2
        go_roundw
        case rel => exact ⟨i + 1, by go_num, hlt, HR5⟩
        case measure => simp [intOf]; omega
      · subst hw0
        have HRow : Hid (rowV [99, 111, 109, 109, 105, 116] = (.agg #[.string ⟨#[99, 111, 109, 109, 105, 116]⟩, .func (.func 167) #[] #[], .func (.func 168) #[] #[], .func (.func 169) #[] #[]], true)) := rfl
        rw [HRow.out]
        clear HRow
        have hA4 := (Kx.refl (fun _ => False) w3).alloc (.cells #[.string ⟨#[99, 111, 109, 109, 105, 116]⟩, .func (.func 167) #[] #[], .func (.func 168) #[] #[], .func (.func 169) #[] #[]] 163)
        have hcall := wcommit_any b _ m fm [99, 111, 109, 109, 105, 116] ref data fr ⟨an, ama, tm⟩ (.slice vma ms.length vmc) (.slice vca cs.length vcc) ms cs g6 _ (hW3.same hA4) (hgl3.kept hA4 (fun _ _ => id)) hoc3.m hoc3.fm ⟨hoc3.rm.kept hA4 (fun _ _ => id), hoc3.rc.kept hA4 (fun _ _ => id), fun k e => hgb k (hoc3.bm k e), fun k e => hgb k (hoc3.bc k e), hoc3.lm, hoc3.lc⟩ hoc3.name hoc3.mail hoc3.time (by have := hoc3.com rfl; simp only at this; omega)
        unfold cmdV at hcall
        simp only at hcall
        have hdat2 : data.length + ref.length + fr.length ≤ 3000 := hoc3.com rfl
        go_wp2_with fail
        refine hcall.mono ?_
        rintro _ w5 ⟨rfl, hR5⟩
        have HR5 := hR3 _ _ ((WdR.after hW3 hA4 rfl hR5).more (n' := (i + 1) * 16000) (by omega))
        clear hcall hR5 hR3
        go_wp2
        go_roundw
        case rel => exact ⟨i + 1, by go_num, hlt, HR5⟩
        case measure => simp [intOf]; omega
      · subst hw0
        have HRow : Hid (rowV [116, 97, 103] = (.agg #[.string ⟨#[116, 97, 103]⟩, .func (.func 170) #[] #[], .func (.func 171) #[] #[], .func (.func 172) #[] #[]], true)) := rfl
        rw [HRow.out]
        clear HRow
        have hA4 := (Kx.refl (fun _ => False) w3).alloc (.cells #[.string ⟨#[116, 97, 103]⟩, .func (.func 170) #[] #[], .func (.func 171) #[] #[], .func (.func 172) #[] #[]] 163)
        have hcall := wtag_any b _ m fm [116, 97, 103] ref data fr ⟨an, ama, tm⟩ (.slice vma ms.length vmc) (.slice vca cs.length vcc) g6 _ (hW3.same hA4) (hgl3.kept hA4 (fun _ _ => id)) hoc3.fm (by omega)
        unfold cmdV at hcall
        simp only at hcall
        go_wp2_with fail
        refine hcall.mono ?_
        rintro _ w5 ⟨rfl, hR5⟩
        have HR5 := hR3 _ _ ((WdR.after hW3 hA4 rfl hR5).more (n' := (i + 1) * 16000) (by omega))
        clear hcall hR5 hR3
        go_wp2
        go_roundw
        case rel => exact ⟨i + 1, by go_num, hlt, HR5⟩
        case measure => simp [intOf]; omega
      · subst hw0
        have HRow : Hid (rowV [114, 101, 115, 101, 116] = (.agg #[.string ⟨#[114, 101, 115, 101, 116]⟩, .func (.func 173) #[] #[], .func (.func 174) #[] #[], .func (.func 175) #[] #[]], true)) := rfl
        rw [HRow.out]
        clear HRow
        have hA4 := (Kx.refl (fun _ => False) w3).alloc (.cells #[.string ⟨#[114, 101, 115, 101, 116]⟩, .func (.func 173) #[] #[], .func (.func 174) #[] #[], .func (.func 175) #[] #[]] 163)
        have hcall := wreset_any b _ m fm [114, 101, 115, 101, 116] ref data fr ⟨an, ama, tm⟩ (.slice vma ms.length vmc) (.slice vca cs.length vcc) g6 _ (hW3.same hA4) (hgl3.kept hA4 (fun _ _ => id)) hoc3.fm (by omega)
        unfold cmdV at hcall
        simp only at hcall
        go_wp2_with fail
        refine hcall.mono ?_
        rintro _ w5 ⟨rfl, hR5⟩
        have HR5 := hR3 _ _ ((WdR.after hW3 hA4 rfl hR5).more (n' := (i + 1) * 16000) (by omega))
        clear hcall hR5 hR3
        go_wp2
        go_roundw
        case rel => exact ⟨i + 1, by go_num, hlt, HR5⟩
        case measure => simp [intOf]; omega
    · obtain rfl : i = l.length := by omega
      have hlt2 : ¬ (l.length : Int) < (l.length : Int) := by omega
      obtain ⟨g6, W6, hg6, hk6⟩ := hR
      have hli := wline_any b _ [100, 111, 110, 101] g6 _ W6 (by simp only [List.length_cons, List.length_nil]; omega)
      go_wp2_with fail
      refine hli.mono ?_
      rintro _ w7 ⟨rfl, hR7⟩
      obtain ⟨g7, W7, hg7, hk7⟩ := (WdR.trans hg6 hk6 hR7).more (n' := 1000000) (by simp only [List.length_cons, List.length_nil]; omega)
      obtain ⟨t, hB, htl⟩ := W7.ex
      have hst := string_anyW b t g7 w7 hB
      clear hli hR7
      go_wp2_with fail
      refine hst.mono ?_
      rintro _ w8 ⟨rfl, hk8⟩
      have hF : Kx (fun _ => False) w w8 := (hA.join hk7 (fun k hk e => by
        rcases e with e | e
        · omega
        · cases e)).join hk8 (fun k hk e => by
        rcases e with e | e
        · omega
        · rcases hg7 with rfl | ⟨k', e', hl'⟩
          · cases e
          · rw [e'] at e
            cases e
            have := hA.size
            omega)
      clear hst hk8 hk7 hk6 W6 W7 hB hwA
      go_wp2
      go_ret
      exact ⟨t, rfl, htl, hF⟩

end Go.Proofs.YtepgoppgblfjbaaGreatDoor
