import Derived.Test.YtepgoppgblfjbaaGreatDoorGw20
namespace Go.Proofs.YtepgoppgblfjbaaGreatDoor
open Go.RowKit

set_option maxHeartbeats 1600000 in
set_option maxRecDepth 100000 in
theorem jadd_any (s : Nat) (p0 : Option Addr) (j str : List UInt8) (vj : Value) (w : World) (h : Jr w s p0 j vj) (hgl : Gl w) (hsl : str.length ≤ 8000) (hjl : j.length ≤ 1000000000) (h7 : 7 ≤ w.heap.size) :
    Calls Tryz.prog 52 #[.pointer (some ⟨s, 1, none⟩), .string ⟨str.toArray⟩] w fun e w' => e = .returned (.tuple #[]) ∧ ∃ vj', Jr w' s p0 (Pd.record Sh.K j str) vj' ∧ (∀ k, vj'.ownBlock = some k → vj.ownBlock = some k ∨ w.heap.size ≤ k) ∧ Kx (fun k => k = s ∨ vj.ownBlock = some k) w w' := by
  obtain ⟨i0, hi0, hz0, hz1, hz2⟩ := info_parts info5
  have hmx : maxLen = 9223372036854775807 := rfl
  have hnc := newConstants_any w
  obtain ⟨arr, harr⟩ : ∃ arr, A32 Sh.K = arr := ⟨_, rfl⟩
  rw [harr] at hnc
  have HA : Hid (A32 Sh.K = arr) := harr
  have hsz : arr.size = 72 := by rw [← harr]; rfl
  have hi : (Tryz.prog.info? 176).map (·.size) = some arr.size := by rw [hsz]; kernel_rfl
  have hall : arr.all (·.oneCell') = true := by rw [← harr]; exact A32_all _
  have hzs : Tryz.zeroCells176.size = arr.size := by rw [hsz]; kernel_rfl
  have hls : (Pd.lastSeal j).length ≤ 32 := by
    unfold Pd.lastSeal
    rw [List.length_drop]
    rcases h.sized with rfl | h0
    · simp
    · omega
  have HR : Hid (Pd.record Sh.K j str = j ++ (Lib.itoa (str.length : Int) ++ 10 :: (str ++ Sh.ofK Sh.K (Pd.lastSeal j ++ str)))) := by
    show _ = _
    unfold Pd.record Pd.sealOf
    simp
  have hol := ofK_len Sh.K (Pd.lastSeal j ++ str)
  have hlast := fun W (hW : Jr W s p0 j vj) => lastSeal_any s p0 j vj W hW
  have hseal := fun (W : World) (cb : Nat) (hW : Cb cb (A32 Sh.K) 176 W) => sealOf_any cb 176 (Pd.lastSeal j) str W hW (by omega)
  rw [harr] at hseal
  clear harr
  generalize Pd.record Sh.K j str = rcd at *
  generalize Sh.ofK Sh.K (Pd.lastSeal j ++ str) = sea at *
  generalize Pd.lastSeal j = ls at *
  go_enter Tryz.func52, Tryz.ntmps52
  go_wp2_with fail
  refine hnc.mono ?_
  rintro _ w1 ⟨rfl, hk1⟩
  have hB0 := Cb.new Tryz.zeroCells176 176 w1
  have hk2 := hk1.alloc (.cells Tryz.zeroCells176 176)
  have hk3 : Kx (fun _ => False) w ((w1.alloc (.cells Tryz.zeroCells176 176)).setRow w1.heap.size arr) := hk2.setRow (fun h => absurd h (by have := hk1.size; omega)) arr
  have hcb := hB0.row arr
  clear hnc hk2
  go_wp2_with (first | refine wpList_storeAll _ rfl 176 _ _ rfl rfl rfl hB0 hi hzs hall ?_ | fail)
  revert hk3 hcb
  generalize (w1.alloc (.cells Tryz.zeroCells176 176)).setRow w1.heap.size arr = w3
  generalize w1.heap.size = cb
  intro hk3 hcb
  have h3 := h.kept hk3 id (fun _ _ => id)
  refine (hlast w3 h3).mono ?_
  rintro _ w4 ⟨rfl, hk4⟩
  have hk04 := hk3.trans hk4
  have hcb4 := hcb.kept hk4 id
  clear hB0 hcb hlast hk3
  go_wp2_with fail
  refine (hseal w4 cb hcb4).mono ?_
  rintro _ w5 ⟨rfl, hk5⟩
  have hk05 := hk04.trans hk5
  have h5 := h.kept hk05 id (fun _ _ => id)
  have hgl5 := hgl.kept hk05 (fun _ _ => id)
  have hitl := Lib.itoa_length_le (str.length : Int) (by omega) (by omega)
  clear hseal hcb4 hk4 hk04 hk5 h3
  go_wp2_with fail
  obtain ⟨av, cv, hvj⟩ := h5.own.slice
  rw [A8_len] at hvj
  subst hvj
  have hcat : ∀ a b : List UInt8, (⟨a.toArray⟩ : ByteArray) ++ ⟨b.toArray⟩ = ⟨(a ++ b).toArray⟩ := fun a b => by
    apply ByteArray.ext; simp
  refine wp_region_ord (C := fun w' => Kx (fun k => (Value.slice av j.length cv).ownBlock = some k) w5 w') [(0, true), (1, true), (2, true), (3, true), (4, true), (5, true), (6, true), (9, true), (11, true), (7, false), (8, false), (10, false), (12, false), (13, false), (14, false), (15, false)] 16 (by kernel_rfl) (by kernel_rfl) rfl (Kx.refl _ _).drew ?_
  refine ord_val rfl (.pointer (some ⟨s, 1, none⟩)) (fun w' hC => by go_simp) ?_
  refine ord_val rfl (.pointer (some ⟨s, 1, none⟩)) (fun w' hC => by go_simp) ?_
  refine ord_val rfl (.pointer (some ⟨s, 1, none⟩)) (fun w' hC => by go_simp) ?_
  refine ord_val rfl (.pointer (some ⟨s, 1, none⟩)) (fun w' hC => by go_simp) ?_
  refine ord_val rfl (.slice av j.length cv) (fun w' hC => by
    have hc0 : w'.cell? ⟨s, 1, none⟩ = some (.slice av j.length cv) := Cb.cell (h5.blk.kept hC h5.ne) 1
    go_simp) ?_
  refine ord_val rfl (.string ⟨str.toArray⟩) (fun w' hC => by go_simp) ?_
  refine ord_val rfl (.int .i64 (str.length : Int)) (fun w' hC => by go_simp) ?_
  refine ord_val rfl (.string ⟨str.toArray⟩) (fun w' hC => by go_simp) ?_
  refine ord_val rfl (.string ⟨sea.toArray⟩) (fun w' hC => by go_simp) ?_
  simp only [Act.put, sI, sS, sZ]
  have hkd := (Kx.refl (fun _ => False) w5).drew
  have hgld := hgl5.kept hkd (fun _ _ => id)
  refine ord_enter rfl 86 #[.int .i64 (str.length : Int)] (by go_simp) ?_
  refine (itoa_any str.length (by omega) _ hgld).mono ?_
  rintro _ w6 ⟨rfl, hk6⟩
  have hk56 := hkd.trans hk6
  have hC6 : Kx (fun k => (Value.slice av j.length cv).ownBlock = some k) w5 w6 := hk56.mono (fun _ _ h => h.elim)
  refine ⟨_, rfl, hC6, ?_⟩
  simp only [Act.put, sI, sS, sZ]
  generalize Lib.itoa (str.length : Int) = it at *
  refine ord_valT rfl (.string ⟨(it ++ [10]).toArray⟩) (by go_simp; omega) hC6 ?_
  simp only [Act.put, sI, sS, sZ]
  refine ord_valT rfl (.string ⟨(it ++ 10 :: str).toArray⟩) (by go_simp; omega) hC6 ?_
  simp only [Act.put, sI, sS, sZ]
  refine ord_valT rfl (.string ⟨(it ++ 10 :: (str ++ sea)).toArray⟩) (by go_simp; omega) hC6 ?_
  simp only [Act.put, sI, sS, sZ]
  have h6 := h5.kept hk56 id (fun _ _ => id)
  refine ord_step ?_
  refine wpList_append_Bs _ rfl _ _ 58 9 rfl 7 5 i0 Tryz.underlying58 Tryz.underlying9 hi0 hz0 hz1 hz2 (.slice av j.length cv) _ rfl h6.own (it ++ 10 :: (str ++ sea)) rfl ?c3 ?c4 ?c5 ?c6 ?_
  case c3 => rw [List.length_append, List.length_cons]; omega
  case c4 => rw [A8_len]; simp only [List.length_append, List.length_cons]; unfold maxLen; omega
  case c5 => rw [A8_len]; simp only [List.length_append, List.length_cons]; omega
  case c6 => have := hk05.size; have := hk56.size; omega
  intro v' w7 hown7 hgr hor
  have hg7 : Kx (fun k => (Value.slice av j.length cv).ownBlock = some k) w6 w7 := (Kx.of_grown hgr).mono (fun k _ e => e.symm)
  have hC7 := hC6.trans hg7
  refine ⟨rfl, hC7, ?_⟩
  have hb7 : Cb s #[.pointer p0, .slice av j.length cv] 98 w7 := h6.blk.kept hg7 h6.ne
  obtain ⟨av', cv', hv'⟩ := hown7.slice
  subst hv'
  have hlen : (A8 j ++ A8 (it ++ 10 :: (str ++ sea))).length = rcd.length := by
    rw [HR.out, ← A8_app, A8_len]
  rw [hlen] at hown7 hor
  simp only [Act.put, sI, sS, sZ]
  rw [hlen]
  refine ord_valT rfl (.pointer (some ⟨s, 1, none⟩)) (by go_simp) hC7 ?_
  refine ord_valT rfl (.pointer (some ⟨s, 1, none⟩)) (by go_simp) hC7 ?_
  refine ord_nil ?_
  simp only [Act.put, sI, sS, sZ]
  have c1 : w7.cell? ⟨s, 1, none⟩ = some (.slice av j.length cv) := Cb.cell hb7 1
  have f1 : w7.frozen? ⟨s, 1, none⟩ = false := Cb.frozen hb7 1
  have hb8 : Cb s #[.pointer p0, .slice av' rcd.length cv'] 98 (w7.setCell ⟨s, 1, none⟩ (.slice av' rcd.length cv')) := hb7.set 1 _
  have hs7 := hb7.lt
  have hne8 : (Value.slice av' rcd.length cv').ownBlock ≠ some s := by
    rcases hor with e | e
    · rw [e]; exact h6.ne
    · rw [e]
      intro e2
      have := Option.some.inj e2
      have := h6.blk.lt
      omega
  have hk8 : Kx (Only s) w7 (w7.setCell ⟨s, 1, none⟩ (.slice av' rcd.length cv')) := (Kx.refl _ _).only_set _
  have hJ : Jr (w7.setCell ⟨s, 1, none⟩ (.slice av' rcd.length cv')) s p0 rcd (.slice av' rcd.length cv') := by
    refine ⟨hb8, ?_, hne8, .inr ?_⟩
    · have h9 := hown7.kept hk8 (fun k _ e e2 => by unfold Only at e2; subst e2; exact hne8 e)
      rw [← A8_app, ← HR.out] at h9
      exact h9
    · rw [HR.out]
      simp only [List.length_append, List.length_cons]
      omega
  have hkF : Kx (fun k => k = s ∨ (Value.slice av j.length cv).ownBlock = some k) w (w7.setCell ⟨s, 1, none⟩ (.slice av' rcd.length cv')) := ((hk05.mono (fun _ _ h => h.elim)).trans (hC7.mono (fun _ _ e => .inr e))).trans (hk8.mono (fun _ _ e => .inl e))
  have hlo : ∀ k, (Value.slice av' rcd.length cv').ownBlock = some k → (Value.slice av j.length cv).ownBlock = some k ∨ w.heap.size ≤ k := by
    intro k e
    rcases hor with e2 | e2
    · exact .inl (by rw [← e2]; exact e)
    · rw [e2] at e
      have := Option.some.inj e
      have := hk05.size
      have := hk56.size
      exact .inr (by omega)
  clear hown7 hgr hor hg7 hC7 hC6 hb7 hb8 hk8 h6 h5 hgl5 hgld hkd hk6 hk56 hcat
  go_wp2
  go_end0
  exact ⟨rfl, _, hJ, hlo, hkF⟩

set_option maxHeartbeats 400000 in
theorem word_any (b : Nat) (s : List UInt8) (bad : Bool) (w : World) (h : Rd b s bad w) :
    Calls Tryz.prog 118 #[.pointer (some ⟨b, 0, none⟩)] w fun e w' => e = .returned (.string ⟨(Pu.word s).toArray⟩) ∧ ∃ n, w' = w.drewN n := by
  obtain ⟨c0, c1, f0, f1, pos, ⟨m, hm⟩, short⟩ := h
  have hl := (Pu.cut_lens s [10]).1
  have HE : Hid (Pu.word s = (Lib.cut (Lib.cut s [10]).1 [32]).1) := rfl
  go_enter Tryz.func118, Tryz.ntmps118
  go_wp2_with fail
  refine (cut_any s [10] m _ short hm).mono ?_
  rintro e w1 ⟨rfl, n, rfl⟩
  generalize Lib.cut s [10] = x at *
  obtain ⟨x0, x1, x2⟩ := x
  go_wp2_with fail
  refine (cut_any x0 [32] m _ (by omega) (by exact hm)).mono ?_
  rintro e w2 ⟨rfl, n2, rfl⟩
  generalize Lib.cut x0 [32] = y at *
  obtain ⟨y0, y1, y2⟩ := y
  go_wp2
  go_ret
  exact ⟨by rw [HE.out]; rfl, n + n2, by simp⟩

def CoV (w : World) (lo : Nat) (v : Value) (c : Pu.Co) : Prop := ∃ vm vc, v = .agg (coC c vm vc) ∧ CoS w lo vm vc c

theorem cob_new (w : World) (x : List UInt8) (B : Nat) (hB : B = w.heap.size) : Cb B (coC (Pu.Co.of x) (.slice none 0 0) (.slice none 0 0)) 158 (w.alloc (.cells #[.string ⟨x.toArray⟩, .string ⟨#[]⟩, .int .i64 0, .string ⟨#[]⟩, .string ⟨#[]⟩, .int .i64 0, .string ⟨#[]⟩, .int .i64 0, .string ⟨#[]⟩, .slice none 0 0, .slice none 0 0] 158)) := by
  subst hB
  exact Cb.new _ _ _

theorem cos_res {w w' : World} {D : Nat} {vm vc : Value} {c : Pu.Co} (h : CoS w (D + 1) vm vc c) (hk : Kx (Only D) w w') : CoS w' D vm vc c :=
  (h.kept hk (fun j hj _ e => by unfold Only at e; omega)).mono (Nat.le_succ D)

set_option maxHeartbeats 4000000 in
set_option maxRecDepth 100000 in
theorem readOne_any (b : Nat) (s : List UInt8) (bad : Bool) (w : World) (h : Rd b s bad w) :
    Calls Tryz.prog 120 #[.pointer (some ⟨b, 0, none⟩)] w fun e w' => (∃ v, e = .returned v ∧ CoV w' w.heap.size v (Pu.readOneV s bad)) ∧ Rd b (Pu.readOne s bad).1 (Pu.readOne s bad).2 w' ∧ Kx (Only b) w w' := by
  have hb := h.lt
  have h1 := h.alloc (.cells #[.string ⟨#[]⟩, .string ⟨#[]⟩, .int .i64 0, .string ⟨#[]⟩, .string ⟨#[]⟩, .int .i64 0, .string ⟨#[]⟩, .int .i64 0, .string ⟨#[]⟩, .slice none 0 0, .slice none 0 0] 158)
  have hR0 := Cb.new #[.string ⟨#[]⟩, .string ⟨#[]⟩, .int .i64 0, .string ⟨#[]⟩, .string ⟨#[]⟩, .int .i64 0, .string ⟨#[]⟩, .int .i64 0, .string ⟨#[]⟩, .slice none 0 0, .slice none 0 0] 158 w
  have hx1 := (Kx.refl (Only b) w).alloc (.cells #[.string ⟨#[]⟩, .string ⟨#[]⟩, .int .i64 0, .string ⟨#[]⟩, .string ⟨#[]⟩, .int .i64 0, .string ⟨#[]⟩, .int .i64 0, .string ⟨#[]⟩, .slice none 0 0, .slice none 0 0] 158)
  go_enter Tryz.func120, Tryz.ntmps120
  go_wp2_with fail
  refine (word_any b s bad _ h1).mono ?_
  rintro e w1 ⟨rfl, n, hw1⟩
  obtain ⟨x, HW⟩ : ∃ x, Hid (Pu.word s = x) := ⟨_, rfl⟩
  rw [HW.out]
  have hkw1 : Kx (Only b) (w.alloc (.cells #[.string ⟨#[]⟩, .string ⟨#[]⟩, .int .i64 0, .string ⟨#[]⟩, .string ⟨#[]⟩, .int .i64 0, .string ⟨#[]⟩, .int .i64 0, .string ⟨#[]⟩, .slice none 0 0, .slice none 0 0] 158)) w1 := by rw [hw1]; exact (Kx.refl _ _).drewN n
  have hr1 : Rd b s bad w1 := by rw [hw1]; exact h1.drewN n
  have hR1 := hR0.only hkw1 hb
  have hk1 := hx1.trans hkw1
  clear hw1 hkw1 h1 hR0 hx1
  obtain ⟨D, HD⟩ : ∃ D, Hid (w.heap.size = D) := ⟨_, rfl⟩
  have hDD : w.heap.size = D := HD.out
  rw [hDD] at hR1 ⊢
  have hbD : b < D := by omega
  have hD1 : D < w1.heap.size := hR1.lt
  clear hDD
  have hcb := cob_new w1 x w1.heap.size rfl
  have hr2 := hr1.alloc (.cells #[.string ⟨x.toArray⟩, .string ⟨#[]⟩, .int .i64 0, .string ⟨#[]⟩, .string ⟨#[]⟩, .int .i64 0, .string ⟨#[]⟩, .int .i64 0, .string ⟨#[]⟩, .slice none 0 0, .slice none 0 0] 158)
  have hR2 := hR1.alloc (.cells #[.string ⟨x.toArray⟩, .string ⟨#[]⟩, .int .i64 0, .string ⟨#[]⟩, .string ⟨#[]⟩, .int .i64 0, .string ⟨#[]⟩, .int .i64 0, .string ⟨#[]⟩, .slice none 0 0, .slice none 0 0] 158)
  have hk2 := hk1.alloc (.cells #[.string ⟨x.toArray⟩, .string ⟨#[]⟩, .int .i64 0, .string ⟨#[]⟩, .string ⟨#[]⟩, .int .i64 0, .string ⟨#[]⟩, .int .i64 0, .string ⟨#[]⟩, .slice none 0 0, .slice none 0 0] 158)
  have hs2 : (w1.alloc (.cells #[.string ⟨x.toArray⟩, .string ⟨#[]⟩, .int .i64 0, .string ⟨#[]⟩, .string ⟨#[]⟩, .int .i64 0, .string ⟨#[]⟩, .int .i64 0, .string ⟨#[]⟩, .slice none 0 0, .slice none 0 0] 158)).heap.size = w1.heap.size + 1 := by simp
  obtain ⟨E, HE0⟩ : ∃ E, Hid (w1.heap.size = E) := ⟨_, rfl⟩
  have hEE : w1.heap.size = E := HE0.out
  go_wp2_with fail
  refine (find_any x _).mono ?_
  rintro e w3 ⟨rfl, hk3⟩
  have hcb3 := hcb.kept hk3 id
  have hr3 := hr2.kept hk3 id id
  have hR3 := hR2.kept hk3 id
  have hkw3 : Kx (Only b) w w3 := hk2.trans (hk3.mono (fun _ _ hh => hh.elim))
  have hs3 : w1.heap.size < w3.heap.size := by have := hk3.size; omega
  rw [hEE] at hcb3 hs3 hD1
  clear hcb hr2 hR2 hk2 hs2 hk3 hEE hr1 hR1 hk1
  have hk4 := hkw3
  have hD3 : D < w3.heap.size := by omega

  by_cases hx0 : x = [98, 108, 111, 98]
  · have HRow : Hid (rowV x = (.agg #[.string ⟨#[98, 108, 111, 98]⟩, .func (.func 164) #[] #[], .func (.func 165) #[] #[], .func (.func 166) #[] #[]], true)) := by
      show _ = _
      subst hx0
      rfl
    have HE : Hid (Pu.readOne s bad = Pu.readBlob s bad ∧ Pu.readOneV s bad = Pu.readBlobV s bad (Pu.Co.of x)) := by
      show _ ∧ _
      unfold Pu.readOne Pu.readOneV
      rw [HW.out, hx0]
      exact ⟨rfl, rfl⟩
    rw [HRow.out]
    clear HRow hx0
    have hcb4 := hcb3.alloc (.cells #[.string ⟨#[98, 108, 111, 98]⟩, .func (.func 164) #[] #[], .func (.func 165) #[] #[], .func (.func 166) #[] #[]] 163)
    have hr4 := hr3.alloc (.cells #[.string ⟨#[98, 108, 111, 98]⟩, .func (.func 164) #[] #[], .func (.func 165) #[] #[], .func (.func 166) #[] #[]] 163)
    have hR4 := hR3.alloc (.cells #[.string ⟨#[98, 108, 111, 98]⟩, .func (.func 164) #[] #[], .func (.func 165) #[] #[], .func (.func 166) #[] #[]] 163)
    have hk5 := hk4.alloc (.cells #[.string ⟨#[98, 108, 111, 98]⟩, .func (.func 164) #[] #[], .func (.func 165) #[] #[], .func (.func 166) #[] #[]] 163)
    have hs4 : (w3.alloc (.cells #[.string ⟨#[98, 108, 111, 98]⟩, .func (.func 164) #[] #[], .func (.func 165) #[] #[], .func (.func 166) #[] #[]] 163)).heap.size = w3.heap.size + 1 := by simp
    go_wp2_with fail
    refine (readBlob_any b E x s bad _ hr4 (by omega) hcb4).mono ?_
    rintro e w5 ⟨rfl, hr5, ⟨vm, vc, hc5, hS5⟩, hkk5⟩
    have hR5 := hR4.kept hkk5 (by unfold Two; omega)
    have hk6 : Kx (Only b) w w5 := hk5.trans' hkk5 (fun j hj hy => hy.elim id (fun e => absurd e (by have := HD.out; omega)))
    have hS6 : CoS w5 (D + 1) vm vc (Pu.readBlobV s bad (Pu.Co.of x)) := hS5.mono (by rw [hs4]; omega)
    have HV : Hid (Pu.readOneV s bad = Pu.readBlobV s bad (Pu.Co.of x)) := HE.out.2
    generalize Pu.readBlobV s bad (Pu.Co.of x) = cc at *
    clear hkk5 hk5 hcb4 hr4 hR4 hs4 hS5 hcb3 hr3 hR3
    have x0 := hc5.cell 0
    have x1 := hc5.cell 1
    have x2 := hc5.cell 2
    have x3 := hc5.cell 3
    have x4 := hc5.cell 4
    have x5 := hc5.cell 5
    have x6 := hc5.cell 6
    have x7 := hc5.cell 7
    have x8 := hc5.cell 8
    have x9 := hc5.cell 9
    have x10 := hc5.cell 10
    have y0 := hR5.cell 0
    have y1 := hR5.cell 1
    have y2 := hR5.cell 2
    have y3 := hR5.cell 3
    have y4 := hR5.cell 4
    have y5 := hR5.cell 5
    have y6 := hR5.cell 6
    have y7 := hR5.cell 7
    have y8 := hR5.cell 8
    have y9 := hR5.cell 9
    have y10 := hR5.cell 10
    have fy := hR5.frozen
    clear hc5 hR5
    unfold coC at x0 x1 x2 x3 x4 x5 x6 x7 x8 x9 x10
    obtain ⟨qm, cm, hvm, _⟩ := id hS6.ms
    obtain ⟨qc, cc2, hvc, _⟩ := id hS6.cs
    subst hvm hvc
    go_wp2
    refine bodyPost_ret (v := .agg (coC cc (.slice qm cc.merges.length cm) (.slice qc cc.changes.length cc2))) (by simp [results, Tryz.results120, go_sem, coC, y0, y1, y2, y3, y4, y5, y6, y7, y8, y9, y10]) rfl ⟨⟨_, rfl, _, _, by rw [HV.out], ?_⟩, ?_, ?_⟩
    · rw [HV.out, HD.out]
      exact cos_res hS6 ((((((((((((Kx.refl (Only D) w5).only_set _).only_set _).only_set _).only_set _).only_set _).only_set _).only_set _).only_set _).only_set _).only_set _).only_set _)
    · rw [HE.out.1]
      exact (((((((((((hr5).setNew hbD _).setNew hbD _).setNew hbD _).setNew hbD _).setNew hbD _).setNew hbD _).setNew hbD _).setNew hbD _).setNew hbD _).setNew hbD _).setNew hbD _
    · have hDle : w.heap.size ≤ D := Nat.le_of_eq HD.out
      exact (((((((((((hk6).setNew hDle _).setNew hDle _).setNew hDle _).setNew hDle _).setNew hDle _).setNew hDle _).setNew hDle _).setNew hDle _).setNew hDle _).setNew hDle _).setNew hDle _
  by_cases hx1 : x = [99, 111, 109, 109, 105, 116]
  · have HRow : Hid (rowV x = (.agg #[.string ⟨#[99, 111, 109, 109, 105, 116]⟩, .func (.func 167) #[] #[], .func (.func 168) #[] #[], .func (.func 169) #[] #[]], true)) := by
      show _ = _
      subst hx1
      rfl
    have HE : Hid (Pu.readOne s bad = Pu.readCommit s bad ∧ Pu.readOneV s bad = Pu.readCommitV s bad (Pu.Co.of x)) := by
      show _ ∧ _
      unfold Pu.readOne Pu.readOneV
      rw [HW.out, hx1]
      exact ⟨rfl, rfl⟩
    rw [HRow.out]
    clear HRow hx0 hx1
    have hcb4 := hcb3.alloc (.cells #[.string ⟨#[99, 111, 109, 109, 105, 116]⟩, .func (.func 167) #[] #[], .func (.func 168) #[] #[], .func (.func 169) #[] #[]] 163)
    have hr4 := hr3.alloc (.cells #[.string ⟨#[99, 111, 109, 109, 105, 116]⟩, .func (.func 167) #[] #[], .func (.func 168) #[] #[], .func (.func 169) #[] #[]] 163)
    have hR4 := hR3.alloc (.cells #[.string ⟨#[99, 111, 109, 109, 105, 116]⟩, .func (.func 167) #[] #[], .func (.func 168) #[] #[], .func (.func 169) #[] #[]] 163)
    have hk5 := hk4.alloc (.cells #[.string ⟨#[99, 111, 109, 109, 105, 116]⟩, .func (.func 167) #[] #[], .func (.func 168) #[] #[], .func (.func 169) #[] #[]] 163)
    have hs4 : (w3.alloc (.cells #[.string ⟨#[99, 111, 109, 109, 105, 116]⟩, .func (.func 167) #[] #[], .func (.func 168) #[] #[], .func (.func 169) #[] #[]] 163)).heap.size = w3.heap.size + 1 := by simp
    go_wp2_with fail
    refine (readCommit_any b E x s bad _ hr4 (by omega) hcb4).mono ?_
    rintro e w5 ⟨rfl, hr5, ⟨vm, vc, hc5, hS5⟩, hkk5⟩
    have hR5 := hR4.kept hkk5 (by unfold Two; omega)
    have hk6 : Kx (Only b) w w5 := hk5.trans' hkk5 (fun j hj hy => hy.elim id (fun e => absurd e (by have := HD.out; omega)))
    have hS6 : CoS w5 (D + 1) vm vc (Pu.readCommitV s bad (Pu.Co.of x)) := hS5.mono (by rw [hs4]; omega)
    have HV : Hid (Pu.readOneV s bad = Pu.readCommitV s bad (Pu.Co.of x)) := HE.out.2
    generalize Pu.readCommitV s bad (Pu.Co.of x) = cc at *
    clear hkk5 hk5 hcb4 hr4 hR4 hs4 hS5 hcb3 hr3 hR3
    have x0 := hc5.cell 0
    have x1 := hc5.cell 1
    have x2 := hc5.cell 2
    have x3 := hc5.cell 3
    have x4 := hc5.cell 4
    have x5 := hc5.cell 5
    have x6 := hc5.cell 6
    have x7 := hc5.cell 7
    have x8 := hc5.cell 8
    have x9 := hc5.cell 9
    have x10 := hc5.cell 10
    have y0 := hR5.cell 0
    have y1 := hR5.cell 1
    have y2 := hR5.cell 2
    have y3 := hR5.cell 3
    have y4 := hR5.cell 4
    have y5 := hR5.cell 5
    have y6 := hR5.cell 6
    have y7 := hR5.cell 7
    have y8 := hR5.cell 8
    have y9 := hR5.cell 9
    have y10 := hR5.cell 10
    have fy := hR5.frozen
    clear hc5 hR5
    unfold coC at x0 x1 x2 x3 x4 x5 x6 x7 x8 x9 x10
    obtain ⟨qm, cm, hvm, _⟩ := id hS6.ms
    obtain ⟨qc, cc2, hvc, _⟩ := id hS6.cs
    subst hvm hvc
    go_wp2
    refine bodyPost_ret (v := .agg (coC cc (.slice qm cc.merges.length cm) (.slice qc cc.changes.length cc2))) (by simp [results, Tryz.results120, go_sem, coC, y0, y1, y2, y3, y4, y5, y6, y7, y8, y9, y10]) rfl ⟨⟨_, rfl, _, _, by rw [HV.out], ?_⟩, ?_, ?_⟩
    · rw [HV.out, HD.out]
      exact cos_res hS6 ((((((((((((Kx.refl (Only D) w5).only_set _).only_set _).only_set _).only_set _).only_set _).only_set _).only_set _).only_set _).only_set _).only_set _).only_set _)
    · rw [HE.out.1]
      exact (((((((((((hr5).setNew hbD _).setNew hbD _).setNew hbD _).setNew hbD _).setNew hbD _).setNew hbD _).setNew hbD _).setNew hbD _).setNew hbD _).setNew hbD _).setNew hbD _
    · have hDle : w.heap.size ≤ D := Nat.le_of_eq HD.out
      exact (((((((((((hk6).setNew hDle _).setNew hDle _).setNew hDle _).setNew hDle _).setNew hDle _).setNew hDle _).setNew hDle _).setNew hDle _).setNew hDle _).setNew hDle _).setNew hDle _
  by_cases hx2 : x = [116, 97, 103]
  · have HRow : Hid (rowV x = (.agg #[.string ⟨#[116, 97, 103]⟩, .func (.func 170) #[] #[], .func (.func 171) #[] #[], .func (.func 172) #[] #[]], true)) := by
      show _ = _
      subst hx2
      rfl
    have HE : Hid (Pu.readOne s bad = Pu.readTag s bad ∧ Pu.readOneV s bad = Pu.readTagV s bad (Pu.Co.of x)) := by
      show _ ∧ _
      unfold Pu.readOne Pu.readOneV
      rw [HW.out, hx2]
      exact ⟨rfl, rfl⟩
    rw [HRow.out]
    clear HRow hx0 hx1 hx2
    have hcb4 := hcb3.alloc (.cells #[.string ⟨#[116, 97, 103]⟩, .func (.func 170) #[] #[], .func (.func 171) #[] #[], .func (.func 172) #[] #[]] 163)
    have hr4 := hr3.alloc (.cells #[.string ⟨#[116, 97, 103]⟩, .func (.func 170) #[] #[], .func (.func 171) #[] #[], .func (.func 172) #[] #[]] 163)
    have hR4 := hR3.alloc (.cells #[.string ⟨#[116, 97, 103]⟩, .func (.func 170) #[] #[], .func (.func 171) #[] #[], .func (.func 172) #[] #[]] 163)
    have hk5 := hk4.alloc (.cells #[.string ⟨#[116, 97, 103]⟩, .func (.func 170) #[] #[], .func (.func 171) #[] #[], .func (.func 172) #[] #[]] 163)
    have hs4 : (w3.alloc (.cells #[.string ⟨#[116, 97, 103]⟩, .func (.func 170) #[] #[], .func (.func 171) #[] #[], .func (.func 172) #[] #[]] 163)).heap.size = w3.heap.size + 1 := by simp
    go_wp2_with fail
    refine (readTag_any b E x s bad _ hr4 (by omega) hcb4).mono ?_
    rintro e w5 ⟨rfl, hr5, ⟨vm, vc, hc5, hS5⟩, hkk5⟩
    have hR5 := hR4.kept hkk5 (by unfold Two; omega)
    have hk6 : Kx (Only b) w w5 := hk5.trans' hkk5 (fun j hj hy => hy.elim id (fun e => absurd e (by have := HD.out; omega)))
    have hS6 : CoS w5 (D + 1) vm vc (Pu.readTagV s bad (Pu.Co.of x)) := hS5.mono (by rw [hs4]; omega)
    have HV : Hid (Pu.readOneV s bad = Pu.readTagV s bad (Pu.Co.of x)) := HE.out.2
    generalize Pu.readTagV s bad (Pu.Co.of x) = cc at *
    clear hkk5 hk5 hcb4 hr4 hR4 hs4 hS5 hcb3 hr3 hR3
    have x0 := hc5.cell 0
    have x1 := hc5.cell 1
    have x2 := hc5.cell 2
    have x3 := hc5.cell 3
    have x4 := hc5.cell 4
    have x5 := hc5.cell 5
    have x6 := hc5.cell 6
    have x7 := hc5.cell 7
    have x8 := hc5.cell 8
    have x9 := hc5.cell 9
    have x10 := hc5.cell 10
    have y0 := hR5.cell 0
    have y1 := hR5.cell 1
    have y2 := hR5.cell 2
    have y3 := hR5.cell 3
    have y4 := hR5.cell 4
    have y5 := hR5.cell 5
    have y6 := hR5.cell 6
    have y7 := hR5.cell 7
    have y8 := hR5.cell 8
    have y9 := hR5.cell 9
    have y10 := hR5.cell 10
    have fy := hR5.frozen
    clear hc5 hR5
    unfold coC at x0 x1 x2 x3 x4 x5 x6 x7 x8 x9 x10
    obtain ⟨qm, cm, hvm, _⟩ := id hS6.ms
    obtain ⟨qc, cc2, hvc, _⟩ := id hS6.cs
    subst hvm hvc
    go_wp2
    refine bodyPost_ret (v := .agg (coC cc (.slice qm cc.merges.length cm) (.slice qc cc.changes.length cc2))) (by simp [results, Tryz.results120, go_sem, coC, y0, y1, y2, y3, y4, y5, y6, y7, y8, y9, y10]) rfl ⟨⟨_, rfl, _, _, by rw [HV.out], ?_⟩, ?_, ?_⟩
    · rw [HV.out, HD.out]
      exact cos_res hS6 ((((((((((((Kx.refl (Only D) w5).only_set _).only_set _).only_set _).only_set _).only_set _).only_set _).only_set _).only_set _).only_set _).only_set _).only_set _)
    · rw [HE.out.1]
      exact (((((((((((hr5).setNew hbD _).setNew hbD _).setNew hbD _).setNew hbD _).setNew hbD _).setNew hbD _).setNew hbD _).setNew hbD _).setNew hbD _).setNew hbD _).setNew hbD _
    · have hDle : w.heap.size ≤ D := Nat.le_of_eq HD.out
      exact (((((((((((hk6).setNew hDle _).setNew hDle _).setNew hDle _).setNew hDle _).setNew hDle _).setNew hDle _).setNew hDle _).setNew hDle _).setNew hDle _).setNew hDle _).setNew hDle _
  by_cases hx3 : x = [114, 101, 115, 101, 116]
  · have HRow : Hid (rowV x = (.agg #[.string ⟨#[114, 101, 115, 101, 116]⟩, .func (.func 173) #[] #[], .func (.func 174) #[] #[], .func (.func 175) #[] #[]], true)) := by
      show _ = _
      subst hx3
      rfl
    have HE : Hid (Pu.readOne s bad = Pu.readReset s bad ∧ Pu.readOneV s bad = Pu.readResetV s bad (Pu.Co.of x)) := by
      show _ ∧ _
      unfold Pu.readOne Pu.readOneV
      rw [HW.out, hx3]
      exact ⟨rfl, rfl⟩
    rw [HRow.out]
    clear HRow hx0 hx1 hx2 hx3
    have hcb4 := hcb3.alloc (.cells #[.string ⟨#[114, 101, 115, 101, 116]⟩, .func (.func 173) #[] #[], .func (.func 174) #[] #[], .func (.func 175) #[] #[]] 163)
    have hr4 := hr3.alloc (.cells #[.string ⟨#[114, 101, 115, 101, 116]⟩, .func (.func 173) #[] #[], .func (.func 174) #[] #[], .func (.func 175) #[] #[]] 163)
    have hR4 := hR3.alloc (.cells #[.string ⟨#[114, 101, 115, 101, 116]⟩, .func (.func 173) #[] #[], .func (.func 174) #[] #[], .func (.func 175) #[] #[]] 163)
    have hk5 := hk4.alloc (.cells #[.string ⟨#[114, 101, 115, 101, 116]⟩, .func (.func 173) #[] #[], .func (.func 174) #[] #[], .func (.func 175) #[] #[]] 163)
    have hs4 : (w3.alloc (.cells #[.string ⟨#[114, 101, 115, 101, 116]⟩, .func (.func 173) #[] #[], .func (.func 174) #[] #[], .func (.func 175) #[] #[]] 163)).heap.size = w3.heap.size + 1 := by simp
    go_wp2_with fail
    refine (readReset_any b E x s bad _ hr4 (by omega) hcb4).mono ?_
    rintro e w5 ⟨rfl, hr5, ⟨vm, vc, hc5, hS5⟩, hkk5⟩
    have hR5 := hR4.kept hkk5 (by unfold Two; omega)
    have hk6 : Kx (Only b) w w5 := hk5.trans' hkk5 (fun j hj hy => hy.elim id (fun e => absurd e (by have := HD.out; omega)))
    have hS6 : CoS w5 (D + 1) vm vc (Pu.readResetV s bad (Pu.Co.of x)) := hS5.mono (by rw [hs4]; omega)
    have HV : Hid (Pu.readOneV s bad = Pu.readResetV s bad (Pu.Co.of x)) := HE.out.2
    generalize Pu.readResetV s bad (Pu.Co.of x) = cc at *
    clear hkk5 hk5 hcb4 hr4 hR4 hs4 hS5 hcb3 hr3 hR3
    have x0 := hc5.cell 0
    have x1 := hc5.cell 1
    have x2 := hc5.cell 2
    have x3 := hc5.cell 3
    have x4 := hc5.cell 4
    have x5 := hc5.cell 5
    have x6 := hc5.cell 6
    have x7 := hc5.cell 7
    have x8 := hc5.cell 8
    have x9 := hc5.cell 9
    have x10 := hc5.cell 10
    have y0 := hR5.cell 0
    have y1 := hR5.cell 1
    have y2 := hR5.cell 2
    have y3 := hR5.cell 3
    have y4 := hR5.cell 4
    have y5 := hR5.cell 5
    have y6 := hR5.cell 6
    have y7 := hR5.cell 7
    have y8 := hR5.cell 8
    have y9 := hR5.cell 9
    have y10 := hR5.cell 10
    have fy := hR5.frozen
    clear hc5 hR5
    unfold coC at x0 x1 x2 x3 x4 x5 x6 x7 x8 x9 x10
    obtain ⟨qm, cm, hvm, _⟩ := id hS6.ms
    obtain ⟨qc, cc2, hvc, _⟩ := id hS6.cs
    subst hvm hvc
    go_wp2
    refine bodyPost_ret (v := .agg (coC cc (.slice qm cc.merges.length cm) (.slice qc cc.changes.length cc2))) (by simp [results, Tryz.results120, go_sem, coC, y0, y1, y2, y3, y4, y5, y6, y7, y8, y9, y10]) rfl ⟨⟨_, rfl, _, _, by rw [HV.out], ?_⟩, ?_, ?_⟩
    · rw [HV.out, HD.out]
      exact cos_res hS6 ((((((((((((Kx.refl (Only D) w5).only_set _).only_set _).only_set _).only_set _).only_set _).only_set _).only_set _).only_set _).only_set _).only_set _).only_set _)
    · rw [HE.out.1]
      exact (((((((((((hr5).setNew hbD _).setNew hbD _).setNew hbD _).setNew hbD _).setNew hbD _).setNew hbD _).setNew hbD _).setNew hbD _).setNew hbD _).setNew hbD _).setNew hbD _
    · have hDle : w.heap.size ≤ D := Nat.le_of_eq HD.out
      exact (((((((((((hk6).setNew hDle _).setNew hDle _).setNew hDle _).setNew hDle _).setNew hDle _).setNew hDle _).setNew hDle _).setNew hDle _).setNew hDle _).setNew hDle _).setNew hDle _
  have HRow : Hid (rowV x = (.agg #[.string ⟨#[]⟩, .nilFunc, .nilFunc, .nilFunc], false)) := by
    show _ = _
    unfold rowV
    rw [if_neg hx0, if_neg hx1, if_neg hx2, if_neg hx3]
  have HE : Hid (Pu.readOne s bad = ([], true) ∧ Pu.readOneV s bad = Pu.Co.of []) := by
    have e0 : (x == Pu.sBlob) = false := beq_eq_false_iff_ne.2 hx0
    have e1 : (x == Pu.sCommit) = false := beq_eq_false_iff_ne.2 hx1
    have e2 : (x == Pu.sTag) = false := beq_eq_false_iff_ne.2 hx2
    have e3 : (x == Pu.sReset) = false := beq_eq_false_iff_ne.2 hx3
    show _ ∧ _
    unfold Pu.readOne Pu.readOneV
    rw [HW.out, e0, e1, e2, e3]
    exact ⟨rfl, rfl⟩
  rw [HRow.out]
  clear HRow hx0 hx1 hx2 hx3
  have hr4 := hr3.alloc (.cells #[.string ⟨#[]⟩, .nilFunc, .nilFunc, .nilFunc] 163)
  have hR4 := hR3.alloc (.cells #[.string ⟨#[]⟩, .nilFunc, .nilFunc, .nilFunc] 163)
  have hk5 := hk4.alloc (.cells #[.string ⟨#[]⟩, .nilFunc, .nilFunc, .nilFunc] 163)
  go_wp2_with fail
  refine (fail_any b s bad _ hr4).mono ?_
  rintro e w5 ⟨rfl, hr5, hkk5⟩
  have hR5 := hR4.only hkk5 hbD
  have hk6 : Kx (Only b) w w5 := hk5.trans hkk5
  clear hkk5 hk5 hr4 hR4 hcb3 hr3 hR3
  have y0 := hR5.cell 0
  have y1 := hR5.cell 1
  have y2 := hR5.cell 2
  have y3 := hR5.cell 3
  have y4 := hR5.cell 4
  have y5 := hR5.cell 5
  have y6 := hR5.cell 6
  have y7 := hR5.cell 7
  have y8 := hR5.cell 8
  have y9 := hR5.cell 9
  have y10 := hR5.cell 10
  have fy := hR5.frozen
  clear hR5
  go_wp2
  refine bodyPost_ret (v := .agg (coC (Pu.Co.of []) (.slice none 0 0) (.slice none 0 0))) (by simp [results, Tryz.results120, go_sem, coC, Pu.Co.of, y0, y1, y2, y3, y4, y5, y6, y7, y8, y9, y10]) rfl ⟨⟨_, rfl, _, _, by rw [HE.out.2], ?_⟩, ?_, ?_⟩
  · rw [HE.out.2]
    exact CoS.nil _ _ _ rfl rfl
  · rw [HE.out.1]
    exact (((((((((((hr5).setNew hbD _).setNew hbD _).setNew hbD _).setNew hbD _).setNew hbD _).setNew hbD _).setNew hbD _).setNew hbD _).setNew hbD _).setNew hbD _).setNew hbD _
  · have hDle : w.heap.size ≤ D := Nat.le_of_eq HD.out
    exact (((((((((((hk6).setNew hDle _).setNew hDle _).setNew hDle _).setNew hDle _).setNew hDle _).setNew hDle _).setNew hDle _).setNew hDle _).setNew hDle _).setNew hDle _).setNew hDle _

end Go.Proofs.YtepgoppgblfjbaaGreatDoor
namespace Go.Proofs.YtepgoppgblfjbaaGreatDoor

namespace Pu

theorem readAllV_fuel : ∀ (f g : Nat) (s : List UInt8) (bad : Bool), s.length < f → s.length < g → readAllV f s bad = readAllV g s bad := by
  intro f
  induction f with
  | zero => intro g s bad h; omega
  | succ f ih =>
    intro g s bad h hg
    cases g with
    | zero => omega
    | succ g =>
      unfold readAllV
      split
      · rfl
      · split
        · rfl
        · rename_i hb
          have := readOne_lt' s bad (by simpa using hb)
          rw [ih g _ _ (by omega) (by omega)]

theorem readAllV_step (s : List UInt8) (bad : Bool) (h1 : (word s == sDone) = false) (h2 : (readOne s bad).2 = false) :
    readAllV (s.length + 1) s bad = readOneV s bad :: readAllV ((readOne s bad).1.length + 1) (readOne s bad).1 (readOne s bad).2 := by
  have hl := readOne_lt' s bad h2
  conv => lhs; unfold readAllV
  rw [h1, h2]
  simp only [Bool.false_eq_true, if_false]
  rw [readAllV_fuel _ ((readOne s bad).1.length + 1) _ _ (by omega) (by omega)]

theorem readAllV_done (f : Nat) (s : List UInt8) (bad : Bool) (h1 : (word s == sDone) = true) : readAllV (f + 1) s bad = [] := by
  unfold readAllV; rw [h1]; rfl

theorem readAllV_bad (f : Nat) (s : List UInt8) (bad : Bool) (h1 : (word s == sDone) = false) (h2 : (readOne s bad).2 = true) : readAllV (f + 1) s bad = [] := by
  unfold readAllV; rw [h1, h2]; rfl

theorem readAllF_len : ∀ (f : Nat) (s : List UInt8) (bad : Bool) (n : Nat), (readAllF f s bad n).1 = n + (readAllV f s bad).length := by
  intro f
  induction f with
  | zero => intro s bad n; rfl
  | succ f ih =>
    intro s bad n
    unfold readAllF readAllV
    split
    · rfl
    · split
      · rfl
      · rw [ih]; simp; omega

end Pu

end Go.Proofs.YtepgoppgblfjbaaGreatDoor
namespace Go.Proofs.YtepgoppgblfjbaaGreatDoor
open Go.RowKit

theorem Tryz.info158 : (Tryz.prog.info? 158).map (fun i => (i.zero, i.size, i.bytes)) = some (some (.agg #[.string ⟨#[]⟩, .string ⟨#[]⟩, .int .i64 0, .string ⟨#[]⟩, .string ⟨#[]⟩, .int .i64 0, .string ⟨#[]⟩, .int .i64 0, .string ⟨#[]⟩, .slice none 0 0, .slice none 0 0]), 11, 168) := by kernel_rfl

theorem own_slice {w : World} {base : Nat} {e : TypeId} {size : Nat} {v : Value} {n : Nat} {xs : List Value} (h : w.ownsRow base e size v n xs) : ∃ av cv, v = .slice av n cv := by
  rcases h.2 with ⟨rfl, rfl⟩ | ⟨g, cap, cur, rfl, _⟩
  · exact ⟨_, _, rfl⟩
  · exact ⟨_, _, rfl⟩

set_option maxHeartbeats 2000000 in
set_option maxRecDepth 100000 in
theorem readAll_any (b : Nat) (s : List UInt8) (w : World) (h : Rd b s false w) :
    Calls Tryz.prog 79 #[.pointer (some ⟨b, 0, none⟩)] w fun e w' => (∃ av cv, e = .returned (.slice av (Pu.readAll s).1 cv) ∧ CosAt w' w.heap.size (.slice av (Pu.readAll s).1 cv) (Pu.commands s)) ∧ Rd b (Pu.readAll s).2.1 (Pu.readAll s).2.2 w' ∧ (Pu.readAll s).1 ≤ 8000 ∧ Kx (Only b) w w' := by
  have hb := h.lt
  have hs := h.short
  obtain ⟨i0, hi, hz0, hz1, hz2⟩ := info_parts Tryz.info158
  obtain ⟨R, HR⟩ : ∃ R, Hid (Pu.readAll s = R) := ⟨_, rfl⟩
  obtain ⟨RV, HRV⟩ : ∃ RV, Hid (Pu.commands s = RV) := ⟨_, rfl⟩
  rw [HR.out, HRV.out]
  go_enter Tryz.func79, Tryz.ntmps79
  go_wp2
  go_loopw [3] (fun v w' => ∃ (n : Nat) (s' : List UInt8) (xs : List Value) (cs : List Pu.Co), n = cs.length ∧ CoRow w' w.heap.size v.ownBlock cs xs ∧ RV = cs ++ Pu.readAllV (s'.length + 1) s' false ∧ n + s'.length ≤ s.length ∧ Rd b s' false w' ∧ Kx (Only b) w w' ∧ w'.ownsRow w.heap.size 158 11 v n xs ∧ R = Pu.readAllF (s'.length + 1) s' false n) (fun _ w' => left b w')
  case atStart => exact ⟨0, s, [], [], rfl, rfl, HRV.out.symm, by omega, h, Kx.refl _ _, World.ownsRow_nil _ _ _ _, HR.out.symm⟩
  case round =>
    obtain ⟨n, s1, xs, cs, hncs, hrow, hV, hn, hr, hk, hown, hE⟩ := hrel
    have HN : Hid (n = cs.length) := hncs
    have HV : Hid (RV = cs ++ Pu.readAllV (s1.length + 1) s1 false) := hV
    clear hV hncs
    have HE : Hid (R = Pu.readAllF (s1.length + 1) s1 false n) := hE
    clear hE
    have hsz := hk.size
    obtain ⟨av, cv, rfl⟩ := own_slice hown
    have hsh := hr.short
    go_wp2_with fail
    refine (word_any b s1 false _ hr).mono ?_
    rintro e w1 ⟨rfl, q, rfl⟩
    cases hw : (Pu.word s1 == Pu.sDone)
    · have hwb : (Pu.word s1 == [100, 111, 110, 101]) = false := hw
      cases hbd : (Pu.readOne s1 false).2
      · have HE2 : Hid (R = Pu.readAllF ((Pu.readOne s1 false).1.length + 1) (Pu.readOne s1 false).1 false (n + 1)) := by
          show _ = _
          rw [HE.out, Pu.readAllF_step _ _ _ hw hbd, hbd]
        have HV2 : Hid (RV = (cs ++ [Pu.readOneV s1 false]) ++ Pu.readAllV ((Pu.readOne s1 false).1.length + 1) (Pu.readOne s1 false).1 false) := by
          show _ = _
          rw [HV.out, Pu.readAllV_step _ _ hw hbd, hbd, List.append_assoc, List.singleton_append]
        have hlt := Pu.readOne_lt' s1 false hbd
        have HB : Hid ((Pu.readOne s1 false).2 = false) := hbd
        clear HE hw hbd
        go_wp2_with fail
        refine (readOne_any b s1 false _ (hr.drewN q)).mono ?_
        rintro e w2 ⟨⟨v, rfl, vm, vc, hvv, hS2⟩, hr2, hk2⟩
        generalize Pu.readOneV s1 false = cc at *
        obtain ⟨qm, cm, hvm, _⟩ := id hS2.ms
        obtain ⟨qc, cc2, hvc, _⟩ := id hS2.cs
        subst hvm hvc hvv
        unfold coC
        rw [HB.out] at hr2
        generalize (Pu.readOne s1 false).1 = s2 at *
        have hown2 := own_kept (own_kept hown ((Kx.refl (Only b) _).drewN q) hb) hk2 hb
        have hr3 := hr2.alloc (.cells #[.string ⟨cc.word.toArray⟩, .string ⟨cc.ref.toArray⟩, .int .i64 cc.mark, .string ⟨cc.au.name.toArray⟩, .string ⟨cc.au.mail.toArray⟩, .int .i64 cc.au.time, .string ⟨cc.data.toArray⟩, .int .i64 cc.frm.mark, .string ⟨cc.frm.ref.toArray⟩, .slice qm cc.merges.length cm, .slice qc cc.changes.length cc2] 158)
        have hk3 := ((hk.drewN q).trans hk2).alloc (.cells #[.string ⟨cc.word.toArray⟩, .string ⟨cc.ref.toArray⟩, .int .i64 cc.mark, .string ⟨cc.au.name.toArray⟩, .string ⟨cc.au.mail.toArray⟩, .int .i64 cc.au.time, .string ⟨cc.data.toArray⟩, .int .i64 cc.frm.mark, .string ⟨cc.frm.ref.toArray⟩, .slice qm cc.merges.length cm, .slice qc cc.changes.length cc2] 158)
        have hz3 : (w2.alloc (.cells #[.string ⟨cc.word.toArray⟩, .string ⟨cc.ref.toArray⟩, .int .i64 cc.mark, .string ⟨cc.au.name.toArray⟩, .string ⟨cc.au.mail.toArray⟩, .int .i64 cc.au.time, .string ⟨cc.data.toArray⟩, .int .i64 cc.frm.mark, .string ⟨cc.frm.ref.toArray⟩, .slice qm cc.merges.length cm, .slice qc cc.changes.length cc2] 158)).heap.size = w2.heap.size + 1 := by simp
        have hw2 := hk2.size
        have hC := Cb.new #[.string ⟨cc.word.toArray⟩, .string ⟨cc.ref.toArray⟩, .int .i64 cc.mark, .string ⟨cc.au.name.toArray⟩, .string ⟨cc.au.mail.toArray⟩, .int .i64 cc.au.time, .string ⟨cc.data.toArray⟩, .int .i64 cc.frm.mark, .string ⟨cc.frm.ref.toArray⟩, .slice qm cc.merges.length cm, .slice qc cc.changes.length cc2] 158 w2
        obtain ⟨c0, c1, f0, f1, pos, ⟨m, hm⟩, short⟩ := hr3
        go_wp2_with (at_builtin; refine wpList_append_own_at _ rfl (.tmp 18) (.tmp 20) 90 rfl w.heap.size 158 i0 _ 11 168 Tryz.underlying90 hi hz0 hz1 hz2 rfl (by decide) _ _ _ rfl ((hown2.alloc _).alloc _) ⟨w2.heap.size + 1, 0, none⟩ 1 1 [.string ⟨cc.word.toArray⟩, .string ⟨cc.ref.toArray⟩, .int .i64 cc.mark, .string ⟨cc.au.name.toArray⟩, .string ⟨cc.au.mail.toArray⟩, .int .i64 cc.au.time, .string ⟨cc.data.toArray⟩, .int .i64 cc.frm.mark, .string ⟨cc.frm.ref.toArray⟩, .slice qm cc.merges.length cm, .slice qc cc.changes.length cc2] rfl rfl ?c1 ?c2 ?c3 ?c4 ?c5 ?_)
        case c1 =>
          have hcn := cells_new (w2.alloc (.cells #[.string ⟨cc.word.toArray⟩, .string ⟨cc.ref.toArray⟩, .int .i64 cc.mark, .string ⟨cc.au.name.toArray⟩, .string ⟨cc.au.mail.toArray⟩, .int .i64 cc.au.time, .string ⟨cc.data.toArray⟩, .int .i64 cc.frm.mark, .string ⟨cc.frm.ref.toArray⟩, .slice qm cc.merges.length cm, .slice qc cc.changes.length cc2] 158)) [.string ⟨cc.word.toArray⟩, .string ⟨cc.ref.toArray⟩, .int .i64 cc.mark, .string ⟨cc.au.name.toArray⟩, .string ⟨cc.au.mail.toArray⟩, .int .i64 cc.au.time, .string ⟨cc.data.toArray⟩, .int .i64 cc.frm.mark, .string ⟨cc.frm.ref.toArray⟩, .slice qm cc.merges.length cm, .slice qc cc.changes.length cc2] 158
          rw [World.size_alloc] at hcn
          exact hcn
        case c2 => simp [Value.oneCell']
        case c3 => unfold maxLen; omega
        case c4 => omega
        case c5 => simp at hw2 ⊢; omega
        intro v4 w4 hown4 hgrow4 _ hloc4
        have hk4 : Kx (Only b) w w4 := (hk3.alloc _).grown hgrow4 (fun k he => (hown2.lt k he).1)
        have hr4 : Rd b s2 false w4 := ((hr2.alloc _).alloc _).grown hgrow4 (fun k he => by have := (hown2.lt k he).1; omega)
        go_wp2
        go_roundw
        case rel =>
          have hrow1 : CoRow w2 w.heap.size (Value.slice av n cv).ownBlock cs xs := hrow.kept (((Kx.refl (Only b) _).drewN q).trans hk2) (fun k hk' _ _ e => by unfold Only at e; omega)
          have hvl : ∀ k, (Value.slice av n cv).ownBlock = some k → k < wr.heap.size := fun k e => (hown.lt k e).2
          have hS3 : CoS w2 wr.heap.size (.slice qm cc.merges.length cm) (.slice qc cc.changes.length cc2) cc := hS2
          have g1 : ∀ k, (Value.slice qm cc.merges.length cm).ownBlock = some k → (Value.slice av n cv).ownBlock ≠ some k := fun k e1 e2 => by have h1 := hvl k e2; have h2 := (hS3.mb k e1).1; omega
          have g2 : ∀ k, (Value.slice qc cc.changes.length cc2).ownBlock = some k → (Value.slice av n cv).ownBlock ≠ some k := fun k e1 e2 => by have h1 := hvl k e2; have h2 := (hS3.cb k e1).1; omega
          have hrow2 := CoRow.snoc (hS3.mono hsz) g1 g2 hrow1
          have hkg : Kx (fun k => (Value.slice av n cv).ownBlock = some k) w2 w4 := (((Kx.refl _ _).alloc _).alloc _).trans ((Kx.of_grown hgrow4).mono (fun k _ e => e.symm))
          have hrow5 := hrow2.step (G' := v4.ownBlock) hkg (fun k _ _ hne e => hne e) (fun k hk' hne e => by
            rcases hloc4 with h | h
            · exact hne (h ▸ e)
            · rw [h] at e
              have := Option.some.inj e
              omega)
          exact ⟨n + 1, s2, _, cs ++ [cc], by rw [HN.out]; simp, hrow5, HV2.out, by omega, hr4, hk4, hown4, HE2.out⟩
        case measure => rw [hr4.left, hr.left]; exact hlt
      · have HE2 : Hid (R = (n, (Pu.readOne s1 false).1, (Pu.readOne s1 false).2)) := by
          show _ = _
          rw [HE.out, Pu.readAllF_bad _ _ _ _ hw hbd]
        have HV2 : Hid (RV = cs) := by
          show _ = _
          rw [HV.out, Pu.readAllV_bad _ _ _ hw hbd, List.append_nil]
        have HB : Hid ((Pu.readOne s1 false).2 = true) := hbd
        clear HE hw hbd
        go_wp2_with fail
        refine (readOne_any b s1 false _ (hr.drewN q)).mono ?_
        rintro e w2 ⟨⟨v, rfl, vm, vc, hvv, hS2⟩, hr2, hk2⟩
        generalize Pu.readOneV s1 false = cc at *
        obtain ⟨qm, cm, hvm, _⟩ := id hS2.ms
        obtain ⟨qc, cc2, hvc, _⟩ := id hS2.cs
        subst hvm hvc hvv
        unfold coC
        rw [HB.out] at hr2 HE2
        generalize (Pu.readOne s1 false).1 = s2 at *
        have hr3 := hr2.alloc (.cells #[.string ⟨cc.word.toArray⟩, .string ⟨cc.ref.toArray⟩, .int .i64 cc.mark, .string ⟨cc.au.name.toArray⟩, .string ⟨cc.au.mail.toArray⟩, .int .i64 cc.au.time, .string ⟨cc.data.toArray⟩, .int .i64 cc.frm.mark, .string ⟨cc.frm.ref.toArray⟩, .slice qm cc.merges.length cm, .slice qc cc.changes.length cc2] 158)
        have hr4 := hr3
        have hk3 := ((hk.drewN q).trans hk2).alloc (.cells #[.string ⟨cc.word.toArray⟩, .string ⟨cc.ref.toArray⟩, .int .i64 cc.mark, .string ⟨cc.au.name.toArray⟩, .string ⟨cc.au.mail.toArray⟩, .int .i64 cc.au.time, .string ⟨cc.data.toArray⟩, .int .i64 cc.frm.mark, .string ⟨cc.frm.ref.toArray⟩, .slice qm cc.merges.length cm, .slice qc cc.changes.length cc2] 158)
        obtain ⟨c0, c1, f0, f1, pos, ⟨m, hm⟩, short⟩ := hr3
        go_wp2
        go_ret
        refine ⟨⟨av, cv, ?_, ?_⟩, ?_, ?_, hk3⟩
        · rw [HE2.out]; rfl
        · rw [HE2.out, HV2.out]
          have hown2 := own_kept (own_kept hown ((Kx.refl (Only b) _).drewN q) hb) hk2 hb
          have hrow1 := hrow.kept (((Kx.refl (Only b) _).drewN q).trans hk2) (fun k hk' _ _ e => by unfold Only at e; omega)
          have hN := HN.out
          subst hN
          exact CosAt.of_own (hown2.alloc _) (hrow1.kept (X := fun _ => False) ((Kx.refl _ _).alloc _) (fun _ _ _ _ => id)) (Nat.le_refl _)
        · rw [HE2.out]; exact hr4
        · rw [HE2.out]; show n ≤ 8000; omega
    · have hwb : Pu.word s1 = [100, 111, 110, 101] := beq_iff_eq.1 hw
      have HE2 : Hid (R = (n, (Pu.exactly Pu.sDone s1 false).1, (Pu.exactly Pu.sDone s1 false).2)) := by
        show _ = _
        rw [HE.out, Pu.readAllF_done _ _ _ _ hw]
      have HV2 : Hid (RV = cs) := by
        show _ = _
        rw [HV.out, Pu.readAllV_done _ _ _ hw, List.append_nil]
      clear HE hw
      rw [hwb]
      clear hwb
      go_wp2_with fail
      refine (exactly_any b s1 false Pu.sDone _ (hr.drewN q)).mono ?_
      rintro e w2 ⟨rfl, hr2, hk2⟩
      generalize Pu.exactly Pu.sDone s1 false = st at *
      obtain ⟨s2, bad2⟩ := st
      go_wp2
      go_ret
      refine ⟨⟨av, cv, ?_, ?_⟩, ?_, ?_, (hk.drewN q).trans hk2⟩
      · rw [HE2.out]; rfl
      · rw [HE2.out, HV2.out]
        have hown2 := own_kept (own_kept hown ((Kx.refl (Only b) _).drewN q) hb) hk2 hb
        have hrow1 := hrow.kept (((Kx.refl (Only b) _).drewN q).trans hk2) (fun k hk' _ _ e => by unfold Only at e; omega)
        have hN := HN.out
        subst hN
        exact CosAt.of_own hown2 hrow1 (Nat.le_refl _)
      · rw [HE2.out]; exact hr2
      · rw [HE2.out]; show n ≤ 8000; omega

end Go.Proofs.YtepgoppgblfjbaaGreatDoor
