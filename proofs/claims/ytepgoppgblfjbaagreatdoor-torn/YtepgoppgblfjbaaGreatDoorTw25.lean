import Derived.Test.YtepgoppgblfjbaaGreatDoorTw24
import Derived.Test.YtepgoppgblfjbaaGreatDoorTw07
import Derived.Shelf.SlGeneric
import Derived.Shelf.SlIter.Nil
import Derived.Shelf.SortM.Plain
import Derived.Shelf.SortM.SortNone
import Derived.Ground.GgzProg
import Derived.Ground.SlgmProg
import Derived.Test.YtepgoppgblfjbaaGreatDoorProg
import Derived.Test.YtepgoppgblfjbaaGreatDoorTw17
/- Package journal: Add. -/
namespace Go.Proofs.YtepgoppgblfjbaaGreatDoor
open Go.RowKit

set_option maxHeartbeats 1600000 in
set_option maxRecDepth 100000 in
theorem jadd_any (s : Nat) (p0 : Option Addr) (j str : List UInt8) (vj : Value) (w : World) (h : Jr w s p0 j vj) (hgl : Gl w) (hsl : str.length ≤ 8000) (hjl : j.length ≤ 100000000) (h7 : 7 ≤ w.heap.size) :
    Calls Tryz.prog 52 #[.pointer (some ⟨s, 1, none⟩), .string ⟨str.toArray⟩] w fun e w' => e = .returned (.tuple #[]) ∧ ∃ vj', Jr w' s p0 (Pd.record Sh.K j str) vj' ∧ (∀ k, vj'.ownBlock = some k → vj.ownBlock = some k ∨ w.heap.size ≤ k) ∧ Kx (fun k => k = s ∨ vj.ownBlock = some k) w w' := by
  obtain ⟨i0, hi0, hz0, hz1, hz2⟩ := info_parts info5
  have hmx : maxLen = 9223372036854775807 := rfl
  have hnc := newConstants_any w
  obtain ⟨arr, harr⟩ : ∃ arr, A32 Sh.K = arr := ⟨_, rfl⟩
  rw [harr] at hnc
  have HA : Hid (A32 Sh.K = arr) := harr
  have hsz : arr.size = 72 := by rw [← harr]; rfl
  have hi : (Tryz.prog.info? 176).map (·.size) = some arr.size := by rw [hsz]; kernel_rfl
  have hall : arr.all (·.oneCell') = true := by rw [← harr]; exact A32_all _
  have hzs : Tryz.zeroCells176.size = arr.size := by rw [hsz]; kernel_rfl
  have hls : (Pd.lastSeal j).length ≤ 32 := by
    unfold Pd.lastSeal
    rw [List.length_drop]
    rcases h.sized with rfl | h0
    · simp
    · omega
  have HR : Hid (Pd.record Sh.K j str = j ++ (Lib.itoa (str.length : Int) ++ 10 :: (str ++ Sh.ofK Sh.K (Pd.lastSeal j ++ str)))) := by
    show _ = _
    unfold Pd.record Pd.sealOf
    simp
  have hol := ofK_len Sh.K (Pd.lastSeal j ++ str)
  have hlast := fun W (hW : Jr W s p0 j vj) => lastSeal_any s p0 j vj W hW
  have hseal := fun (W : World) (cb : Nat) (hW : Cb cb (A32 Sh.K) 176 W) => sealOf_any cb 176 (Pd.lastSeal j) str W hW (by omega)
  rw [harr] at hseal
  clear harr
  generalize Pd.record Sh.K j str = rcd at *
  generalize Sh.ofK Sh.K (Pd.lastSeal j ++ str) = sea at *
  generalize Pd.lastSeal j = ls at *
  go_enter Tryz.func52, Tryz.ntmps52
  go_wp2_with fail
  refine hnc.mono ?_
  rintro _ w1 ⟨rfl, hk1⟩
  have hB0 := Cb.new Tryz.zeroCells176 176 w1
  have hk2 := hk1.alloc (.cells Tryz.zeroCells176 176)
  have hk3 : Kx (fun _ => False) w ((w1.alloc (.cells Tryz.zeroCells176 176)).setRow w1.heap.size arr) := hk2.setRow (fun h => absurd h (by have := hk1.size; omega)) arr
  have hcb := hB0.row arr
  clear hnc hk2
  go_wp2_with (first | refine wpList_storeAll _ rfl 176 _ _ rfl rfl rfl hB0 hi hzs hall ?_ | fail)
  revert hk3 hcb
  generalize (w1.alloc (.cells Tryz.zeroCells176 176)).setRow w1.heap.size arr = w3
  generalize w1.heap.size = cb
  intro hk3 hcb
  have h3 := h.kept hk3 id (fun _ _ => id)
  refine (hlast w3 h3).mono ?_
  rintro _ w4 ⟨rfl, hk4⟩
  have hk04 := hk3.trans hk4
  have hcb4 := hcb.kept hk4 id
  clear hB0 hcb hlast hk3
  go_wp2_with fail
  refine (hseal w4 cb hcb4).mono ?_
  rintro _ w5 ⟨rfl, hk5⟩
  have hk05 := hk04.trans hk5
  have h5 := h.kept hk05 id (fun _ _ => id)
  have hgl5 := hgl.kept hk05 (fun _ _ => id)
  have hitl := Lib.itoa_length_le (str.length : Int) (by omega) (by omega)
  clear hseal hcb4 hk4 hk04 hk5 h3
  go_wp2_with fail
  obtain ⟨av, cv, hvj⟩ := h5.own.slice
  rw [A8_len] at hvj
  subst hvj
  have hcat : ∀ a b : List UInt8, (⟨a.toArray⟩ : ByteArray) ++ ⟨b.toArray⟩ = ⟨(a ++ b).toArray⟩ := fun a b => by
    apply ByteArray.ext; simp
  refine wp_region_ord (C := fun w' => Kx (fun k => (Value.slice av j.length cv).ownBlock = some k) w5 w') [(0, true), (1, true), (2, true), (3, true), (4, true), (5, true), (6, true), (9, true), (11, true), (7, false), (8, false), (10, false), (12, false), (13, false), (14, false), (15, false)] 16 (by kernel_rfl) (by kernel_rfl) rfl (Kx.refl _ _).drew ?_
  refine ord_val rfl (.pointer (some ⟨s, 1, none⟩)) (fun w' hC => by go_simp) ?_
  refine ord_val rfl (.pointer (some ⟨s, 1, none⟩)) (fun w' hC => by go_simp) ?_
  refine ord_val rfl (.pointer (some ⟨s, 1, none⟩)) (fun w' hC => by go_simp) ?_
  refine ord_val rfl (.pointer (some ⟨s, 1, none⟩)) (fun w' hC => by go_simp) ?_
  refine ord_val rfl (.slice av j.length cv) (fun w' hC => by
    have hc0 : w'.cell? ⟨s, 1, none⟩ = some (.slice av j.length cv) := Cb.cell (h5.blk.kept hC h5.ne) 1
    go_simp) ?_
  refine ord_val rfl (.string ⟨str.toArray⟩) (fun w' hC => by go_simp) ?_
  refine ord_val rfl (.int .i64 (str.length : Int)) (fun w' hC => by go_simp) ?_
  refine ord_val rfl (.string ⟨str.toArray⟩) (fun w' hC => by go_simp) ?_
  refine ord_val rfl (.string ⟨sea.toArray⟩) (fun w' hC => by go_simp) ?_
  simp only [Act.put, List.setIfInBounds_toArray, List.set_cons_succ, List.set_cons_zero]
  have hkd := (Kx.refl (fun _ => False) w5).drew
  have hgld := hgl5.kept hkd (fun _ _ => id)
  refine ord_enter rfl 86 #[.int .i64 (str.length : Int)] (by go_simp) ?_
  refine (itoa_any str.length (by omega) _ hgld).mono ?_
  rintro _ w6 ⟨rfl, hk6⟩
  have hk56 := hkd.trans hk6
  have hC6 : Kx (fun k => (Value.slice av j.length cv).ownBlock = some k) w5 w6 := hk56.mono (fun _ _ h => h.elim)
  refine ⟨_, rfl, hC6, ?_⟩
  simp only [Act.put, List.setIfInBounds_toArray, List.set_cons_succ, List.set_cons_zero]
  generalize Lib.itoa (str.length : Int) = it at *
  refine ord_valT rfl (.string ⟨(it ++ [10]).toArray⟩) (by go_simp; omega) hC6 ?_
  simp only [Act.put, List.setIfInBounds_toArray, List.set_cons_succ, List.set_cons_zero]
  refine ord_valT rfl (.string ⟨(it ++ 10 :: str).toArray⟩) (by go_simp; omega) hC6 ?_
  simp only [Act.put, List.setIfInBounds_toArray, List.set_cons_succ, List.set_cons_zero]
  refine ord_valT rfl (.string ⟨(it ++ 10 :: (str ++ sea)).toArray⟩) (by go_simp; omega) hC6 ?_
  simp only [Act.put, List.setIfInBounds_toArray, List.set_cons_succ, List.set_cons_zero]
  have h6 := h5.kept hk56 id (fun _ _ => id)
  refine ord_step ?_
  refine wpList_append_Bs _ rfl _ _ 58 9 rfl 7 5 i0 Tryz.underlying58 Tryz.underlying9 hi0 hz0 hz1 hz2 (.slice av j.length cv) _ rfl h6.own (it ++ 10 :: (str ++ sea)) rfl ?c3 ?c4 ?c5 ?c6 ?_
  case c3 => rw [List.length_append, List.length_cons]; omega
  case c4 => rw [A8_len]; simp only [List.length_append, List.length_cons]; unfold maxLen; omega
  case c5 => rw [A8_len]; simp only [List.length_append, List.length_cons]; omega
  case c6 => have := hk05.size; have := hk56.size; omega
  intro v' w7 hown7 hgr hor
  have hg7 : Kx (fun k => (Value.slice av j.length cv).ownBlock = some k) w6 w7 := (Kx.of_grown hgr).mono (fun k _ e => e.symm)
  have hC7 := hC6.trans hg7
  refine ⟨rfl, hC7, ?_⟩
  have hb7 : Cb s #[.pointer p0, .slice av j.length cv] 98 w7 := h6.blk.kept hg7 h6.ne
  obtain ⟨av', cv', hv'⟩ := hown7.slice
  subst hv'
  have hlen : (A8 j ++ A8 (it ++ 10 :: (str ++ sea))).length = rcd.length := by
    rw [HR.out, ← A8_app, A8_len]
  rw [hlen] at hown7 hor
  simp only [Act.put, List.setIfInBounds_toArray, List.set_cons_succ, List.set_cons_zero]
  rw [hlen]
  refine ord_valT rfl (.pointer (some ⟨s, 1, none⟩)) (by go_simp) hC7 ?_
  refine ord_valT rfl (.pointer (some ⟨s, 1, none⟩)) (by go_simp) hC7 ?_
  refine ord_nil ?_
  simp only [Act.put, List.setIfInBounds_toArray, List.set_cons_succ, List.set_cons_zero]
  have c1 : w7.cell? ⟨s, 1, none⟩ = some (.slice av j.length cv) := Cb.cell hb7 1
  have f1 : w7.frozen? ⟨s, 1, none⟩ = false := Cb.frozen hb7 1
  have hb8 : Cb s #[.pointer p0, .slice av' rcd.length cv'] 98 (w7.setCell ⟨s, 1, none⟩ (.slice av' rcd.length cv')) := hb7.set 1 _
  have hs7 := hb7.lt
  have hne8 : (Value.slice av' rcd.length cv').ownBlock ≠ some s := by
    rcases hor with e | e
    · rw [e]; exact h6.ne
    · rw [e]
      intro e2
      have := Option.some.inj e2
      have := h6.blk.lt
      omega
  have hk8 : Kx (Only s) w7 (w7.setCell ⟨s, 1, none⟩ (.slice av' rcd.length cv')) := (Kx.refl _ _).only_set _
  have hJ : Jr (w7.setCell ⟨s, 1, none⟩ (.slice av' rcd.length cv')) s p0 rcd (.slice av' rcd.length cv') := by
    refine ⟨hb8, ?_, hne8, .inr ?_⟩
    · have h9 := hown7.kept hk8 (fun k _ e e2 => by unfold Only at e2; subst e2; exact hne8 e)
      rw [← A8_app, ← HR.out] at h9
      exact h9
    · rw [HR.out]
      simp only [List.length_append, List.length_cons]
      omega
  have hkF : Kx (fun k => k = s ∨ (Value.slice av j.length cv).ownBlock = some k) w (w7.setCell ⟨s, 1, none⟩ (.slice av' rcd.length cv')) := ((hk05.mono (fun _ _ h => h.elim)).trans (hC7.mono (fun _ _ e => .inr e))).trans (hk8.mono (fun _ _ e => .inl e))
  have hlo : ∀ k, (Value.slice av' rcd.length cv').ownBlock = some k → (Value.slice av j.length cv).ownBlock = some k ∨ w.heap.size ≤ k := by
    intro k e
    rcases hor with e2 | e2
    · exact .inl (by rw [← e2]; exact e)
    · rw [e2] at e
      have := Option.some.inj e
      have := hk05.size
      have := hk56.size
      exact .inr (by omega)
  clear hown7 hgr hor hg7 hC7 hC6 hb7 hb8 hk8 h6 h5 hgl5 hgld hkd hk6 hk56 hcat
  go_wp2
  go_end0
  exact ⟨rfl, _, hJ, hlo, hkF⟩

end Go.Proofs.YtepgoppgblfjbaaGreatDoor

/- A store, as it lies in memory. New. -/
namespace Go.Proofs.YtepgoppgblfjbaaGreatDoor
open Go.RowKit

theorem Sto.move {M M' X : Nat → Prop} {w w' : World} {h o c r t n : Nat} {S : St} (hs : Sto M w h o c r t n S) (hM : ∀ k, k < w.heap.size → M' k → M k) (hsub : ∀ k, Fo o c r t k → M' k) (hk : Kx X w w') (hX : ∀ k, k < w.heap.size → X k → M' k) (hF : ∀ k, Fo o c r t k → ¬ X k)
    (hlow : ∀ k, M' k → 7 ≤ k ∧ k < w'.heap.size) : Sto M' w' h o c r t n S := by
  obtain ⟨f1, a1, b1⟩ := hs.com
  obtain ⟨f2, a2, b2⟩ := hs.ref
  obtain ⟨f3, a3, b3⟩ := hs.tag
  have ho : ¬ M' h := fun e => hs.outM (hM h hs.hi.lt e)
  exact ⟨hs.hi.kept hk (fun e => ho (hX h hs.hi.lt e)), hs.obj.kept hk (hF o (.inl rfl)), ⟨f1, a1.kept hk (hF c (.inr (.inl rfl))), (b1.mono hM).kept hk hX⟩, ⟨f2, a2.kept hk (hF r (.inr (.inr (.inl rfl)))), (b2.mono hM).kept hk hX⟩,
    ⟨f3, a3.kept hk (hF t (.inr (.inr (.inr rfl)))), (b3.mono hM).kept hk hX⟩, hsub, ho, hs.sep, hlow⟩

/-- A store: its history, its journal. -/
structure Str (M : Nat → Prop) (w : World) (s h o c r t n : Nat) (S : St) (j : List UInt8) (vj : Value) : Prop where
  sto : Sto M w h o c r t n S
  jr : Jr w s (some ⟨h, 0, none⟩) j vj
  inS : M s
  inV : ∀ k, vj.ownBlock = some k → M k

theorem own_ne_map {w : World} {base b n k : Nat} {e : TypeId} {v : Value} {xs : List Value} {f : List UInt8 → Option Value} (h : OwnB w base e v xs) (hm : MpS w b n f) (hk : v.ownBlock = some k) : k ≠ b := by
  intro e
  subst e
  obtain ⟨D, ⟨es, clock, hb, _⟩, _⟩ := hm
  rcases h with ⟨rfl, _⟩ | ⟨g, cap, cur, fz, rfl, _, hg, _⟩
  · cases hk
  · have : g = k := Option.some.inj hk
    subst this
    rw [hb] at hg
    cases hg

section
variable {M : Nat → Prop} {w : World} {s h o c r t n : Nat} {S : St} {j : List UInt8} {vj : Value}

theorem Str.s_fo (hs : Str M w s h o c r t n S j vj) : ¬ Fo o c r t s := fun e => by
  obtain ⟨f1, a1, _⟩ := hs.sto.com
  obtain ⟨f2, a2, _⟩ := hs.sto.ref
  obtain ⟨f3, a3, _⟩ := hs.sto.tag
  rcases e with e | e | e | e
  · exact map_ne hs.sto.obj hs.jr.blk e
  · exact map_ne a1 hs.jr.blk e
  · exact map_ne a2 hs.jr.blk e
  · exact map_ne a3 hs.jr.blk e

theorem Str.v_fo (hs : Str M w s h o c r t n S j vj) : ∀ k, vj.ownBlock = some k → ¬ Fo o c r t k := fun k hk e => by
  obtain ⟨f1, a1, _⟩ := hs.sto.com
  obtain ⟨f2, a2, _⟩ := hs.sto.ref
  obtain ⟨f3, a3, _⟩ := hs.sto.tag
  rcases e with e | e | e | e
  · exact own_ne_map hs.jr.own hs.sto.obj hk e
  · exact own_ne_map hs.jr.own a1 hk e
  · exact own_ne_map hs.jr.own a2 hk e
  · exact own_ne_map hs.jr.own a3 hk e

/-- What an import turns. -/
def StX (s o c r t : Nat) (vj : Value) : Nat → Prop := fun k => k = s ∨ Fo o c r t k ∨ vj.ownBlock = some k

theorem Str.inX (hs : Str M w s h o c r t n S j vj) : ∀ k, StX s o c r t vj k → M k := fun k e => by
  rcases e with rfl | e | e
  · exact hs.inS
  · exact hs.sto.inM k e
  · exact hs.inV k e

/-- Other stores' imports leave it as it is. -/
theorem Str.kept {X : Nat → Prop} {w' : World} (hs : Str M w s h o c r t n S j vj) (hk : Kx X w w') (hX : ∀ k, k < w.heap.size → X k → M k) (hF : ∀ k, StX s o c r t vj k → ¬ X k) : Str M w' s h o c r t n S j vj :=
  ⟨hs.sto.kept hk hX (fun k e => hF k (.inr (.inl e))), hs.jr.kept hk (hF s (.inl rfl)) (fun k e => hF k (.inr (.inr e))), hs.inS, hs.inV⟩
end

/-- New's store is empty. -/
structure StrNew (M : Nat → Prop) (w w' : World) (s h o c r t : Nat) : Prop where
  str : Str (fun k => M k ∨ k = s ∨ Fo o c r t k) w' s h o c r t 0 St.empty [] (.slice none 0 0)
  kx : Kx (fun _ => False) w w'
  new : w.heap.size ≤ o ∧ o < c ∧ c < r ∧ r < t ∧ t < h ∧ h < s

set_option maxHeartbeats 800000 in
theorem new_any (M : Nat → Prop) (w : World) (hM : ∀ k, M k → 7 ≤ k ∧ k < w.heap.size) (h7 : 7 ≤ w.heap.size) : Calls Tryz.prog 21 #[] w fun e w' => ∃ s h o c r t, e = .returned (.pointer (some ⟨s, 0, none⟩)) ∧ StrNew M w w' s h o c r t := by
  go_enter Tryz.func21, Tryz.ntmps21
  go_wp2_with fail
  refine (hnew_any w).mono ?_
  rintro _ w1 ⟨h, o, c, r, t, rfl, hN⟩
  have k := (Kx.refl (fun _ => False) w1).alloc (.cells #[.pointer (some ⟨h, 0, none⟩), .slice none 0 0] 98)
  have hcb := Cb.new #[.pointer (some ⟨h, 0, none⟩), .slice none 0 0] 98 w1
  have hF : StrNew M w (w1.alloc (.cells #[.pointer (some ⟨h, 0, none⟩), .slice none 0 0] 98)) w1.heap.size h o c r t := by
    obtain ⟨n1, n2, n3, n4, n5⟩ := hN.new
    have hl := hN.hi.lt
    have hsz := hN.kx.size
    have hsa : (w1.alloc (.cells #[.pointer (some ⟨h, 0, none⟩), .slice none 0 0] 98)).heap.size = w1.heap.size + 1 := by simp
    refine ⟨⟨⟨hN.hi.kept k id, hN.fo.kept k id, ⟨none4, hN.fc.kept k id, fun k => ⟨fun _ => rfl, fun c e => by cases e⟩⟩, ⟨none4, hN.fr.kept k id, fun k => ⟨fun _ => rfl, fun c e => by cases e⟩⟩, ⟨none4, hN.ft.kept k id, fun k => ⟨fun _ => rfl, fun c e => by cases e⟩⟩, fun k e => .inr (.inr e), ?_, by omega, ?_⟩, ⟨hcb, .inl ⟨rfl, rfl⟩, by simp [Value.ownBlock], .inl rfl⟩, .inr (.inl rfl), fun k e => by cases e⟩, hN.kx.trans k, by omega⟩
    · intro e
      rcases e with e | e | e
      · have := (hM h e).2; omega
      · omega
      · unfold Fo at e; omega
    · intro k e
      rw [hsa]
      rcases e with e | e | e
      · have := hM k e; omega
      · omega
      · unfold Fo at e; omega
  clear k hcb
  go_wp2
  go_ret
  exact ⟨_, h, o, c, r, t, rfl, hF⟩

end Go.Proofs.YtepgoppgblfjbaaGreatDoor

/- Import. -/
namespace Go.Proofs.YtepgoppgblfjbaaGreatDoor
open Go.RowKit

/-- The stream's commands are in their bounds. -/
structure StrOk (x : List UInt8) : Prop where
  len : (Pu.check x).2 = 0 → x.length ≤ 8000
  few : (Pu.check x).2 = 0 → (Pu.commands x).length ≤ 60
  ok : (Pu.check x).2 = 0 → ∀ c ∈ Pu.commands x, CoOk c

theorem check_len (x : List UInt8) (h : (Pu.check x).2 = 0) : x.length ≤ 8000 := by
  unfold Pu.check at h
  split at h
  · cases h
  · omega

/-- The store behind an import. -/
structure ImpR (M : Nat → Prop) (w w' : World) (s h o c r t n : Nat) (S : St) (j : List UInt8) (vj : Value) (x : List UInt8) (vj' : Value) : Prop where
  str : Str (fun k => M k ∨ vj'.ownBlock = some k) w' s h o c r t (n + 800000) (Pd.imp Sh.K S x).2 (if (Pd.imp Sh.K S x).1.2 = 0 then Pd.record Sh.K j x else j) vj'
  row : ∀ k, vj'.ownBlock = some k → vj.ownBlock = some k ∨ w.heap.size ≤ k
  kx : Kx (StX s o c r t vj) w w'

set_option maxHeartbeats 1600000 in
set_option maxRecDepth 100000 in
theorem import_any {M : Nat → Prop} {w : World} {s h o c r t n : Nat} {S : St} {j : List UInt8} {vj : Value} (hs : Str M w s h o c r t n S j vj) (hgl : Gl w) (x : List UInt8) (hx : StrOk x) (hxl : x.length ≤ maxLen) (hjl : j.length ≤ 100000000) (hn : n + 800000 ≤ maxLen) :
    Calls Tryz.prog 24 #[.pointer (some ⟨s, 0, none⟩), .string ⟨x.toArray⟩] w fun e w' => e = .returned (.tuple #[.int .i64 (Pd.imp Sh.K S x).1.1, .int .i64 (Pd.imp Sh.K S x).1.2]) ∧ ∃ vj', ImpR M w w' s h o c r t n S j vj x vj' := by
  obtain ⟨m, hm⟩ := hgl.max
  have h7 : 6 < w.heap.size := by
    have := hs.sto.lowM s hs.inS
    omega
  have hread := read_any x m w h7 hm hxl
  have hM' : ∀ k, (M k ∨ vj.ownBlock = some k) ↔ M k := fun k => ⟨fun e => e.elim id (hs.inV k), .inl⟩
  have hMe : (fun k => M k ∨ vj.ownBlock = some k) = M := funext fun k => propext (hM' k)
  by_cases hck : (Pu.check x).2 = 0
  · have hI : Pd.imp Sh.K S x = if (Pd.all Sh.K ⟨S, fun _ => none⟩ (Pu.commands x) 0).1.2 = 0 then ((Pd.all Sh.K ⟨S, fun _ => none⟩ (Pu.commands x) 0).1, (Pd.all Sh.K ⟨S, fun _ => none⟩ (Pu.commands x) 0).2.st) else ((Pd.all Sh.K ⟨S, fun _ => none⟩ (Pu.commands x) 0).1, S) := if_pos hck
    have hfew := hx.few hck
    have hok := hx.ok hck
    have hlen := hx.len hck
    have HC : Hid (∀ lo (W : World) (av : Option Addr) (cv : Nat), Sto M W h o c r t n S → Gl W → CosAt W lo (.slice av (Pu.commands x).length cv) (Pu.commands x) → _) := fun lo W av cv hS hG hv => do_any hS hG (Pu.commands x) hfew hok lo av cv hv hn
    obtain ⟨RR, hRR⟩ : ∃ RR, Pd.all Sh.K ⟨S, fun _ => none⟩ (Pu.commands x) 0 = RR := ⟨_, rfl⟩
    obtain ⟨II, hII⟩ : ∃ II, Pd.imp Sh.K S x = II := ⟨_, rfl⟩
    rw [hRR] at hI
    rw [hII] at hI ⊢
    have hdoAll : ∀ lo (W : World) (av : Option Addr) (cv : Nat), Sto M W h o c r t n S → Gl W → CosAt W lo (.slice av (Pu.commands x).length cv) (Pu.commands x) →
        Calls Tryz.prog 51 #[.pointer (some ⟨h, 0, none⟩), .slice av (Pu.commands x).length cv] W fun e w' => e = .returned (.tuple #[.int .i64 RR.1.1, .int .i64 RR.1.2]) ∧ (RR.1.2 = 0 → Sto M w' h o c r t (n + 800000) RR.2.st) ∧ (¬ RR.1.2 = 0 → Kx (fun _ => False) W w') ∧ Kx (Fo o c r t) W w' := by
      intro lo W av cv hS hG hv
      have := HC.out lo W av cv hS hG hv
      rw [hRR] at this
      exact this
    clear HC
    obtain ⟨⟨r1, r2⟩, RW⟩ := RR
    simp only at hI hdoAll
    generalize hcmd : Pu.commands x = cmds at *
    have HII : Hid (Pd.imp Sh.K S x = II) := hII
    have HI : Hid (II = if r2 = 0 then ((r1, r2), RW.st) else ((r1, r2), S)) := hI
    clear hRR hII hI hcmd hok
    obtain ⟨cn, hcn⟩ : ∃ cn, (Pu.check x).1 = cn := ⟨_, rfl⟩
    rw [hck, hcn] at hread
    clear hcn
    go_enter Tryz.func24, Tryz.ntmps24
    go_wp2_with fail
    refine hread.mono ?_
    rintro _ w2 ⟨⟨a, nn, cc, rfl, hcos⟩, hk2⟩
    have hcos2 := hcos trivial
    have hcos3 := hcos2
    obtain ⟨q, c', he, _⟩ := hcos3
    cases he
    have hs2 := hs.kept hk2 (fun _ _ h => h.elim) (fun _ _ => id)
    have hgl2 := hgl.kept hk2 (fun _ _ => id)
    have c0 : w2.cell? ⟨s, 0, none⟩ = some (.pointer (some ⟨h, 0, none⟩)) := Cb.cell hs2.jr.blk 0
    have hdo := hdoAll w.heap.size w2 a cc hs2.sto hgl2 hcos2
    clear hread hcos hcos2 hdoAll hm
    go_wp2_with fail
    refine hdo.mono ?_
    rintro _ w3 ⟨rfl, hS3, hN3, hk3⟩
    clear hdo c0
    have hjr3 := hs2.jr.kept hk3 hs2.s_fo hs2.v_fo
    have hgl3 := hgl2.kept hk3 (fun k hk e => by have := hs.sto.lowM k (hs.sto.inM k e); omega)
    have hk03 : Kx (Fo o c r t) w w3 := (hk2.mono (fun _ _ h => h.elim)).trans hk3
    by_cases hE : r2 = 0
    · subst hE
      have HI2 : Hid (II = ((r1, 0), RW.st)) := by
        have := HI.out
        rw [if_pos rfl] at this
        exact this
      have hS4 := hS3 rfl
      have h73 := hk03.size
      have hadd := jadd_any s (some ⟨h, 0, none⟩) j x vj w3 hjr3 hgl3 hlen hjl (by omega)
      clear HI hS3 hN3
      go_wp2_with fail
      refine hadd.mono ?_
      rintro _ w4 ⟨rfl, vj', hJ4, hrow, hk4⟩
      have hFin : ImpR M w w4 s h o c r t n S j vj x vj' := by
        have hrow' : ∀ k, vj'.ownBlock = some k → vj.ownBlock = some k ∨ w.heap.size ≤ k := fun k e => (hrow k e).imp id (fun h => Nat.le_trans h73 h)
        refine ⟨?_, hrow', (hk03.mono (fun _ _ e => .inr (.inl e))).trans (hk4.mono (fun k _ e => e.elim .inl (fun e => .inr (.inr e))))⟩
        rw [HII.out, HI2.out]
        simp only [if_true]
        refine ⟨hS4.move ?_ (fun k e => .inl (hs.sto.inM k e)) hk4 ?_ ?_ ?_, hJ4, .inl hs.inS, fun k e => .inr e⟩
        · intro k hk e
          rcases e with e | e
          · exact e
          · rcases hrow k e with e | e
            · exact hs.inV k e
            · omega
        · intro k _ e
          rcases e with rfl | e
          · exact .inl hs.inS
          · exact .inl (hs.inV k e)
        · intro k e e2
          rcases e2 with rfl | e2
          · exact hs.s_fo e
          · exact hs.v_fo k e2 e
        · intro k e
          have h4s := hk4.size
          rcases e with e | e
          · have := hs.sto.lowM k e
            omega
          · exact hJ4.own.lt k e
      clear hadd hJ4 hrow hk4 hS4 hjr3
      go_wp2
      go_ret2
      rw [HI2.out]
      exact ⟨rfl, vj', hFin⟩
    · have HI2 : Hid (II = ((r1, r2), S)) := by
        have := HI.out
        rw [if_neg hE] at this
        exact this
      have hk3' := hN3 hE
      have hk0 := hk2.trans hk3'
      have hFin : ImpR M w w3 s h o c r t n S j vj x vj := by
        refine ⟨?_, fun k e => .inl e, hk0.mono (fun _ _ h => h.elim)⟩
        rw [HII.out, HI2.out, hMe]
        simp only [hE, if_false]
        have hs3 := hs.kept hk0 (fun _ _ h => h.elim) (fun _ _ => id)
        exact ⟨hs3.sto.more (by omega), hs3.jr, hs3.inS, hs3.inV⟩
      clear HI hS3 hN3
      go_wp2
      go_ret2
      rw [HI2.out]
      exact ⟨rfl, vj, hFin⟩
  · have hI : Pd.imp Sh.K S x = (Pu.check x, S) := if_neg hck
    obtain ⟨⟨r1, r2⟩, hr⟩ : ∃ rr, Pu.check x = rr := ⟨_, rfl⟩
    rw [hr] at hread hck hI
    simp only at hread hck
    have HI : Hid (Pd.imp Sh.K S x = ((r1, r2), S)) := hI
    rw [hI]
    clear hI hr
    go_enter Tryz.func24, Tryz.ntmps24
    go_wp2_with fail
    refine hread.mono ?_
    rintro _ w2 ⟨⟨a, nn, cc, rfl, _⟩, hk2⟩
    have hFin : ImpR M w w2 s h o c r t n S j vj x vj := by
      refine ⟨?_, fun k e => .inl e, hk2.mono (fun _ _ h => h.elim)⟩
      rw [HI.out, hMe]
      simp only [hck, if_false]
      have hs3 := hs.kept hk2 (fun _ _ h => h.elim) (fun _ _ => id)
      exact ⟨hs3.sto.more (by omega), hs3.jr, hs3.inS, hs3.inV⟩
    clear hread
    go_wp2
    go_ret2
    exact ⟨rfl, vj, hFin⟩

end Go.Proofs.YtepgoppgblfjbaaGreatDoor

/- What a store tells: Files. -/
namespace Go.Proofs.YtepgoppgblfjbaaGreatDoor
open Go.RowKit

theorem hcommit_any (h o c r t n : Nat) (f : List UInt8 → Option Value) (name : List UInt8) (w : World) (hm : Hi w h o c r t) (hf : MpS w c n f) (hi : name.length ≤ maxLen) :
    Calls Tryz.prog 54 #[.pointer (some ⟨h, 0, none⟩), .string ⟨name.toArray⟩] w fun e w' => e = .returned (.tuple #[(f name).getD (.pointer none), .bool (f name).isSome]) ∧ w' = w := by
  have hc2 : w.cell? ⟨h, 1, none⟩ = some (.map (some c)) := Cb.cell hm 1
  generalize hx : (f name).getD (.pointer none) = x
  go_enter Tryz.func54, Tryz.ntmps54
  go_wp2_with (refine wpList_lookOkS rfl _ _ 147 rfl 101 (by kernel_rfl) (by kernel_rfl) (.pointer none) (by kernel_rfl) c n f rfl hf name rfl hi ?_)
  go_ret2
  exact ⟨rfl, rfl⟩

/-- A file, as it is told. -/
def lineF (f : Fi) : List UInt8 := f.mode ++ 32 :: (Sh.hex f.sum ++ 32 :: f.path)

def linesV (l : List Fi) : List Value := l.map fun f => .string ⟨(lineF f).toArray⟩

theorem linesV_succ (l : List Fi) (k : Nat) (h : k < l.length) : linesV (l.take (k + 1)) = linesV (l.take k) ++ [.string ⟨(lineF l[k]).toArray⟩] := by
  unfold linesV
  rw [List.take_succ_eq_append_getElem h, List.map_append]
  rfl

theorem info9 : (Tryz.prog.info? 9).map (fun i => (i.zero, i.size, i.bytes)) = some (some (.string ⟨#[]⟩), 1, 16) := by kernel_rfl

/-- What Files gives. -/
def FilR (w w' : World) (r : Option Com) (e : Ending) : Prop :=
  match r with
  | none => e = .returned (.tuple #[.slice none 0 0, .int .i64 5])
  | some c => ∃ v, e = .returned (.tuple #[v, .int .i64 0]) ∧ w'.ownsRow w.heap.size 9 1 v c.files.length (linesV c.files)

set_option maxHeartbeats 1600000 in
set_option maxRecDepth 100000 in
theorem files_any {M : Nat → Prop} {w : World} {s h o c r t n : Nat} {S : St} {j : List UInt8} {vj : Value} (hs : Str M w s h o c r t n S j vj) (name : List UInt8) (hi : name.length ≤ maxLen) :
    Calls Tryz.prog 27 #[.pointer (some ⟨s, 0, none⟩), .string ⟨name.toArray⟩] w fun e w' => FilR w w' (S.com name) e ∧ Kx (fun _ => False) w w' := by
  obtain ⟨i0, hi0, hz0, hz1, hz2⟩ := info_parts info9
  obtain ⟨f, hf, hF⟩ := hs.sto.com
  have c0 : w.cell? ⟨s, 0, none⟩ = some (.pointer (some ⟨h, 0, none⟩)) := Cb.cell hs.jr.blk 0
  have hcall := hcommit_any h o c r t n f name w hs.sto.hi hf hi
  have hmx : maxLen = 9223372036854775807 := rfl
  have hcat : ∀ a b : List UInt8, (⟨a.toArray⟩ : ByteArray) ++ ⟨b.toArray⟩ = ⟨(a ++ b).toArray⟩ := fun a b => by
    apply ByteArray.ext; simp
  cases hc : S.com name with
  | none =>
    rw [(hF name).1 hc] at hcall
    simp only [Option.getD_none, Option.isSome_none] at hcall
    go_enter Tryz.func27, Tryz.ntmps27
    go_wp2_with fail
    refine hcall.mono ?_
    rintro _ w2 ⟨rfl, hw2⟩
    subst hw2
    clear hcall
    go_wp2
    go_ret2
    exact ⟨rfl, Kx.refl _ _⟩
  | some cm =>
    obtain ⟨b, hb, hcm⟩ := (hF name).2 cm hc
    rw [hb] at hcall
    simp only [Option.getD_some, Option.isSome_some] at hcall
    unfold ptrV at hcall
    obtain ⟨al, cl, hfc, hlst⟩ := hcm.lst
    have hfok := hlst.ok
    have hfs := hlst.fs
    obtain ⟨sum, l⟩ := cm
    simp only at hfc hlst hfok hfs
    have hl60 := hfok.len
    unfold FilR
    simp only
    go_enter Tryz.func27, Tryz.ntmps27
    go_wp2_with fail
    refine hcall.mono ?_
    rintro _ w2 ⟨rfl, hw2⟩
    subst hw2
    clear hcall
    go_wp2
    go_loopw [27, 8] (fun iv v wr => ∃ (k : Nat), iv = .int .i64 k ∧ k ≤ l.length ∧ Kx (fun _ => False) w2 wr ∧ wr.ownsRow w2.heap.size 9 1 v k (linesV (l.take k))) (fun iv _ _ => l.length - (intOf iv).toNat)
    case atStart => exact ⟨0, rfl, by omega, Kx.refl _ _, World.ownsRow_nil _ _ _ _⟩
    case round =>
      obtain ⟨k, rfl, hk, hkx, hown⟩ := hrel
      by_cases hlt : k < l.length
      · have hlt2 : (k : Int) < (l.length : Int) := by omega
        have hFr := hfs.kept hkx (fun _ _ => id)
        obtain ⟨g, og, c', he, p0, p1, p2⟩ := hFr.file k hlt
        cases he
        have e0 : og + k * 3 = og + 3 * k := by omega
        have HL := linesV_succ l k hlt
        have HLL : Hid (linesV (l.take (k + 1)) = linesV (l.take k) ++ [.string ⟨(lineF l[k]).toArray⟩]) := HL
        have hfine := hfok.fine l[k] (List.getElem_mem hlt)
        clear HL
        generalize l[k] = fi at *
        obtain ⟨fp, fm, fsm⟩ := fi
        simp only at p0 p1 p2 hfine
        unfold lineF at HLL
        simp only at HLL
        have hxl : (Sh.hex fsm).length = 64 := by rw [hex_len, hfine.1]
        generalize Sh.hex fsm = hx at *
        go_wp2_with (at_builtin; refine wpList_append_own _ rfl (.tmp 31) (.tmp 42) 35 rfl w2.heap.size 9 i0 _ 1 16 Tryz.underlying35 hi0 hz0 hz1 hz2 rfl (by decide) _ k (linesV (l.take k)) rfl ((hown.alloc _).alloc _) ⟨wr.heap.size + 1, 0, none⟩ 1 1 [.string ⟨(fm ++ 32 :: (hx ++ 32 :: fp)).toArray⟩] rfl rfl ?c1 ?c2 ?c3 ?c4 ?c5 ?_)
        case c1 =>
          have h := cells_new (wr.alloc (.cells #[.string ⟨fp.toArray⟩, .string ⟨fm.toArray⟩, .string ⟨hx.toArray⟩] 114)) [.string ⟨(fm ++ 32 :: (hx ++ 32 :: fp)).toArray⟩] 9
          rw [World.size_alloc] at h
          exact h
        case c2 => simp [Value.oneCell']
        case c3 => unfold maxLen; omega
        case c4 => omega
        case c5 => have := hkx.size; simp; omega
        intro v4 w4 hown4 hgrow4 _
        have hk4 : Kx (fun _ => False) w2 w4 := ((hkx.alloc _).alloc _).grown hgrow4 (fun k he => (hown.lt k he).1)
        have hown5 : w4.ownsRow w2.heap.size 9 1 v4 (k + 1) (linesV (l.take (k + 1))) := by rw [HLL.out]; exact hown4
        clear hown4 hgrow4
        go_wp2
        go_roundw
        case rel => exact ⟨k + 1, by go_num, hlt, hk4, hown5⟩
        case measure => simp [intOf]; omega
      · obtain rfl : k = l.length := by omega
        have hlt2 : ¬ (l.length : Int) < (l.length : Int) := by omega
        rw [List.take_of_length_le (Nat.le_refl _)] at hown
        go_wp2
        go_ret2
        exact ⟨⟨_, rfl, hown⟩, hkx⟩

end Go.Proofs.YtepgoppgblfjbaaGreatDoor

/- maps.Keys, slices.Sorted, slices.Sort at this dump, laid (the shelf). -/
namespace Go.Proofs
open Go.Shelf
def Tryz.keys88_ren : Go.Shelf.Ren := ⟨fun | 7 => 88 | 10 => 133 | n => n, fun | 23 => 147 | 26 => 9 | 3 => 101 | 28 => 182 | 0 => 0 | 27 => 181 | 33 => 134 | 4 => 4 | n => n, fun | n => n⟩
theorem Tryz.keys88 : Go.Proofs.SlLaysZ.n7 Tryz.prog Tryz.keys88_ren := {
  mixed := by kernel_rfl
  f7 := ⟨Tryz.f88.name, by decide, Tryz.func88.trans (congrArg some (by kernel_rfl))⟩
  f10 := ⟨Tryz.f133.name, by decide, Tryz.func133.trans (congrArg some (by kernel_rfl))⟩
  t0 := Tryz.underlying0
  a0 := Tryz.isAgg0
  z0 := Tryz.sizeOf0
  v0 := Tryz.zeroValue0
  t4 := Tryz.underlying4
  a4 := Tryz.isAgg4
  z4 := Tryz.sizeOf4
  v4 := Tryz.zeroValue4
  t23 := Tryz.underlying147
  a23 := Tryz.isAgg147
  z23 := Tryz.sizeOf147
  v23 := Tryz.zeroValue147
  t26 := Tryz.underlying9
  a26 := Tryz.isAgg9
  z26 := Tryz.sizeOf9
  v26 := Tryz.zeroValue9
  t27 := Tryz.underlying181
  a27 := Tryz.isAgg181
  z27 := Tryz.sizeOf181
  v27 := Tryz.zeroValue181
  t28 := Tryz.underlying182
  a28 := Tryz.isAgg182
  z28 := Tryz.sizeOf182
  v28 := Tryz.zeroValue182
  t33 := Tryz.underlying134
  a33 := Tryz.isAgg134
  z33 := Tryz.sizeOf134
  v33 := Tryz.zeroValue134 }
def Tryz.keys89_ren : Go.Shelf.Ren := ⟨fun | 7 => 89 | 10 => 134 | n => n, fun | 23 => 148 | 26 => 9 | 3 => 185 | 28 => 182 | 0 => 0 | 27 => 181 | 33 => 134 | 4 => 4 | n => n, fun | n => n⟩
theorem Tryz.keys89 : Go.Proofs.SlLaysZ.n7 Tryz.prog Tryz.keys89_ren := {
  mixed := by kernel_rfl
  f7 := ⟨Tryz.f89.name, by decide, Tryz.func89.trans (congrArg some (by kernel_rfl))⟩
  f10 := ⟨Tryz.f134.name, by decide, Tryz.func134.trans (congrArg some (by kernel_rfl))⟩
  t0 := Tryz.underlying0
  a0 := Tryz.isAgg0
  z0 := Tryz.sizeOf0
  v0 := Tryz.zeroValue0
  t4 := Tryz.underlying4
  a4 := Tryz.isAgg4
  z4 := Tryz.sizeOf4
  v4 := Tryz.zeroValue4
  t23 := Tryz.underlying148
  a23 := Tryz.isAgg148
  z23 := Tryz.sizeOf148
  v23 := Tryz.zeroValue148
  t26 := Tryz.underlying9
  a26 := Tryz.isAgg9
  z26 := Tryz.sizeOf9
  v26 := Tryz.zeroValue9
  t27 := Tryz.underlying181
  a27 := Tryz.isAgg181
  z27 := Tryz.sizeOf181
  v27 := Tryz.zeroValue181
  t28 := Tryz.underlying182
  a28 := Tryz.isAgg182
  z28 := Tryz.sizeOf182
  v28 := Tryz.zeroValue182
  t33 := Tryz.underlying134
  a33 := Tryz.isAgg134
  z33 := Tryz.sizeOf134
  v33 := Tryz.zeroValue134 }
def Tryz.keys91_ren : Go.Shelf.Ren := ⟨fun | 7 => 91 | 10 => 135 | n => n, fun | 23 => 146 | 26 => 9 | 3 => 105 | 28 => 182 | 0 => 0 | 27 => 181 | 33 => 134 | 4 => 4 | n => n, fun | n => n⟩
theorem Tryz.keys91 : Go.Proofs.SlLaysZ.n7 Tryz.prog Tryz.keys91_ren := {
  mixed := by kernel_rfl
  f7 := ⟨Tryz.f91.name, by decide, Tryz.func91.trans (congrArg some (by kernel_rfl))⟩
  f10 := ⟨Tryz.f135.name, by decide, Tryz.func135.trans (congrArg some (by kernel_rfl))⟩
  t0 := Tryz.underlying0
  a0 := Tryz.isAgg0
  z0 := Tryz.sizeOf0
  v0 := Tryz.zeroValue0
  t4 := Tryz.underlying4
  a4 := Tryz.isAgg4
  z4 := Tryz.sizeOf4
  v4 := Tryz.zeroValue4
  t23 := Tryz.underlying146
  a23 := Tryz.isAgg146
  z23 := Tryz.sizeOf146
  v23 := Tryz.zeroValue146
  t26 := Tryz.underlying9
  a26 := Tryz.isAgg9
  z26 := Tryz.sizeOf9
  v26 := Tryz.zeroValue9
  t27 := Tryz.underlying181
  a27 := Tryz.isAgg181
  z27 := Tryz.sizeOf181
  v27 := Tryz.zeroValue181
  t28 := Tryz.underlying182
  a28 := Tryz.isAgg182
  z28 := Tryz.sizeOf182
  v28 := Tryz.zeroValue182
  t33 := Tryz.underlying134
  a33 := Tryz.isAgg134
  z33 := Tryz.sizeOf134
  v33 := Tryz.zeroValue134 }
def Tryz.sorted87_ren : Go.Shelf.Ren := ⟨fun | 6 => 87 | 8 => 131 | 9 => 132 | 11 => 182 | 13 => 184 | 12 => 183 | 23 => 257 | 24 => 258 | 14 => 248 | 15 => 249 | 16 => 250 | 17 => 251 | 18 => 252 | 19 => 253 | 20 => 254 | 21 => 255 | 22 => 256 | 25 => 309 | 26 => 310 | 27 => 311 | 28 => 312 | 29 => 313 | 30 => 314 | 31 => 352 | n => n, fun | 26 => 9 | 28 => 182 | 24 => 35 | 0 => 0 | 3 => 3 | 37 => 283 | 48 => 172 | 50 => 229 | 4 => 4 | 40 => 347 | 39 => 346 | 45 => 351 | 5 => 5 | 9 => 9 | 51 => 399 | 55 => 403 | 57 => 423 | 58 => 424 | 33 => 134 | n => n, fun | n => n⟩
theorem Tryz.sorted87 : Go.Proofs.SlLaysZ.n6 Tryz.prog Tryz.sorted87_ren := {
  mixed := by kernel_rfl
  f6 := ⟨Tryz.f87.name, by decide, Tryz.func87.trans (congrArg some (by kernel_rfl))⟩
  f8 := ⟨Tryz.f131.name, by decide, Tryz.func131.trans (congrArg some (by kernel_rfl))⟩
  f11 := ⟨Tryz.f182.name, by decide, Tryz.func182.trans (congrArg some (by kernel_rfl))⟩
  t0 := Tryz.underlying0
  a0 := Tryz.isAgg0
  z0 := Tryz.sizeOf0
  v0 := Tryz.zeroValue0
  t24 := Tryz.underlying35
  a24 := Tryz.isAgg35
  z24 := Tryz.sizeOf35
  v24 := Tryz.zeroValue35
  t26 := Tryz.underlying9
  a26 := Tryz.isAgg9
  z26 := Tryz.sizeOf9
  v26 := Tryz.zeroValue9
  t28 := Tryz.underlying182
  a28 := Tryz.isAgg182
  z28 := Tryz.sizeOf182
  v28 := Tryz.zeroValue182
  i26 := by kernel_rfl }
def Tryz.sort132_ren : Go.Shelf.Ren := ⟨fun | 6 => 132 | 8 => 184 | 9 => 183 | 19 => 257 | 20 => 258 | 21 => 248 | 22 => 249 | 23 => 250 | 24 => 251 | 25 => 252 | 26 => 253 | 27 => 254 | 28 => 255 | 29 => 256 | 36 => 309 | 31 => 310 | 32 => 311 | 37 => 312 | 38 => 313 | 39 => 314 | 41 => 352 | n => n, fun | 27 => 35 | 29 => 9 | 3 => 3 | 32 => 283 | 26 => 35 | 0 => 0 | 44 => 172 | 46 => 229 | 4 => 4 | 36 => 347 | 35 => 346 | 41 => 351 | 5 => 5 | 9 => 9 | 53 => 399 | 57 => 403 | 63 => 423 | 64 => 424 | n => n, fun | n => n⟩
theorem Tryz.sort132 : Go.Proofs.SlLaysM.n6 Tryz.prog Tryz.sort132_ren := {
  mixed := by kernel_rfl
  f6 := ⟨Tryz.f132.name, by decide, Tryz.func132.trans (congrArg some (by kernel_rfl))⟩
  f8 := Tryz.func184.trans (congrArg some (by kernel_rfl))
  f9 := ⟨Tryz.f183.name, by decide, Tryz.func183.trans (congrArg some (by kernel_rfl))⟩
  f19 := Tryz.func257.trans (congrArg some (by kernel_rfl))
  f20 := Tryz.func258.trans (congrArg some (by kernel_rfl))
  f21 := ⟨Tryz.f248.name, by decide, Tryz.func248.trans (congrArg some (by kernel_rfl))⟩
  f22 := ⟨Tryz.f249.name, by decide, Tryz.func249.trans (congrArg some (by kernel_rfl))⟩
  f23 := ⟨Tryz.f250.name, by decide, Tryz.func250.trans (congrArg some (by kernel_rfl))⟩
  f24 := ⟨Tryz.f251.name, by decide, Tryz.func251.trans (congrArg some (by kernel_rfl))⟩
  f25 := ⟨Tryz.f252.name, by decide, Tryz.func252.trans (congrArg some (by kernel_rfl))⟩
  f26 := ⟨Tryz.f253.name, by decide, Tryz.func253.trans (congrArg some (by kernel_rfl))⟩
  f27 := ⟨Tryz.f254.name, by decide, Tryz.func254.trans (congrArg some (by kernel_rfl))⟩
  f28 := ⟨Tryz.f255.name, by decide, Tryz.func255.trans (congrArg some (by kernel_rfl))⟩
  f29 := ⟨Tryz.f256.name, by decide, Tryz.func256.trans (congrArg some (by kernel_rfl))⟩
  f31 := Tryz.func310.trans (congrArg some (by kernel_rfl))
  f32 := Tryz.func311.trans (congrArg some (by kernel_rfl))
  f36 := ⟨Tryz.f309.name, by decide, Tryz.func309.trans (congrArg some (by kernel_rfl))⟩
  f37 := ⟨Tryz.f312.name, by decide, Tryz.func312.trans (congrArg some (by kernel_rfl))⟩
  f38 := ⟨Tryz.f313.name, by decide, Tryz.func313.trans (congrArg some (by kernel_rfl))⟩
  f39 := ⟨Tryz.f314.name, by decide, Tryz.func314.trans (congrArg some (by kernel_rfl))⟩
  f41 := ⟨Tryz.f352.name, by decide, Tryz.func352.trans (congrArg some (by kernel_rfl))⟩
  t0 := Tryz.underlying0
  a0 := Tryz.isAgg0
  z0 := Tryz.sizeOf0
  v0 := Tryz.zeroValue0
  t3 := Tryz.underlying3
  a3 := Tryz.isAgg3
  z3 := Tryz.sizeOf3
  v3 := Tryz.zeroValue3
  t4 := Tryz.underlying4
  a4 := Tryz.isAgg4
  z4 := Tryz.sizeOf4
  v4 := Tryz.zeroValue4
  t5 := Tryz.underlying5
  a5 := Tryz.isAgg5
  z5 := Tryz.sizeOf5
  v5 := Tryz.zeroValue5
  t9 := Tryz.underlying9
  a9 := Tryz.isAgg9
  z9 := Tryz.sizeOf9
  v9 := Tryz.zeroValue9
  t26 := Tryz.underlying35
  a26 := Tryz.isAgg35
  z26 := Tryz.sizeOf35
  v26 := Tryz.zeroValue35
  t27 := Tryz.underlying35
  a27 := Tryz.isAgg35
  z27 := Tryz.sizeOf35
  v27 := Tryz.zeroValue35
  t29 := Tryz.underlying9
  a29 := Tryz.isAgg9
  z29 := Tryz.sizeOf9
  v29 := Tryz.zeroValue9
  t32 := Tryz.underlying283
  a32 := Tryz.isAgg283
  z32 := Tryz.sizeOf283
  v32 := Tryz.zeroValue283
  t35 := Tryz.underlying346
  a35 := Tryz.isAgg346
  z35 := Tryz.sizeOf346
  v35 := Tryz.zeroValue346
  t36 := Tryz.underlying347
  a36 := Tryz.isAgg347
  z36 := Tryz.sizeOf347
  v36 := Tryz.zeroValue347
  t41 := Tryz.underlying351
  a41 := Tryz.isAgg351
  z41 := Tryz.sizeOf351
  v41 := Tryz.zeroValue351
  t44 := Tryz.underlying172
  a44 := Tryz.isAgg172
  z44 := Tryz.sizeOf172
  v44 := Tryz.zeroValue172
  t46 := Tryz.underlying229
  a46 := Tryz.isAgg229
  z46 := Tryz.sizeOf229
  v46 := Tryz.zeroValue229
  t53 := Tryz.underlying399
  a53 := Tryz.isAgg399
  z53 := Tryz.sizeOf399
  v53 := Tryz.zeroValue399
  t57 := Tryz.underlying403
  a57 := Tryz.isAgg403
  z57 := Tryz.sizeOf403
  v57 := Tryz.zeroValue403
  t63 := Tryz.underlying423
  a63 := Tryz.isAgg423
  z63 := Tryz.sizeOf423
  v63 := Tryz.zeroValue423
  t64 := Tryz.underlying424
  a64 := Tryz.isAgg424
  z64 := Tryz.sizeOf424
  v64 := Tryz.zeroValue424 }
end Go.Proofs

/- The keys of a map, in their order. -/
namespace Go.Proofs.YtepgoppgblfjbaaGreatDoor
open Go.RowKit Go.Maps Go.WideMaps

/-- The keys, in their order. -/
structure KeyL {β : Type} (f : List UInt8 → Option β) (ks : List (List UInt8)) : Prop where
  sorted : ks.Pairwise (fun a b => a < b)
  mem : ∀ k, k ∈ ks ↔ (f k).isSome = true

theorem strKeys_spec {P : Program} {K : TypeId} {w : World} {b n : Nat} {D : DataW Value} {f : List UInt8 → Option Value} (hown : w.ownsMap P K Rv b n D) (hK : P.underlying K = some .string) (ha : ∀ k zd, D.atKey (.string k) zd = heldOr (f k) zd) :
    (strKeys D).Nodup ∧ (∀ x, x ∈ strKeys D ↔ (f x).isSome = true) ∧ (strKeys D).length = Maps.size D := by
  obtain ⟨es, rfl, hp, _⟩ := hown.entries (string_keyed hK)
  obtain ⟨es', he, hko⟩ := hown.keysOf
  cases he
  have hk : ∀ p ∈ es, ∃ x, p.1 = .string x := fun p hp' => by
    obtain ⟨v, hv⟩ := hko p hp'
    obtain ⟨x, _, hx, _⟩ := Maps.keyOf_str hK hv
    exact ⟨x, hx⟩
  refine ⟨?_, fun x => ?_, ?_⟩
  · show (es.map fun p => strOf p.1).Nodup
    refine List.pairwise_map.2 (hp.imp_of_mem fun {p q} hp' hq' hne e => hne ?_)
    obtain ⟨a, ha⟩ := hk p hp'
    obtain ⟨b, hb⟩ := hk q hq'
    rw [ha, hb] at e ⊢
    exact congrArg _ e
  · rw [← has_of_heldOr (ha x), has_eq, List.any_eq_true]
    show x ∈ es.map (fun p => strOf p.1) ↔ _
    rw [List.mem_map]
    constructor
    · rintro ⟨p, hp', rfl⟩
      obtain ⟨a, ha⟩ := hk p hp'
      exact ⟨p, hp', by rw [ha]; simp [Lit.sameKey, strOf]⟩
    · rintro ⟨p, hp', hs⟩
      obtain ⟨a, ha⟩ := hk p hp'
      rw [ha] at hs
      exact ⟨p, hp', by rw [ha]; simpa [Lit.sameKey, strOf] using hs⟩
  · show (es.map _).length = _
    rw [List.length_map]
    rfl

theorem keyL_of {P : Program} {K : TypeId} {w : World} {b n : Nat} {D : DataW Value} {f : List UInt8 → Option Value} (hown : w.ownsMap P K Rv b n D) (hK : P.underlying K = some .string) (ha : ∀ k zd, D.atKey (.string k) zd = heldOr (f k) zd) {ss : List (List UInt8)} (hp : ss.Perm (strKeys D)) :
    KeyL f (ss.mergeSort leB) ∧ (ss.mergeSort leB).length = ss.length ∧ ss.length ≤ n := by
  obtain ⟨h1, h2, h3⟩ := strKeys_spec hown hK ha
  have hms := List.mergeSort_perm ss leB
  refine ⟨⟨?_, fun k => ?_⟩, hms.length_eq, ?_⟩
  · have tr : ∀ a b c : List UInt8, leB a b = true → leB b c = true → leB a c = true := fun a b c h1 h2 => by simp only [leB, decide_eq_true_eq] at *; exact List.le_trans h1 h2
    have tot : ∀ a b : List UInt8, (leB a b || leB b a) = true := fun a b => by simp only [leB, Bool.or_eq_true, decide_eq_true_eq]; exact List.le_total a b
    have hs := List.pairwise_mergeSort tr tot ss
    have hnd : (ss.mergeSort leB).Nodup := (hms.trans hp).nodup_iff.2 h1
    have hnd' : (ss.mergeSort leB).Pairwise (fun a b => a ≠ b) := hnd
    refine (hs.and hnd').imp ?_
    rintro a b ⟨h4, h5⟩
    simp only [leB, decide_eq_true_eq] at h4
    apply Classical.byContradiction
    intro h6
    rw [List.not_lt] at h6
    exact h5 (List.le_antisymm h4 h6)
  · rw [hms.mem_iff, hp.mem_iff]
    exact h2 k
  · rw [hp.length_eq, h3]
    exact hown.size_le

/-- A key's text is no longer than a text can be. -/
theorem MapS.keyLen {P : Program} {K : TypeId} {w : World} {b n : Nat} {f : List UInt8 → Option Value} {k : List UInt8} {v : Value} (h : MapS P K w b n f) (hK : P.underlying K = some .string) (hv : f k = some v) : k.length ≤ maxLen := by
  obtain ⟨D, hown, ha⟩ := h
  exact strKeys_le hown hK k (((strKeys_spec hown hK ha).2.1 k).2 (by rw [hv]; rfl))

/-- There is but one such list. -/
theorem KeyL.one {β γ : Type} {f : List UInt8 → Option β} {g : List UInt8 → Option γ} {l l' : List (List UInt8)} (h : KeyL f l) (h' : KeyL g l') (hfg : ∀ k, (f k).isSome = (g k).isSome) : l = l' := by
  have e : ∀ k, k ∈ l ↔ k ∈ l' := fun k => by rw [h.mem, h'.mem, hfg]
  have hn : l.Nodup := h.sorted.imp (fun h e => by subst e; exact List.lt_irrefl _ h)
  have hn' : l'.Nodup := h'.sorted.imp (fun h e => by subst e; exact List.lt_irrefl _ h)
  refine List.Perm.eq_of_pairwise (le := fun a b => a ≤ b) (fun a b _ _ h1 h2 => List.le_antisymm h1 h2) (h.sorted.imp (fun h => List.le_of_lt h)) (h'.sorted.imp (fun h => List.le_of_lt h)) ((List.perm_ext_iff_of_nodup hn hn').2 e)

end Go.Proofs.YtepgoppgblfjbaaGreatDoor
