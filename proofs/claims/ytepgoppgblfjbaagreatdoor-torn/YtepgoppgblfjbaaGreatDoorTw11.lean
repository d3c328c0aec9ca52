import Derived.Test.YtepgoppgblfjbaaGreatDoorTw10
import Derived.Lib.Builder
import Derived.Lib.AppendStr
import Derived.Lib.UnsafeStr
import Derived.Laws.Externs
import Derived.BigRegion
import Derived.Test.YtepgoppgblfjbaaGreatDoorTw01
import Derived.Deep.QuietTactic
import Derived.BigQuiet
import Derived.KernelRfl
/- The library's strings.Builder: what is written, and which blocks turn. -/
namespace Go.Proofs.YtepgoppgblfjbaaGreatDoor
open Go.RowKit

/-- The builder at block b has these bytes; its row is block g. -/
structure Bd (b : Nat) (l : List UInt8) (g : Option Nat) (w : World) : Prop where
  at' : ∃ p v, w.heap[b]? = some (.cells #[p, v] 246 (0, 0)) ∧ (p = .pointer none ∨ p = .pointer (some ⟨b, 0, none⟩)) ∧ OwnB w 0 5 v (A8 l) ∧ v.ownBlock = g ∧ (l = [] → v = .slice none 0 0)
  ne : g ≠ some b

/-- What a builder's writing turns: its own block, its row. -/
def BdX (b : Nat) (g : Option Nat) : Nat → Prop := fun k => k = b ∨ some k = g

theorem info355 : ∃ j, Tryz.prog.info? 246 = some j ∧ j.size = 2 := by
  have h : (Tryz.prog.info? 246).map (·.size) = some 2 := by kernel_rfl
  exact Option.map_eq_some_iff.1 h

set_option maxHeartbeats 400000 in
set_option maxRecDepth 100000 in
theorem copyCheck_used (b : Nat) (w : World) (h0 : w.cell? ⟨b, 0, none⟩ = some (.pointer (some ⟨b, 0, none⟩))) :
    Calls Tryz.prog 272 #[.pointer (some ⟨b, 0, none⟩)] w fun e w' => e = .returned (.tuple #[]) ∧ w' = w := by
  obtain ⟨j, hj, _⟩ := info355
  go_enter Tryz.func272, Tryz.ntmps272
  go_wp2
  rw [Lib.run_neq_ptr_same w _ Tryz.underlying244 hj]
  go_wp2
  go_end0
  exact ⟨rfl, rfl⟩

theorem lies355 : liesAt Tryz.prog Tryz.prog.depth 246 (2 / Tryz.prog.cellsOf 246) 0 246 1 = true := by kernel_rfl

set_option maxHeartbeats 400000 in
set_option maxRecDepth 100000 in
theorem copyCheck_fresh (b : Nat) (w : World) (h0 : w.cell? ⟨b, 0, none⟩ = some (.pointer none)) (hsh : w.shape? b = some (246, 2)) (hfz : w.frozen? ⟨b, 0, none⟩ = false) :
    Calls Tryz.prog 272 #[.pointer (some ⟨b, 0, none⟩)] w fun e w' => e = .returned (.tuple #[]) ∧ w' = w.setCell ⟨b, 0, none⟩ (.pointer (some ⟨b, 0, none⟩)) := by
  obtain ⟨j, hj, hjs⟩ := info355
  go_enter Tryz.func272, Tryz.ntmps272
  go_wp2
  rw [Lib.run_to_unsafe w ⟨b, 0, none⟩ Tryz.underlying244 Tryz.underlying408 hj (by rw [hjs]; decide) hsh (Nat.zero_lt_succ 1)]
  simp only [Result.andThen]
  rw [Oper.upon_value]
  go_wp2
  rw [run_callFunc_extern Tryz.func324 (by kernel_rfl) (by kernel_rfl) (by kernel_rfl) (e := Extern.AbiNoEscape.same) (by kernel_rfl)]
  rw [Lib.run_noEscape]
  simp only [Result.andThen]
  rw [Oper.upon_value]
  go_wp2
  rw [Lib.run_from_unsafe w ⟨b, 0, none⟩ Tryz.underlying408 Tryz.underlying244 hj hsh lies355]
  simp only [Result.andThen]
  rw [Oper.upon_value]
  go_wp2
  go_end0
  exact ⟨rfl, rfl⟩

/-- Behind copyCheck. -/
theorem copyCheck_any (b : Nat) (l : List UInt8) (g : Option Nat) (w : World) (h : Bd b l g w) :
    Calls Tryz.prog 272 #[.pointer (some ⟨b, 0, none⟩)] w fun e w' => e = .returned (.tuple #[]) ∧ Kx (Only b) w w' ∧ ∃ v, w'.heap[b]? = some (.cells #[.pointer (some ⟨b, 0, none⟩), v] 246 (0, 0)) ∧ OwnB w' 0 5 v (A8 l) ∧ v.ownBlock = g ∧ (l = [] → v = .slice none 0 0) := by
  obtain ⟨⟨p, v, hb, hp, hown, hg, hl⟩, hne⟩ := h
  have hcb : Cb b #[p, v] 246 w := hb
  have hc0 : w.cell? ⟨b, 0, none⟩ = some p := hcb.cell 0
  rcases hp with rfl | rfl
  · refine (copyCheck_fresh b w hc0 (by simp [World.shape?, hb]) (hcb.frozen 0)).mono ?_
    rintro e w' ⟨rfl, rfl⟩
    refine ⟨rfl, (Kx.refl _ _).only_set _, v, hcb.set 0 _, hown.kept ((Kx.refl (Only b) w).only_set _) (fun k _ hk => ?_), hg, hl⟩
    intro e
    unfold Only at e
    subst e
    exact hne (by rw [← hg]; exact hk)
  · refine (copyCheck_used b w hc0).mono ?_
    rintro e w' ⟨rfl, rfl⟩
    exact ⟨rfl, Kx.refl _ _, v, hb, hown, hg, hl⟩

/-- The builder behind a writing. -/
theorem Bd.put {b : Nat} {l s : List UInt8} {g : Option Nat} {v v' : Value} {w0 w w' : World} (hk0 : Kx (Only b) w0 w) (hb : w.heap[b]? = some (.cells #[.pointer (some ⟨b, 0, none⟩), v] 246 (0, 0))) (hg : v.ownBlock = g) (hne : g ≠ some b)
    (hown : OwnB w' 0 5 v' (A8 (l ++ s))) (hs : 0 < s.length) (hgr : w.grownBy w' v.ownBlock) (hor : v'.ownBlock = v.ownBlock ∨ v'.ownBlock = some w.heap.size) :
    ∃ g', Bd b (l ++ s) g' (w'.setCell ⟨b, 1, none⟩ v') ∧ (g' = g ∨ ∃ k, g' = some k ∧ w0.heap.size ≤ k) ∧ Kx (BdX b g) w0 (w'.setCell ⟨b, 1, none⟩ v') := by
  have hlt : b < w.heap.size := (Array.getElem?_eq_some_iff.1 hb).1
  have hb2 : Cb b #[.pointer (some ⟨b, 0, none⟩), v] 246 w' := by
    show w'.heap[b]? = _
    rw [hgr.block b hlt (fun e => hne (by rw [← hg, ← e]))]
    exact hb
  have hne' : v'.ownBlock ≠ some b := by
    rcases hor with h | h
    · rw [h, hg]; exact hne
    · rw [h]; intro e; have := Option.some.inj e; omega
  refine ⟨v'.ownBlock, ⟨⟨_, v', hb2.set 1 v', .inr rfl, hown.kept ((Kx.refl (Only b) w').only_set v') (fun k _ hk e => ?_), rfl, fun e => ?_⟩, hne'⟩, ?_, ?_⟩
  · unfold Only at e; subst e; exact hne' hk
  · have : (l ++ s).length = 0 := by rw [e]; rfl
    rw [List.length_append] at this; omega
  · rcases hor with h | h
    · exact .inl (h.trans hg)
    · exact .inr ⟨_, h, hk0.size⟩
  · have h1 : Kx (BdX b g) w0 w := hk0.mono (fun k _ e => .inl e)
    have h2 : Kx (BdX b g) w0 w' := h1.join (Y := fun k => some k = g) ⟨hgr.os, hgr.tape, hgr.output, hgr.size, fun k hk hx => hgr.block k hk (fun e => hx (by rw [e, hg]))⟩ (fun _ _ e => .inr e)
    exact h2.setCell (p := ⟨b, 1, none⟩) (fun _ => .inl rfl) _

set_option maxHeartbeats 800000 in
set_option maxRecDepth 100000 in
theorem writeString_any (b : Nat) (l s : List UInt8) (g : Option Nat) (w : World) (h : Bd b l g w) (hs : 0 < s.length) (hlen : l.length + s.length ≤ 1000000) :
    Calls Tryz.prog 192 #[.pointer (some ⟨b, 0, none⟩), .string ⟨s.toArray⟩] w fun e w' => e = .returned (.tuple #[.int .i64 s.length, .nilIface]) ∧
      ∃ g', Bd b (l ++ s) g' w' ∧ (g' = g ∨ ∃ k, g' = some k ∧ w.heap.size ≤ k) ∧ Kx (BdX b g) w w' := by
  obtain ⟨i0, hi, hz0, hz1, hz2⟩ := info_parts info5
  have hne := h.ne
  go_enter Tryz.func192, Tryz.ntmps192
  go_wp2_with fail
  refine (copyCheck_any b l g _ h).mono ?_
  rintro e w1 ⟨rfl, hk1, v, hb1, hown1, rfl, _⟩
  have hcb : Cb b #[.pointer (some ⟨b, 0, none⟩), v] 246 w1 := hb1
  have c1 : w1.cell? ⟨b, 1, none⟩ = some v := hcb.cell 1
  go_wp2_with (at_builtin; refine wpList_append_Bs _ rfl _ _ 58 9 rfl 0 5 i0 Tryz.underlying58 Tryz.underlying9 hi hz0 hz1 hz2 _ _ rfl hown1 s rfl hs ?c3 ?c4 ?c5 ?_)
  case c3 => rw [A8_len]; unfold maxLen; omega
  case c4 => rw [A8_len]; omega
  case c5 => omega
  intro v' w2 hown2 hgr hor
  have hown2' : OwnB w2 0 5 v' (A8 (l ++ s)) := by rw [A8_app]; exact hown2
  obtain ⟨g', hbd, hor', hkx⟩ := Bd.put hk1 hb1 rfl hne hown2' hs hgr hor
  have hlt : b < w1.heap.size := (Array.getElem?_eq_some_iff.1 hb1).1
  have hb2 : Cb b #[.pointer (some ⟨b, 0, none⟩), v] 246 w2 := by
    show w2.heap[b]? = _
    rw [hgr.block b hlt (fun e => hne e.symm)]
    exact hb1
  have d1 : w2.cell? ⟨b, 1, none⟩ = some v := hb2.cell 1
  have f1 : w2.frozen? ⟨b, 1, none⟩ = false := hb2.frozen 1
  obtain ⟨ao, cap, hv'⟩ := hown2'.slice
  subst hv'
  go_wp2
  go_ret2
  exact ⟨rfl, g', hbd, hor', hkx⟩

set_option maxHeartbeats 800000 in
set_option maxRecDepth 100000 in
theorem writeByte_any (b : Nat) (l : List UInt8) (c : UInt8) (g : Option Nat) (w : World) (h : Bd b l g w) (hlen : l.length ≤ 1000000) :
    Calls Tryz.prog 377 #[.pointer (some ⟨b, 0, none⟩), .int .u8 (c.toNat : Int)] w fun e w' => e = .returned .nilIface ∧
      ∃ g', Bd b (l ++ [c]) g' w' ∧ (g' = g ∨ ∃ k, g' = some k ∧ w.heap.size ≤ k) ∧ Kx (BdX b g) w w' := by
  obtain ⟨i0, hi, hz0, hz1, hz2⟩ := info_parts info5
  have hne := h.ne
  go_enter Tryz.func377, Tryz.ntmps377
  go_wp2_with fail
  refine (copyCheck_any b l g _ h).mono ?_
  rintro e w1 ⟨rfl, hk1, v, hb1, hown1, rfl, _⟩
  have hcb : Cb b #[.pointer (some ⟨b, 0, none⟩), v] 246 w1 := hb1
  have c1 : w1.cell? ⟨b, 1, none⟩ = some v := hcb.cell 1
  have hlt : b < w1.heap.size := (Array.getElem?_eq_some_iff.1 hb1).1
  go_wp2_with (at_builtin; refine wpList_append_B _ rfl (.tmp 11) (.tmp 13) 58 rfl 0 5 i0 _ 1 Tryz.underlying58 hi hz0 hz1 hz2 rfl _ _ rfl (hown1.alloc _) ⟨w1.heap.size, 0, none⟩ 1 1 [.int .u8 (c.toNat : Int)] rfl rfl (by omega) ?c1 ?c2 ?c3 ?c4 ?c5 ?_)
  case c1 => exact cells_new _ [_] _
  case c2 => simp [Value.oneCell']
  case c3 => rw [A8_len]; unfold maxLen; omega
  case c4 => rw [A8_len]; omega
  case c5 => omega
  intro v' w2 hown2 hgr hor
  have hown2' : OwnB w2 0 5 v' (A8 (l ++ [c])) := by rw [A8_app]; exact hown2
  obtain ⟨g', hbd, hor', hkx⟩ := Bd.put (s := [c]) (hk1.alloc (.cells #[.int .u8 (c.toNat : Int)] 5)) (hcb.alloc _) rfl hne hown2' (by simp) hgr (by rw [World.size_alloc]; exact hor)
  have hb2 : Cb b #[.pointer (some ⟨b, 0, none⟩), v] 246 w2 := by
    show w2.heap[b]? = _
    rw [hgr.block b (by simp; omega) (fun e => hne e.symm)]
    exact hcb.alloc _
  have d1 : w2.cell? ⟨b, 1, none⟩ = some v := hb2.cell 1
  have f1 : w2.frozen? ⟨b, 1, none⟩ = false := hb2.frozen 1
  obtain ⟨ao, cap, hv'⟩ := hown2'.slice
  subst hv'
  go_wp2
  go_ret
  exact ⟨rfl, g', hbd, hor', hkx⟩

set_option maxHeartbeats 800000 in
set_option maxRecDepth 100000 in
/-- Write of bytes that lie in a row of another block. -/
theorem write_any (b : Nat) (l s : List UInt8) (g : Option Nat) (w : World) (h : Bd b l g w) (hs : 0 < s.length) (hlen : l.length + s.length ≤ 1000000) (r cap : Nat) (hr : b ≠ r)
    (hc : ∀ k x, (A8 s)[k]? = some x → w.cell? ⟨r, k, none⟩ = some x) :
    Calls Tryz.prog 347 #[.pointer (some ⟨b, 0, none⟩), .slice (some ⟨r, 0, none⟩) s.length cap] w fun e w' => e = .returned (.tuple #[.int .i64 s.length, .nilIface]) ∧
      ∃ g', Bd b (l ++ s) g' w' ∧ (g' = g ∨ ∃ k, g' = some k ∧ w.heap.size ≤ k) ∧ Kx (BdX b g) w w' := by
  obtain ⟨i0, hi, hz0, hz1, hz2⟩ := info_parts info5
  have hne := h.ne
  have hrl : r < w.heap.size := lt_of_cell (hc 0 (.int .u8 ((s.head (by intro e; simp [e] at hs)).toNat : Int)) (by cases s with
    | nil => simp at hs
    | cons x t => rfl))
  go_enter Tryz.func347, Tryz.ntmps347
  go_wp2_with fail
  refine (copyCheck_any b l g _ h).mono ?_
  rintro e w1 ⟨rfl, hk1, v, hb1, hown1, rfl, _⟩
  have hcb : Cb b #[.pointer (some ⟨b, 0, none⟩), v] 246 w1 := hb1
  have c1 : w1.cell? ⟨b, 1, none⟩ = some v := hcb.cell 1
  have hc1 : ∀ j u, (A8 s)[j]? = some u → w1.cell? ((⟨r, 0, none⟩ : Addr).add j) = some u := by
    intro j u hu
    have e : (⟨r, 0, none⟩ : Addr).add j = ⟨r, j, none⟩ := by unfold Addr.add; split <;> simp_all
    rw [e, hk1.cell (p := ⟨r, j, none⟩) hrl (fun e => hr e.symm)]
    exact hc j u hu
  go_wp2_with (at_builtin; refine wpList_append_B _ rfl (.tmp 12) (.tmp 13) 58 rfl 0 5 i0 _ 1 Tryz.underlying58 hi hz0 hz1 hz2 rfl _ _ rfl hown1 ⟨r, 0, none⟩ s.length cap (A8 s) rfl (A8_len s) hs hc1 (A8_one s) ?c3 ?c4 ?c5 ?_)
  case c3 => rw [A8_len]; unfold maxLen; omega
  case c4 => rw [A8_len]; omega
  case c5 => omega
  intro v' w2 hown2 hgr hor
  have hown2' : OwnB w2 0 5 v' (A8 (l ++ s)) := by rw [A8_app]; exact hown2
  obtain ⟨g', hbd, hor', hkx⟩ := Bd.put hk1 hb1 rfl hne hown2' hs hgr hor
  have hlt : b < w1.heap.size := (Array.getElem?_eq_some_iff.1 hb1).1
  have hb2 : Cb b #[.pointer (some ⟨b, 0, none⟩), v] 246 w2 := by
    show w2.heap[b]? = _
    rw [hgr.block b hlt (fun e => hne e.symm)]
    exact hb1
  have d1 : w2.cell? ⟨b, 1, none⟩ = some v := hb2.cell 1
  have f1 : w2.frozen? ⟨b, 1, none⟩ = false := hb2.frozen 1
  obtain ⟨ao, cap', hv'⟩ := hown2'.slice
  subst hv'
  go_wp2
  go_ret2
  exact ⟨rfl, g', hbd, hor', hkx⟩

theorem Kx.freeze {X : Nat → Prop} {a w : World} (h : Kx X a w) {p : Addr} (hp : X p.block) (n : Nat) : Kx X a (w.freeze p n) := by
  refine ⟨?_, ?_, ?_, ?_, fun k hk hx => ?_⟩
  · rw [← h.os]; unfold World.freeze; split <;> rfl
  · rw [← h.tape]; unfold World.freeze; split <;> rfl
  · rw [← h.output]; unfold World.freeze; split <;> rfl
  · have : (w.freeze p n).heap.size = w.heap.size := by unfold World.freeze; split <;> simp
    rw [this]; exact h.size
  · have : (w.freeze p n).heap[k]? = w.heap[k]? := by
      have hne : p.block ≠ k := fun e => hx (e ▸ hp)
      unfold World.freeze
      split
      · rfl
      · simp [Array.getElem?_modify, hne]
    rw [this]; exact h.block k hk hx

set_option maxHeartbeats 800000 in
set_option maxRecDepth 100000 in
theorem string_any (b : Nat) (l : List UInt8) (g : Option Nat) (w : World) (h : Bd b l g w) :
    Calls Tryz.prog 146 #[.pointer (some ⟨b, 0, none⟩)] w fun e w' => e = .returned (.string ⟨l.toArray⟩) ∧ Kx (BdX b g) w w' := by
  obtain ⟨⟨p, v, hb, hp, hown, hg, hl⟩, hne⟩ := h
  have hcb : Cb b #[p, v] 246 w.drew := hb
  have c1 : w.drew.cell? ⟨b, 1, none⟩ = some v := hcb.cell 1
  rcases hown with ⟨rfl, hnil⟩ | ⟨r, cap, cur, fz, rfl, hbg, hgr, hfz, hnc, hcm, hcs, htake⟩
  · have hl0 : l = [] := by
      cases l with
      | nil => rfl
      | cons x t => simp [A8] at hnil
    subst hl0
    have hSD : (Builtin.unsafeSliceData_ #[58] 277 #[.slice none 0 0]).run Tryz.prog w.drew = .ok (.pointer none) w.drew := Lib.run_unsafeSliceData_nil _ _ _ _ _
    have hUS : (Builtin.unsafeString_ #[277, 3] 9 #[.pointer none, .int .i64 0]).run Tryz.prog w.drew = .ok (.string .empty) w.drew := Lib.run_unsafeString_none _ _ _ _ _
    go_enter Tryz.func146, Tryz.ntmps146
    go_wp2
    go_region
    go_wp2
    go_ret
    exact ⟨rfl, (Kx.refl _ _).drew⟩
  · have hl0 : l ≠ [] := fun e => by
      have := hl e
      cases this
    have hlen : (A8 l).length = l.length := A8_len l
    rw [hlen] at hnc htake c1
    have hpos : 0 < l.length := List.length_pos_iff.2 hl0
    have hSD : (Builtin.unsafeSliceData_ #[58] 277 #[.slice (some ⟨r, 0, none⟩) l.length cap]).run Tryz.prog w.drew = .ok (.pointer (some ⟨r, 0, none⟩)) w.drew :=
      Lib.run_unsafeSliceData_row _ _ _ _ _ _ (by omega)
    have hUS : (Builtin.unsafeString_ #[277, 3] 9 #[.pointer (some ⟨r, 0, none⟩), .int .i64 l.length]).run Tryz.prog w.drew = .ok (.string ⟨l.toArray⟩) (w.drew.freeze ⟨r, 0, none⟩ l.length) := by
      refine Lib.run_unsafeString_row w.drew 277 3 9 5 Tryz.underlying277 (by kernel_rfl) r cur.size (by have hg' : w.drew.heap[r]? = some (.cells cur 5 fz) := hgr; simp [World.shape?, hg']) l hl0 (by omega) (by unfold maxLen at hcm; omega) ?_
      intro j x hx
      have hj : j < l.length := (List.getElem?_eq_some_iff.1 hx).1
      have hadd : (⟨r, 0, none⟩ : Addr).add j = ⟨r, j, none⟩ := by unfold Addr.add; split <;> simp_all
      have h2 : (A8 l)[j]? = some (.int .u8 (x.toNat : Int)) := by simp [A8, hx]
      rw [← htake, List.getElem?_take_of_lt hj] at h2
      rw [hadd]
      have hg' : w.drew.heap[r]? = some (.cells cur 5 fz) := hgr
      unfold World.cell?
      rw [hg']
      simpa using h2
    have hgX : BdX b g r := .inr (by rw [← hg]; rfl)
    clear hfz hnc hcm hcs htake hl hlen
    go_enter Tryz.func146, Tryz.ntmps146
    go_wp2
    go_region
    all_goals (go_wp2; go_ret; exact ⟨rfl, (Kx.refl _ _).drew.freeze (p := ⟨r, 0, none⟩) hgX _⟩)

end Go.Proofs.YtepgoppgblfjbaaGreatDoor

/- Package object: an id out of a sum's bytes. -/
namespace Go.Proofs.YtepgoppgblfjbaaGreatDoor
open Go.RowKit

namespace Sh
def hexL : List UInt8 := [48, 49, 50, 51, 52, 53, 54, 55, 56, 57, 97, 98, 99, 100, 101, 102]

/-- The two digits of a byte. -/
def hex1 (b : UInt8) : List UInt8 := [hexL.getD (b.toNat / 16) 0, hexL.getD (b.toNat % 16) 0]

def hex (l : List UInt8) : List UInt8 := l.flatMap hex1
end Sh

theorem hexBA (n : Nat) (hn : n < 16) : ((⟨#[48, 49, 50, 51, 52, 53, 54, 55, 56, 57, 97, 98, 99, 100, 101, 102]⟩ : ByteArray)[n]'hn) = Sh.hexL.getD n 0 := by
  have h : ∀ n : Fin 16, ((⟨#[48, 49, 50, 51, 52, 53, 54, 55, 56, 57, 97, 98, 99, 100, 101, 102]⟩ : ByteArray)[n.val]'n.isLt) = Sh.hexL.getD n.val 0 := by decide +kernel
  exact h ⟨n, hn⟩

theorem index32 (d : List UInt8) (hd : d.length = 32) (k : Nat) (hk : k < 32) (w : World) :
    Sem.run Tryz.prog (Instr.index 231 (.agg (A8 d).toArray) (.int .i64 (k : Int))) w = .ok (.int .u8 ((d.getD k 0).toNat : Int)) w := by
  have h5 : (Tryz.prog.info? 5).map (·.size) = some 1 := by kernel_rfl
  obtain ⟨i5, hi5, hs5⟩ := Option.map_eq_some_iff.1 h5
  have hkk : (A8 d)[k]? = some (.int .u8 ((d.getD k 0).toNat : Int)) := by
    simp [A8, List.getD, List.getElem?_eq_getElem (show k < d.length by omega)]
  simp [Instr.index, asIntOf, run_underlying Tryz.underlying231, sizeOf, typeInfo, hi5, hs5, part, isAgg, run_underlying Tryz.underlying5, hkk]
  omega

theorem hex_succ (d : List UInt8) (k : Nat) (hk : k < d.length) : Sh.hex (d.take (k + 1)) = Sh.hex (d.take k) ++ [Sh.hexL.getD ((d.getD k 0).toNat / 16) 0] ++ [Sh.hexL.getD ((d.getD k 0).toNat % 16) 0] := by
  unfold Sh.hex
  rw [List.take_succ_eq_append_getElem hk, List.flatMap_append]
  simp [Sh.hex1, List.getD, List.getElem?_eq_getElem hk]

theorem hex_len (d : List UInt8) : (Sh.hex d).length = 2 * d.length := by
  induction d with
  | nil => rfl
  | cons a r ih => simp [Sh.hex, Sh.hex1] at *; omega

/-- A new builder. -/
theorem Bd.new (w : World) : Bd w.heap.size [] none (w.alloc (.cells #[.pointer none, .slice none 0 0] 246)) :=
  ⟨⟨_, _, heap_alloc_new w _, .inl rfl, .inl ⟨rfl, rfl⟩, rfl, fun _ => rfl⟩, by simp⟩

theorem Bd.kept {b : Nat} {l : List UInt8} {g : Option Nat} {X : Nat → Prop} {w w' : World} (h : Bd b l g w) (hk : Kx X w w') (hb : ¬ X b) (hg : ∀ k, g = some k → ¬ X k) : Bd b l g w' := by
  obtain ⟨⟨p, v, h1, h2, h3, h4, h5⟩, h6⟩ := h
  exact ⟨⟨p, v, (hk.block b (Array.getElem?_eq_some_iff.1 h1).1 hb).trans h1, h2, h3.kept hk (fun k _ he => hg k (h4 ▸ he)), h4, h5⟩, h6⟩

theorem Bd.lt {b : Nat} {l : List UInt8} {g : Option Nat} {w : World} (h : Bd b l g w) : b < w.heap.size := by
  obtain ⟨⟨p, v, h1, _⟩, _⟩ := h
  exact (Array.getElem?_eq_some_iff.1 h1).1

theorem bd_new {w : World} {B : Nat} {g : Option Nat} (hB : w.heap.size + 1 = B) (hg : ∀ r, g = some r → B < r) : ∀ j, j < w.heap.size → BdX B g j → False := by
  intro j hj e
  rcases e with e | e
  · omega
  · have := hg j e.symm; omega

theorem bd_step {w w1 w2 : World} {B : Nat} {g g' : Option Nat} (hB : w.heap.size + 1 = B) (hl : B < w1.heap.size) (hg : ∀ r, g = some r → B < r) (hg' : g' = g ∨ ∃ k, g' = some k ∧ w1.heap.size ≤ k) (hk : Kx (fun _ => False) w w1) (hk2 : Kx (BdX B g) w1 w2) :
    (∀ r, g' = some r → B < r) ∧ Kx (fun _ => False) w w2 := by
  refine ⟨fun r hr => ?_, hk.join hk2 (bd_new hB hg)⟩
  rcases hg' with h | ⟨k, h, hkk⟩
  · exact hg r (h ▸ hr)
  · rw [h] at hr; have := Option.some.inj hr; omega

set_option maxHeartbeats 800000 in
set_option maxRecDepth 100000 in
theorem idOf_any (d : List UInt8) (hd : d.length = 32) (w : World) :
    Calls Tryz.prog 349 #[.agg (A8 d).toArray] w fun e w' => e = .returned (.string ⟨(Sh.hex d).toArray⟩) ∧ Kx (fun _ => False) w w' := by
  have hsz : (A8 d).toArray.size = 32 := by simp [A8_len, hd]
  have hi : (Tryz.prog.info? 231).map (·.size) = some (A8 d).toArray.size := by rw [hsz]; kernel_rfl
  have hix : ∀ (k : Nat) (w : World), k < 32 → Sem.run Tryz.prog (Instr.index 231 (.agg (A8 d).toArray) (.int .i64 (k : Int))) w = .ok (.int .u8 ((d.getD k 0).toNat : Int)) w := fun k w hk => index32 d hd k hk w
  have HIX : Hid (∀ (k : Nat) (w : World), k < 32 → Sem.run Tryz.prog (Instr.index 231 (.agg (A8 d).toArray) (.int .i64 (k : Int))) w = .ok (.int .u8 ((d.getD k 0).toNat : Int)) w) := hix
  clear hix
  have hB0 : Cb w.heap.size (A8 d).toArray 231 ((w.alloc (.cells (A8 d).toArray 231)).alloc (.cells #[.pointer none, .slice none 0 0] 246)) := (Cb.new _ 231 w).alloc _
  have hbd : Bd (w.heap.size + 1) [] none ((w.alloc (.cells (A8 d).toArray 231)).alloc (.cells #[.pointer none, .slice none 0 0] 246)) := by
    have h := Bd.new (w.alloc (.cells (A8 d).toArray 231))
    rw [World.size_alloc] at h
    exact h
  have hkx : Kx (fun _ => False) w ((w.alloc (.cells (A8 d).toArray 231)).alloc (.cells #[.pointer none, .slice none 0 0] 246)) := ((Kx.refl _ _).alloc _).alloc _
  obtain ⟨arr, harr⟩ : ∃ arr, (A8 d).toArray = arr := ⟨_, rfl⟩
  rw [harr] at hB0 hbd hkx hi HIX ⊢
  clear harr
  go_enter Tryz.func349, Tryz.ntmps349
  go_wp2_with (refine wpList_loadAll _ rfl 231 _ rfl rfl hB0 Tryz.underlying231 rfl hi ?_)
  revert hB0 hbd hkx
  generalize (w.alloc (.cells arr 231)).alloc (.cells #[.pointer none, .slice none 0 0] 246) = w1
  intro hkx hbd hB0
  obtain ⟨B, hB⟩ : ∃ B, w.heap.size + 1 = B := ⟨_, rfl⟩
  have HB : Hid (w.heap.size + 1 = B) := hB
  rw [hB] at hbd ⊢
  clear hB hB0
  go_loopw [7] (fun iv w' => ∃ (k : Nat) (g : Option Nat), iv = .int .i64 k ∧ k ≤ 32 ∧ Bd B (Sh.hex (d.take k)) g w' ∧ Kx (fun _ => False) w w' ∧ (∀ r, g = some r → B < r)) (fun iv _ => 32 - (intOf iv).toNat)
  case atStart => exact ⟨0, none, rfl, by omega, hbd, hkx, by simp⟩
  case round =>
    obtain ⟨k, g, rfl, hk32, hb, hkw, hgr⟩ := hrel
    by_cases hlt : k < 32
    · have hlt2 : (k : Int) < 32 := by omega
      have hS := hex_succ d k (by omega)
      have HS : Hid (Sh.hex (d.take (k + 1)) = Sh.hex (d.take k) ++ [Sh.hexL.getD ((d.getD k 0).toNat / 16) 0] ++ [Sh.hexL.getD ((d.getD k 0).toNat % 16) 0]) := hS
      clear hS
      have hixk := HIX.out k wr hlt
      have hlen : (Sh.hex (d.take k)).length ≤ 64 := by rw [hex_len, List.length_take]; omega
      have hc1 : ((d.getD k 0).toNat) < 256 := (d.getD k 0).toNat_lt
      generalize d.getD k 0 = c at *
      have hq1 : c.toNat / 16 < 16 := by omega
      have hq2 : c.toNat % 16 < 16 := by omega
      have HX1 := hexBA (c.toNat / 16) hq1
      have HX2 := hexBA (c.toNat % 16) hq2
      have HY1 : Hid (((⟨#[48, 49, 50, 51, 52, 53, 54, 55, 56, 57, 97, 98, 99, 100, 101, 102]⟩ : ByteArray)[c.toNat / 16]'hq1) = Sh.hexL.getD (c.toNat / 16) 0) := HX1
      have HY2 : Hid (((⟨#[48, 49, 50, 51, 52, 53, 54, 55, 56, 57, 97, 98, 99, 100, 101, 102]⟩ : ByteArray)[c.toNat % 16]'hq2) = Sh.hexL.getD (c.toNat % 16) 0) := HX2
      clear HX1 HX2
      generalize Sh.hexL.getD (c.toNat / 16) 0 = x1 at *
      generalize Sh.hexL.getD (c.toNat % 16) 0 = x2 at *
      go_wp2_with fail
      rw [HY1.out]
      refine (writeByte_any B _ x1 g _ hb (by omega)).mono ?_
      rintro _ w2 ⟨rfl, g2, hb2, hg2, hk2⟩
      have hBl := hb.lt
      obtain ⟨hgr2, hkw2⟩ := bd_step HB.out hBl hgr hg2 hkw hk2
      go_wp2_with fail
      rw [HY2.out]
      refine (writeByte_any B _ x2 g2 _ hb2 (by simp; omega)).mono ?_
      rintro _ w3 ⟨rfl, g3, hb3, hg3, hk3⟩
      obtain ⟨hgr3, hkw3⟩ := bd_step HB.out hb2.lt hgr2 hg3 hkw2 hk3
      go_wp2
      go_roundw
      case rel => exact ⟨k + 1, g3, by go_num, by omega, by rw [HS.out]; exact hb3, hkw3, hgr3⟩
      case measure => simp [intOf]; omega
    · obtain rfl : k = 32 := by omega
      have hlt2 : ¬ ((32 : Nat) : Int) < 32 := by omega
      have ht : d.take 32 = d := List.take_of_length_le (by omega)
      rw [ht] at hb
      go_wp2_with fail
      refine (string_any B _ g _ hb).mono ?_
      rintro _ w2 ⟨rfl, hk2⟩
      have hkw2 := hkw.join hk2 (bd_new HB.out hgr)
      go_wp2
      go_ret
      exact ⟨rfl, hkw2⟩

end Go.Proofs.YtepgoppgblfjbaaGreatDoor

/- Package sum: turned (a word's bits moved round). -/
namespace Go.Proofs.YtepgoppgblfjbaaGreatDoor
open Go.RowKit

/-- A word's bits moved to the right by n; those that fall off come in at the left. -/
def Sh.rotr (x : Int) (n : Nat) : Int := bits .or .u32 (x * 2 ^ (32 - n) % 4294967296) (x / 2 ^ n)

set_option maxHeartbeats 400000 in
theorem rotate_any (x : Int) (k : Int) (n : Nat) (hn : 0 < n ∧ n < 32) (hk : bits .and .u64 (IntKind.u64.wrap k) 31 = ((32 - n : Nat) : Int)) (w : World) :
    Calls Tryz.prog 304 #[.int .u32 x, .int .i64 k] w fun e w' => e = .returned (.int .u32 (Sh.rotr x n)) ∧ w' = w := by
  have h0 : (0 : Int) ≤ ((32 - n : Nat) : Int) := by omega
  have h1 : IntKind.u64.wrap (32 - ((32 - n : Nat) : Int)) = (n : Int) := by rw [IntKind.wrap_u64]; omega
  have HR : Hid (Sh.rotr x n = bits .or .u32 (x * 2 ^ (32 - n) % 4294967296) (x / 2 ^ n)) := rfl
  have m1 : min (32 - n) 32 = 32 - n := by omega
  have m2 : min n 32 = n := by omega
  go_enter Tryz.func304, Tryz.ntmps304
  go_wp2
  go_ret
  refine ⟨?_, rfl⟩
  rw [HR.out]
  rfl

set_option maxHeartbeats 400000 in
theorem turned_any (x : Int) (n : Nat) (i : Int) (hi : (n : Int) = i) (hn : 0 < n ∧ n < 32) (w : World) :
    Calls Tryz.prog 243 #[.int .u32 x, .int .i64 i] w fun e w' => e = .returned (.int .u32 (Sh.rotr x n)) ∧ w' = w := by
  subst hi
  have hk : bits .and .u64 (IntKind.u64.wrap (-(n : Int))) 31 = ((32 - n : Nat) : Int) := by
    have h : ∀ k : Fin 32, 0 < k.val → bits .and .u64 (IntKind.u64.wrap (-(k.val : Int))) 31 = ((32 - k.val : Nat) : Int) := by decide +kernel
    exact h ⟨n, hn.2⟩ hn.1
  have hw : IntKind.i64.wrap (-(n : Int)) = -(n : Int) := by rw [IntKind.wrap_i64]; omega
  go_enter Tryz.func243, Tryz.ntmps243
  go_wp2_with (go_at_call 304; refine (rotate_any x (-(n : Int)) n hn hk _).mono ?_; rintro e w' ⟨rfl, rfl⟩)
  go_ret
  exact ⟨rfl, rfl⟩

end Go.Proofs.YtepgoppgblfjbaaGreatDoor

/- Package sum: mixed. -/
namespace Go.Proofs.YtepgoppgblfjbaaGreatDoor
open Go.RowKit

namespace Sh
structure St where
  (a b c d e f g h : Int)

def round (k w : Int) (s : St) : St :=
  let s1 := bits .xor .u32 (bits .xor .u32 (rotr s.e 6) (rotr s.e 11)) (rotr s.e 25)
  let ch := bits .xor .u32 (bits .and .u32 s.e s.f) (bits .and .u32 (bits .xor .u32 4294967295 s.e) s.g)
  let t1 := (s.h + s1 + ch + k + w) % 4294967296
  let s0 := bits .xor .u32 (bits .xor .u32 (rotr s.a 2) (rotr s.a 13)) (rotr s.a 22)
  let mj := bits .xor .u32 (bits .xor .u32 (bits .and .u32 s.a s.b) (bits .and .u32 s.a s.c)) (bits .and .u32 s.b s.c)
  let t2 := (s0 + mj) % 4294967296
  ⟨(t1 + t2) % 4294967296, s.a, s.b, s.c, (s.d + t1) % 4294967296, s.e, s.f, s.g⟩

def rounds (ad sc : List Int) (s : St) : Nat → St
  | 0 => s
  | k + 1 => round (ad.getD k 0) (sc.getD k 0) (rounds ad sc s k)

/-- The first k words have been added. -/
def part (s v : List Int) (k : Nat) : List Int := (List.zipWith (fun x y => (x + y) % 4294967296) s v).take k ++ s.drop k

/-- The state behind a block. -/
def mixed (s ad sc : List Int) : List Int :=
  match s with
  | [a, b, c, d, e, f, g, h] => let v := rounds ad sc ⟨a, b, c, d, e, f, g, h⟩ 64; part s [v.a, v.b, v.c, v.d, v.e, v.f, v.g, v.h] 8
  | _ => []
end Sh

theorem part_len (s v : List Int) (k : Nat) (hv : v.length = s.length) : (Sh.part s v k).length = s.length := by
  simp [Sh.part]; omega

theorem part_get (s v : List Int) (k : Nat) (hv : v.length = s.length) (hk : k < s.length) : (A32 (Sh.part s v k))[k]? = some (.int .u32 (s.getD k 0)) := by
  rw [A32_get _ _ (by rw [part_len _ _ _ hv]; exact hk)]
  simp only [Sh.part, List.getD_eq_getElem?_getD]
  rw [List.getElem?_append_right (by simp; omega), List.getElem?_drop]
  have : k + (k - (List.take k (List.zipWith (fun x y => (x + y) % 4294967296) s v)).length) = k := by simp; omega
  rw [this]

theorem part_succ (s v : List Int) (k : Nat) (hv : v.length = s.length) (hk : k < s.length) : (A32 (Sh.part s v k)).setIfInBounds k (.int .u32 ((s.getD k 0 + v.getD k 0) % 4294967296)) = A32 (Sh.part s v (k + 1)) := by
  apply Array.ext_getElem?
  intro j
  rw [Array.getElem?_setIfInBounds]
  by_cases hj : j < s.length
  · rw [A32_get _ _ (by rw [part_len _ _ _ hv]; exact hj)]
    by_cases e : k = j
    · subst e
      rw [if_pos rfl, if_pos (by simp [A32, part_len _ _ _ hv]; exact hj), A32_get _ _ (by rw [part_len _ _ _ hv]; exact hj)]
      simp only [Sh.part, List.getD_eq_getElem?_getD]
      rw [List.getElem?_append_left (by simp; omega), List.getElem?_take_of_lt (by omega), List.getElem?_zipWith, List.getElem?_eq_getElem hk, List.getElem?_eq_getElem (by omega)]
      rfl
    · rw [if_neg e, A32_get _ _ (by rw [part_len _ _ _ hv]; exact hj)]
      simp only [Sh.part, List.getD_eq_getElem?_getD]
      by_cases hjk : j < k
      · rw [List.getElem?_append_left (by simp; omega), List.getElem?_append_left (by simp; omega), List.getElem?_take_of_lt hjk, List.getElem?_take_of_lt (by omega)]
      · rw [List.getElem?_append_right (by simp; omega), List.getElem?_append_right (by simp; omega), List.getElem?_drop, List.getElem?_drop]
        have e1 : k + (j - (List.take k (List.zipWith (fun x y => (x + y) % 4294967296) s v)).length) = j := by simp; omega
        have e2 : k + 1 + (j - (List.take (k + 1) (List.zipWith (fun x y => (x + y) % 4294967296) s v)).length) = j := by simp; omega
        rw [e1, e2]
  · have n1 : (A32 (Sh.part s v k)).size ≤ j := by simp [A32, part_len _ _ _ hv]; omega
    have n2 : (A32 (Sh.part s v (k + 1))).size ≤ j := by simp [A32, part_len _ _ _ hv]; omega
    rw [if_neg (by omega), Array.getElem?_eq_none n1, Array.getElem?_eq_none n2]

theorem index8 (a b c d e f g h : Int) (k : Nat) (hk : k < 8) (w : World) :
    Sem.run Tryz.prog (Instr.index 173 (.agg #[.int .u32 a, .int .u32 b, .int .u32 c, .int .u32 d, .int .u32 e, .int .u32 f, .int .u32 g, .int .u32 h]) (.int .i64 (k : Int))) w = .ok (.int .u32 ([a, b, c, d, e, f, g, h].getD k 0)) w := by
  obtain rfl | rfl | rfl | rfl | rfl | rfl | rfl | rfl : k = 0 ∨ k = 1 ∨ k = 2 ∨ k = 3 ∨ k = 4 ∨ k = 5 ∨ k = 6 ∨ k = 7 := by omega
  all_goals kernel_rfl

/-- Four new blocks. -/
theorem new4 (w : World) (a b c d : Array Value) (t u v x : TypeId) : ∃ w1, (((w.alloc (.cells a t)).alloc (.cells b u)).alloc (.cells c v)).alloc (.cells d x) = w1 ∧ Kx (fun _ => False) w w1 ∧
    Cb w.heap.size a t w1 ∧ Cb (w.heap.size + 1) b u w1 ∧ Cb (w.heap.size + 1 + 1) c v w1 ∧ Cb (w.heap.size + 1 + 1 + 1) d x w1 := by
  refine ⟨_, rfl, ((((Kx.refl _ _).alloc _).alloc _).alloc _).alloc _, (((Cb.new a t w).alloc _).alloc _).alloc _, ?_, ?_, ?_⟩
  · have h := ((Cb.new b u (w.alloc (.cells a t))).alloc (.cells c v)).alloc (.cells d x)
    simpa using h
  · have h := (Cb.new c v ((w.alloc (.cells a t)).alloc (.cells b u))).alloc (.cells d x)
    simpa using h
  · have h := Cb.new d x (((w.alloc (.cells a t)).alloc (.cells b u)).alloc (.cells c v))
    simpa using h

set_option maxHeartbeats 1000000 in
set_option maxRecDepth 4000 in
theorem mixed_any (s0 s1 s2 s3 s4 s5 s6 s7 : Int) (ad sc : List Int) (ha : ad.length = 64) (hc : sc.length = 64) (w : World) :
    Calls Tryz.prog 179 #[.agg (A32 [s0, s1, s2, s3, s4, s5, s6, s7]), .agg (A32 ad), .agg (A32 sc)] w fun e w' => e = .returned (.agg (A32 (Sh.mixed [s0, s1, s2, s3, s4, s5, s6, s7] ad sc))) ∧ Kx (fun _ => False) w w' := by
  have e8 : A32 [s0, s1, s2, s3, s4, s5, s6, s7] = #[.int .u32 s0, .int .u32 s1, .int .u32 s2, .int .u32 s3, .int .u32 s4, .int .u32 s5, .int .u32 s6, .int .u32 s7] := rfl
  rw [e8]
  go_enter Tryz.func179, Tryz.ntmps179
  go_wp2
  obtain ⟨w1, e1, hk, h0, h1, h2, h3⟩ := new4 w #[.int .u32 s0, .int .u32 s1, .int .u32 s2, .int .u32 s3, .int .u32 s4, .int .u32 s5, .int .u32 s6, .int .u32 s7] (A32 ad) (A32 sc) #[.int .u32 0, .int .u32 0, .int .u32 0, .int .u32 0, .int .u32 0, .int .u32 0, .int .u32 0, .int .u32 0] 173 174 174 173
  rw [e1]
  clear e1
  obtain ⟨B, hB⟩ : ∃ B, w.heap.size = B := ⟨_, rfl⟩
  rw [hB] at h0 h1 h2 h3 ⊢
  have HB : Hid (w.heap.size = B) := hB
  clear hB
  have c0 : w1.cell? ⟨B, 0, none⟩ = some (.int .u32 s0) := h0.cell 0
  have c1 : w1.cell? ⟨B, 1, none⟩ = some (.int .u32 s1) := h0.cell 1
  have c2 : w1.cell? ⟨B, 2, none⟩ = some (.int .u32 s2) := h0.cell 2
  have c3 : w1.cell? ⟨B, 3, none⟩ = some (.int .u32 s3) := h0.cell 3
  have c4 : w1.cell? ⟨B, 4, none⟩ = some (.int .u32 s4) := h0.cell 4
  have c5 : w1.cell? ⟨B, 5, none⟩ = some (.int .u32 s5) := h0.cell 5
  have c6 : w1.cell? ⟨B, 6, none⟩ = some (.int .u32 s6) := h0.cell 6
  have c7 : w1.cell? ⟨B, 7, none⟩ = some (.int .u32 s7) := h0.cell 7
  go_quiet (fail)
  go_wp2
  go_quiet (fail)
  go_wp2
  obtain ⟨q0, hq0⟩ : ∃ q : World, q = w1 := ⟨_, rfl⟩
  go_loopw [40, 7, 8, 9, 10, 11, 12, 13, 14] (fun iv va vb vc vd ve vf vg vh w' => ∃ (k n : Nat), iv = .int .i64 k ∧ k ≤ 64 ∧ w' = w1.drewN n ∧ va = .int .u32 (Sh.rounds ad sc ⟨s0, s1, s2, s3, s4, s5, s6, s7⟩ k).a ∧ vb = .int .u32 (Sh.rounds ad sc ⟨s0, s1, s2, s3, s4, s5, s6, s7⟩ k).b ∧ vc = .int .u32 (Sh.rounds ad sc ⟨s0, s1, s2, s3, s4, s5, s6, s7⟩ k).c ∧ vd = .int .u32 (Sh.rounds ad sc ⟨s0, s1, s2, s3, s4, s5, s6, s7⟩ k).d ∧ ve = .int .u32 (Sh.rounds ad sc ⟨s0, s1, s2, s3, s4, s5, s6, s7⟩ k).e ∧ vf = .int .u32 (Sh.rounds ad sc ⟨s0, s1, s2, s3, s4, s5, s6, s7⟩ k).f ∧ vg = .int .u32 (Sh.rounds ad sc ⟨s0, s1, s2, s3, s4, s5, s6, s7⟩ k).g ∧ vh = .int .u32 (Sh.rounds ad sc ⟨s0, s1, s2, s3, s4, s5, s6, s7⟩ k).h) (fun iv _ _ _ _ _ _ _ _ _ => 64 - (intOf iv).toNat)
  case atStart => exact ⟨0, _, rfl, by omega, World.drewN_drewN _ _ _, rfl, rfl, rfl, rfl, rfl, rfl, rfl, rfl⟩
  case round =>
    obtain ⟨k, n, rfl, hk64, rfl, rfl, rfl, rfl, rfl, rfl, rfl, rfl, rfl⟩ := hrel
    have HN : Hid (Sh.rounds ad sc ⟨s0, s1, s2, s3, s4, s5, s6, s7⟩ (k + 1) = Sh.round (ad.getD k 0) (sc.getD k 0) (Sh.rounds ad sc ⟨s0, s1, s2, s3, s4, s5, s6, s7⟩ k)) := rfl
    obtain ⟨S, hS⟩ : ∃ S, Sh.rounds ad sc ⟨s0, s1, s2, s3, s4, s5, s6, s7⟩ k = S := ⟨_, rfl⟩
    rw [hS] at HN ⊢
    have HS : Hid (Sh.rounds ad sc ⟨s0, s1, s2, s3, s4, s5, s6, s7⟩ k = S) := hS
    clear hS
    obtain ⟨a, b, c, d, e, f, g, h⟩ := S
    by_cases hlt : k < 64
    · have hlt' : (k : Int) < 64 := by omega
      have ca : w1.cell? ⟨B + 1, k, none⟩ = some (.int .u32 (ad.getD k 0)) := by rw [h1.cell, A32_get _ _ (by omega)]
      have cs : w1.cell? ⟨B + 1 + 1, k, none⟩ = some (.int .u32 (sc.getD k 0)) := by rw [h2.cell, A32_get _ _ (by omega)]
      generalize ad.getD k 0 = ak at *
      generalize sc.getD k 0 = sk at *
      have hsg : IntKind.u32.signed = false := rfl
      have hmx : IntKind.u32.max = 4294967295 := rfl
      clear c0 c1 c2 c3 c4 c5 c6 c7
      go_wp2_with fail
      refine (turned_any e 6 6 rfl (by omega) _).mono ?_
      rintro _ _ ⟨rfl, rfl⟩
      go_wp2_with fail
      refine (turned_any e 11 11 rfl (by omega) _).mono ?_
      rintro _ _ ⟨rfl, rfl⟩
      go_wp2_with fail
      refine (turned_any e 25 25 rfl (by omega) _).mono ?_
      rintro _ _ ⟨rfl, rfl⟩
      go_wp2_with fail
      go_quiet (fail)
      go_wp2_with fail
      refine (turned_any a 2 2 rfl (by omega) _).mono ?_
      rintro _ _ ⟨rfl, rfl⟩
      go_wp2_with fail
      refine (turned_any a 13 13 rfl (by omega) _).mono ?_
      rintro _ _ ⟨rfl, rfl⟩
      go_wp2_with fail
      refine (turned_any a 22 22 rfl (by omega) _).mono ?_
      rintro _ _ ⟨rfl, rfl⟩
      go_wp2
      go_roundw
      case rel => exact ⟨k + 1, _, by go_num, by omega, rfl, by rw [HN.out]; rfl, by rw [HN.out]; rfl, by rw [HN.out]; rfl, by rw [HN.out]; rfl, by rw [HN.out]; rfl, by rw [HN.out]; rfl, by rw [HN.out]; rfl, by rw [HN.out]; rfl⟩
      case measure => simp [intOf]; omega
    · obtain rfl : k = 64 := by omega
      have hlt' : ¬ ((64 : Nat) : Int) < 64 := by omega
      clear HN
      go_wp2
      have f0 : ∀ j, (w1.drewN n).frozen? ⟨B, j, none⟩ = false := fun j => h0.frozen j
      go_loopw [116] (fun iv w' => ∃ (k : Nat), iv = .int .i64 k ∧ k ≤ 8 ∧ Kx (Only B) (w1.drewN n) w' ∧ Cb B (A32 (Sh.part [s0, s1, s2, s3, s4, s5, s6, s7] [a, b, c, d, e, f, g, h] k)) 173 w') (fun iv _ => 8 - (intOf iv).toNat)
      case atStart => exact ⟨0, rfl, by omega, Kx.refl _ _, h0⟩
      case round =>
        obtain ⟨k, rfl, hk8, hkx, hcb⟩ := hrel
        by_cases hlt : k < 8
        · have hlt2 : (k : Int) < 8 := by omega
          have hix := index8 a b c d e f g h k hlt wr
          have ck : wr.cell? ⟨B, k, none⟩ = some (.int .u32 ([s0, s1, s2, s3, s4, s5, s6, s7].getD k 0)) := by
            rw [hcb.cell]; exact part_get _ _ _ rfl hlt
          have hsu := part_succ [s0, s1, s2, s3, s4, s5, s6, s7] [a, b, c, d, e, f, g, h] k rfl hlt
          have hset := hcb.set k (.int .u32 (([s0, s1, s2, s3, s4, s5, s6, s7].getD k 0 + [a, b, c, d, e, f, g, h].getD k 0) % 4294967296))
          rw [hsu] at hset
          have HSET : Hid (Cb B (A32 (Sh.part [s0, s1, s2, s3, s4, s5, s6, s7] [a, b, c, d, e, f, g, h] (k + 1))) 173 (wr.setCell ⟨B, k, none⟩ (.int .u32 (([s0, s1, s2, s3, s4, s5, s6, s7].getD k 0 + [a, b, c, d, e, f, g, h].getD k 0) % 4294967296)))) := hset
          clear hset hsu
          generalize [s0, s1, s2, s3, s4, s5, s6, s7].getD k 0 = sk at *
          generalize [a, b, c, d, e, f, g, h].getD k 0 = vk at *
          have fk : wr.frozen? ⟨B, k, none⟩ = false := hcb.frozen k
          go_wp2
          go_roundw
          case rel => exact ⟨k + 1, by go_num, by omega, hkx.only_set _, HSET.out⟩
          case measure => simp [intOf]; omega
        · obtain rfl : k = 8 := by omega
          have hlt2 : ¬ ((8 : Nat) : Int) < 8 := by omega
          have d0 : wr.cell? ⟨B, 0, none⟩ = some (.int .u32 ((s0 + a) % 4294967296)) := hcb.cell 0
          have d1 : wr.cell? ⟨B, 1, none⟩ = some (.int .u32 ((s1 + b) % 4294967296)) := hcb.cell 1
          have d2 : wr.cell? ⟨B, 2, none⟩ = some (.int .u32 ((s2 + c) % 4294967296)) := hcb.cell 2
          have d3 : wr.cell? ⟨B, 3, none⟩ = some (.int .u32 ((s3 + d) % 4294967296)) := hcb.cell 3
          have d4 : wr.cell? ⟨B, 4, none⟩ = some (.int .u32 ((s4 + e) % 4294967296)) := hcb.cell 4
          have d5 : wr.cell? ⟨B, 5, none⟩ = some (.int .u32 ((s5 + f) % 4294967296)) := hcb.cell 5
          have d6 : wr.cell? ⟨B, 6, none⟩ = some (.int .u32 ((s6 + g) % 4294967296)) := hcb.cell 6
          have d7 : wr.cell? ⟨B, 7, none⟩ = some (.int .u32 ((s7 + h) % 4294967296)) := hcb.cell 7
          have h3' : Cb (B + 1 + 1 + 1) #[.int .u32 0, .int .u32 0, .int .u32 0, .int .u32 0, .int .u32 0, .int .u32 0, .int .u32 0, .int .u32 0] 173 wr := Cb.kept (w := w1.drewN n) h3 hkx (by unfold Only; omega)
          have g0 : wr.cell? ⟨B + 1 + 1 + 1, 0, none⟩ = some (.int .u32 0) := h3'.cell 0
          have k0 : wr.frozen? ⟨B + 1 + 1 + 1, 0, none⟩ = false := h3'.frozen 0
          have g1 : wr.cell? ⟨B + 1 + 1 + 1, 1, none⟩ = some (.int .u32 0) := h3'.cell 1
          have k1 : wr.frozen? ⟨B + 1 + 1 + 1, 1, none⟩ = false := h3'.frozen 1
          have g2 : wr.cell? ⟨B + 1 + 1 + 1, 2, none⟩ = some (.int .u32 0) := h3'.cell 2
          have k2 : wr.frozen? ⟨B + 1 + 1 + 1, 2, none⟩ = false := h3'.frozen 2
          have g3 : wr.cell? ⟨B + 1 + 1 + 1, 3, none⟩ = some (.int .u32 0) := h3'.cell 3
          have k3 : wr.frozen? ⟨B + 1 + 1 + 1, 3, none⟩ = false := h3'.frozen 3
          have g4 : wr.cell? ⟨B + 1 + 1 + 1, 4, none⟩ = some (.int .u32 0) := h3'.cell 4
          have k4 : wr.frozen? ⟨B + 1 + 1 + 1, 4, none⟩ = false := h3'.frozen 4
          have g5 : wr.cell? ⟨B + 1 + 1 + 1, 5, none⟩ = some (.int .u32 0) := h3'.cell 5
          have k5 : wr.frozen? ⟨B + 1 + 1 + 1, 5, none⟩ = false := h3'.frozen 5
          have g6 : wr.cell? ⟨B + 1 + 1 + 1, 6, none⟩ = some (.int .u32 0) := h3'.cell 6
          have k6 : wr.frozen? ⟨B + 1 + 1 + 1, 6, none⟩ = false := h3'.frozen 6
          have g7 : wr.cell? ⟨B + 1 + 1 + 1, 7, none⟩ = some (.int .u32 0) := h3'.cell 7
          have k7 : wr.frozen? ⟨B + 1 + 1 + 1, 7, none⟩ = false := h3'.frozen 7
          clear c0 c1 c2 c3 c4 c5 c6 c7
          go_wp2
          have h4 := (((((((h3'.set 0 (.int .u32 ((s0 + a) % 4294967296))).set 1 (.int .u32 ((s1 + b) % 4294967296))).set 2 (.int .u32 ((s2 + c) % 4294967296))).set 3 (.int .u32 ((s3 + d) % 4294967296))).set 4 (.int .u32 ((s4 + e) % 4294967296))).set 5 (.int .u32 ((s5 + f) % 4294967296))).set 6 (.int .u32 ((s6 + g) % 4294967296))).set 7 (.int .u32 ((s7 + h) % 4294967296))
          refine bodyPost_ret (v := .agg (A32 (Sh.mixed [s0, s1, s2, s3, s4, s5, s6, s7] ad sc))) ?_ rfl ?_
          · have HM : A32 (Sh.mixed [s0, s1, s2, s3, s4, s5, s6, s7] ad sc) = #[.int .u32 ((s0 + a) % 4294967296), .int .u32 ((s1 + b) % 4294967296), .int .u32 ((s2 + c) % 4294967296), .int .u32 ((s3 + d) % 4294967296), .int .u32 ((s4 + e) % 4294967296), .int .u32 ((s5 + f) % 4294967296), .int .u32 ((s6 + g) % 4294967296), .int .u32 ((s7 + h) % 4294967296)] := by
              show A32 (Sh.part [s0, s1, s2, s3, s4, s5, s6, s7] [(Sh.rounds ad sc ⟨s0, s1, s2, s3, s4, s5, s6, s7⟩ 64).a, (Sh.rounds ad sc ⟨s0, s1, s2, s3, s4, s5, s6, s7⟩ 64).b, (Sh.rounds ad sc ⟨s0, s1, s2, s3, s4, s5, s6, s7⟩ 64).c, (Sh.rounds ad sc ⟨s0, s1, s2, s3, s4, s5, s6, s7⟩ 64).d, (Sh.rounds ad sc ⟨s0, s1, s2, s3, s4, s5, s6, s7⟩ 64).e, (Sh.rounds ad sc ⟨s0, s1, s2, s3, s4, s5, s6, s7⟩ 64).f, (Sh.rounds ad sc ⟨s0, s1, s2, s3, s4, s5, s6, s7⟩ 64).g, (Sh.rounds ad sc ⟨s0, s1, s2, s3, s4, s5, s6, s7⟩ 64).h] 8) = _
              rw [HS.out]; rfl
            rw [HM]
            exact results_arr (k := B + 1 + 1 + 1) rfl rfl h4 Tryz.underlying173 rfl (by kernel_rfl)
          · refine ⟨rfl, ?_⟩
            have hle : w.heap.size ≤ B + 1 + 1 + 1 := by rw [HB.out]; omega
            have h5 : Kx (fun _ => False) w wr := (hk.drewN n).join hkx (fun j hj e => by have := HB.out; unfold Only at e; omega)
            exact (((((((h5.setNew (p := ⟨B + 1 + 1 + 1, 0, none⟩) hle _).setNew (p := ⟨B + 1 + 1 + 1, 1, none⟩) hle _).setNew (p := ⟨B + 1 + 1 + 1, 2, none⟩) hle _).setNew (p := ⟨B + 1 + 1 + 1, 3, none⟩) hle _).setNew (p := ⟨B + 1 + 1 + 1, 4, none⟩) hle _).setNew (p := ⟨B + 1 + 1 + 1, 5, none⟩) hle _).setNew (p := ⟨B + 1 + 1 + 1, 6, none⟩) hle _).setNew (p := ⟨B + 1 + 1 + 1, 7, none⟩) hle _

end Go.Proofs.YtepgoppgblfjbaaGreatDoor
