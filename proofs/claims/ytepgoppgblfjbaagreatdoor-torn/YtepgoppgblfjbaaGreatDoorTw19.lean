import Derived.Test.YtepgoppgblfjbaaGreatDoorTw18
import Derived.Test.YtepgoppgblfjbaaGreatDoorTw17
import Derived.Test.YtepgoppgblfjbaaGreatDoorTw12
/- Package history: Keep. -/
namespace Go.Proofs.YtepgoppgblfjbaaGreatDoor
open Go.RowKit

/-- Refs laid over others: a nil takes away. -/
def refE (g f : List UInt8 → Option Value) : List UInt8 → Option Value := fun k => match g k with | some (.pointer none) => none | some v => some v | none => f k
def overR (g f : List UInt8 → Option Value) (left : List UInt8 → Bool) : List UInt8 → Option Value := fun k => if (g k).isSome && !left k then refE g f k else f k

theorem overR_start (g f : List UInt8 → Option Value) : overR g f (fun k => (g k).isSome) = f := by
  funext k
  unfold overR
  cases h : g k <;> simp [h]
theorem overR_end (g f : List UInt8 → Option Value) (left : List UInt8 → Bool) (h : ∀ k, left k = false) : overR g f left = refE g f := by
  funext k
  unfold overR
  rw [h]
  cases hg : g k <;> simp [refE, hg]
theorem overR_put (g f : List UInt8 → Option Value) (left : List UInt8 → Bool) (k : List UInt8) (a : Addr) (h : g k = some (.pointer (some a))) : upd (overR g f left) k (some (.pointer (some a))) = overR g f (fun z => left z && !decide (z = k)) := by
  funext z
  unfold upd overR
  by_cases e : z = k
  · subst e
    simp [h, refE]
  · simp [e]
theorem overR_cut (g f : List UInt8 → Option Value) (left : List UInt8 → Bool) (k : List UInt8) (h : g k = some (.pointer none)) : upd (overR g f left) k none = overR g f (fun z => left z && !decide (z = k)) := by
  funext z
  unfold upd overR
  by_cases e : z = k
  · subst e
    simp [h, refE]
  · simp [e]

/-- The blocks that Keep turns. -/
def Fo (o c r t : Nat) : Nat → Prop := fun k => k = o ∨ k = c ∨ k = r ∨ k = t

/-- What must lie apart. -/
structure Apart (d p m po pc pr pt mo mc mr mt : Nat) : Prop where
  d : ¬ Fo po pc pr pt d
  p : ¬ Fo po pc pr pt p
  m : ¬ Fo po pc pr pt m
  mo : ¬ Fo po pc pr pt mo
  mc : ¬ Fo po pc pr pt mc
  mr : ¬ Fo po pc pr pt mr
  mt : ¬ Fo po pc pr pt mt
  pp : po ≠ pc ∧ po ≠ pr ∧ po ≠ pt ∧ pc ≠ pr ∧ pc ≠ pt ∧ pr ≠ pt

set_option maxHeartbeats 1600000 in
set_option maxRecDepth 100000 in
theorem keep_any (d p m po pc pr pt mo mc mr mt n n' : Nat) (f1 f2 f3 f4 g2 g3 g4 : List UInt8 → Option Value) (g1 : Objs) (w : World) (hd : Dr w d p m) (hp : Hi w p po pc pr pt) (hm : Hi w m mo mc mr mt)
    (h1 : MpS w po n f1) (k1 : MpS w mo n' (objF g1)) (h2 : MpS w pc n f2) (k2 : MpS w mc n' g2) (h3 : MpS w pr n f3) (k3 : MpS w mr n' g3) (h4 : MpS w pt n f4) (k4 : MpS w mt n' g4)
    (hg3 : ∀ k v, g3 k = some v → v = .pointer none ∨ ∃ a, v = .pointer (some a)) (hn : n + n' ≤ maxLen) (ha : Apart d p m po pc pr pt mo mc mr mt) :
    Calls Tryz.prog 82 #[.pointer (some ⟨d, 0, none⟩)] w fun e w' => e = .returned (.tuple #[]) ∧ MpS w' po (n + n') (orE (objF g1) f1) ∧ MpS w' pc (n + n') (orE g2 f2) ∧ MpS w' pr (n + n') (refE g3 f3) ∧ MpS w' pt (n + n') (orE g4 f4) ∧ Kx (Fo po pc pr pt) w w' := by
  obtain ⟨a1, a2, a3, a4, a5, a6⟩ := ha.pp
  go_enter Tryz.func82, Tryz.ntmps82
  go_wp2_with fail
  have hd0 := hd
  have hp0 := hp
  have hm0 := hm
  refine wp_region_quiet_tail (C := fun w' => Kx (fun _ => False) w w') 14 (by kernel_rfl) (by kernel_rfl) (Kx.refl _ _).drew ?_
  refine quiet_val rfl (.pointer (some ⟨d, 0, none⟩)) (fun w' hC => by go_simp) ?_
  refine quiet_val rfl (.pointer (some ⟨d, 0, none⟩)) (fun w' hC => by go_simp) ?_
  refine quiet_val rfl (.pointer (some ⟨d, 0, none⟩)) (fun w' hC => by go_simp) ?_
  refine quiet_val rfl (.pointer (some ⟨p, 0, none⟩)) (fun w' hC => by
    have hc0 : w'.cell? ⟨d, 0, none⟩ = some (.pointer (some ⟨p, 0, none⟩)) := Cb.cell (hd0.kept hC id) 0
    go_simp) ?_
  refine quiet_val rfl (.pointer (some ⟨p, 0, none⟩)) (fun w' hC => by go_simp) ?_
  refine quiet_val rfl (.pointer (some ⟨p, 0, none⟩)) (fun w' hC => by go_simp) ?_
  refine quiet_val rfl (.map (some po)) (fun w' hC => by
    have hc0 : w'.cell? ⟨p, 0, none⟩ = some (.map (some po)) := Cb.cell (hp0.kept hC id) 0
    go_simp) ?_
  refine quiet_val rfl (.pointer (some ⟨d, 0, none⟩)) (fun w' hC => by go_simp) ?_
  refine quiet_val rfl (.pointer (some ⟨d, 0, none⟩)) (fun w' hC => by go_simp) ?_
  refine quiet_val rfl (.pointer (some ⟨d, 1, none⟩)) (fun w' hC => by go_simp) ?_
  refine quiet_val rfl (.pointer (some ⟨m, 0, none⟩)) (fun w' hC => by
    have hc0 : w'.cell? ⟨d, 1, none⟩ = some (.pointer (some ⟨m, 0, none⟩)) := Cb.cell (hd0.kept hC id) 1
    go_simp) ?_
  refine quiet_val rfl (.pointer (some ⟨m, 0, none⟩)) (fun w' hC => by go_simp) ?_
  refine quiet_val rfl (.pointer (some ⟨m, 0, none⟩)) (fun w' hC => by go_simp) ?_
  refine quiet_val rfl (.map (some mo)) (fun w' hC => by
    have hc0 : w'.cell? ⟨m, 0, none⟩ = some (.map (some mo)) := Cb.cell (hm0.kept hC id) 0
    go_simp) ?_
  refine wpQuiet_nil (fun w' hC => ?_)
  simp only [Act.put, List.setIfInBounds_toArray, List.set_cons_succ, List.set_cons_zero, List.drop_succ_cons, List.drop_zero]
  have hcall := copyO_any po mo n n' f1 g1 w' (h1.kept hC id) (k1.kept hC id) (fun e => ha.mo (by rw [← e]; unfold Fo; simp)) hn
  go_wp2_with (go_at_call 124; refine hcall.mono ?_; rintro _ W1 ⟨rfl, q1, e1⟩)
  have x1 : Kx (Only po) w W1 := (hC.mono (fun _ _ h => h.elim)).trans e1
  clear hcall hC e1 w'
  have hd1 := hd0.kept x1 (fun e => ha.d (.inl e))
  have hp1 := hp0.kept x1 (fun e => ha.p (.inl e))
  have hm1 := hm0.kept x1 (fun e => ha.m (.inl e))
  have rpc1 := h2.kept x1 (by unfold Only; exact Ne.symm a1)
  have rpr1 := h3.kept x1 (by unfold Only; exact Ne.symm a2)
  have rpt1 := h4.kept x1 (by unfold Only; exact Ne.symm a3)
  have smc1 := k2.kept x1 (fun e => ha.mc (.inl e))
  have smr1 := k3.kept x1 (fun e => ha.mr (.inl e))
  have smt1 := k4.kept x1 (fun e => ha.mt (.inl e))
  refine wp_region_quiet_tail (C := fun w' => Kx (fun _ => False) W1 w') 14 (by kernel_rfl) (by kernel_rfl) (Kx.refl _ _).drew ?_
  refine quiet_val rfl (.pointer (some ⟨d, 0, none⟩)) (fun w' hC => by go_simp) ?_
  refine quiet_val rfl (.pointer (some ⟨d, 0, none⟩)) (fun w' hC => by go_simp) ?_
  refine quiet_val rfl (.pointer (some ⟨d, 0, none⟩)) (fun w' hC => by go_simp) ?_
  refine quiet_val rfl (.pointer (some ⟨p, 0, none⟩)) (fun w' hC => by
    have hc0 : w'.cell? ⟨d, 0, none⟩ = some (.pointer (some ⟨p, 0, none⟩)) := Cb.cell (hd1.kept hC id) 0
    go_simp) ?_
  refine quiet_val rfl (.pointer (some ⟨p, 0, none⟩)) (fun w' hC => by go_simp) ?_
  refine quiet_val rfl (.pointer (some ⟨p, 1, none⟩)) (fun w' hC => by go_simp) ?_
  refine quiet_val rfl (.map (some pc)) (fun w' hC => by
    have hc0 : w'.cell? ⟨p, 1, none⟩ = some (.map (some pc)) := Cb.cell (hp1.kept hC id) 1
    go_simp) ?_
  refine quiet_val rfl (.pointer (some ⟨d, 0, none⟩)) (fun w' hC => by go_simp) ?_
  refine quiet_val rfl (.pointer (some ⟨d, 0, none⟩)) (fun w' hC => by go_simp) ?_
  refine quiet_val rfl (.pointer (some ⟨d, 1, none⟩)) (fun w' hC => by go_simp) ?_
  refine quiet_val rfl (.pointer (some ⟨m, 0, none⟩)) (fun w' hC => by
    have hc0 : w'.cell? ⟨d, 1, none⟩ = some (.pointer (some ⟨m, 0, none⟩)) := Cb.cell (hd1.kept hC id) 1
    go_simp) ?_
  refine quiet_val rfl (.pointer (some ⟨m, 0, none⟩)) (fun w' hC => by go_simp) ?_
  refine quiet_val rfl (.pointer (some ⟨m, 1, none⟩)) (fun w' hC => by go_simp) ?_
  refine quiet_val rfl (.map (some mc)) (fun w' hC => by
    have hc0 : w'.cell? ⟨m, 1, none⟩ = some (.map (some mc)) := Cb.cell (hm1.kept hC id) 1
    go_simp) ?_
  refine wpQuiet_nil (fun w' hC => ?_)
  simp only [Act.put, List.setIfInBounds_toArray, List.set_cons_succ, List.set_cons_zero, List.drop_succ_cons, List.drop_zero]
  have hcall := copyC_any pc mc n n' f2 g2 w' (rpc1.kept hC id) (smc1.kept hC id) (fun e => ha.mc (by rw [← e]; unfold Fo; simp)) hn
  go_wp2_with (go_at_call 125; refine hcall.mono ?_; rintro _ W2 ⟨rfl, q2, e2⟩)
  have x2 : Kx (Only pc) W1 W2 := (hC.mono (fun _ _ h => h.elim)).trans e2
  clear hcall hC e2 w'
  have hd2 := hd1.kept x2 (fun e => ha.d (.inr (.inl e)))
  have hp2 := hp1.kept x2 (fun e => ha.p (.inr (.inl e)))
  have hm2 := hm1.kept x2 (fun e => ha.m (.inr (.inl e)))
  have rpo2 := q1.kept x2 (by unfold Only; exact a1)
  have rpr2 := rpr1.kept x2 (by unfold Only; exact Ne.symm a4)
  have rpt2 := rpt1.kept x2 (by unfold Only; exact Ne.symm a5)
  have smr2 := smr1.kept x2 (fun e => ha.mr (.inr (.inl e)))
  have smt2 := smt1.kept x2 (fun e => ha.mt (.inr (.inl e)))
  refine wp_region_quiet_tail (C := fun w' => Kx (fun _ => False) W2 w') 14 (by kernel_rfl) (by kernel_rfl) (Kx.refl _ _).drew ?_
  refine quiet_val rfl (.pointer (some ⟨d, 0, none⟩)) (fun w' hC => by go_simp) ?_
  refine quiet_val rfl (.pointer (some ⟨d, 0, none⟩)) (fun w' hC => by go_simp) ?_
  refine quiet_val rfl (.pointer (some ⟨d, 0, none⟩)) (fun w' hC => by go_simp) ?_
  refine quiet_val rfl (.pointer (some ⟨p, 0, none⟩)) (fun w' hC => by
    have hc0 : w'.cell? ⟨d, 0, none⟩ = some (.pointer (some ⟨p, 0, none⟩)) := Cb.cell (hd2.kept hC id) 0
    go_simp) ?_
  refine quiet_val rfl (.pointer (some ⟨p, 0, none⟩)) (fun w' hC => by go_simp) ?_
  refine quiet_val rfl (.pointer (some ⟨p, 3, none⟩)) (fun w' hC => by go_simp) ?_
  refine quiet_val rfl (.map (some pt)) (fun w' hC => by
    have hc0 : w'.cell? ⟨p, 3, none⟩ = some (.map (some pt)) := Cb.cell (hp2.kept hC id) 3
    go_simp) ?_
  refine quiet_val rfl (.pointer (some ⟨d, 0, none⟩)) (fun w' hC => by go_simp) ?_
  refine quiet_val rfl (.pointer (some ⟨d, 0, none⟩)) (fun w' hC => by go_simp) ?_
  refine quiet_val rfl (.pointer (some ⟨d, 1, none⟩)) (fun w' hC => by go_simp) ?_
  refine quiet_val rfl (.pointer (some ⟨m, 0, none⟩)) (fun w' hC => by
    have hc0 : w'.cell? ⟨d, 1, none⟩ = some (.pointer (some ⟨m, 0, none⟩)) := Cb.cell (hd2.kept hC id) 1
    go_simp) ?_
  refine quiet_val rfl (.pointer (some ⟨m, 0, none⟩)) (fun w' hC => by go_simp) ?_
  refine quiet_val rfl (.pointer (some ⟨m, 3, none⟩)) (fun w' hC => by go_simp) ?_
  refine quiet_val rfl (.map (some mt)) (fun w' hC => by
    have hc0 : w'.cell? ⟨m, 3, none⟩ = some (.map (some mt)) := Cb.cell (hm2.kept hC id) 3
    go_simp) ?_
  refine wpQuiet_nil (fun w' hC => ?_)
  simp only [Act.put, List.setIfInBounds_toArray, List.set_cons_succ, List.set_cons_zero, List.drop_succ_cons, List.drop_zero]
  have hcall := copyT_any pt mt n n' f4 g4 w' (rpt2.kept hC id) (smt2.kept hC id) (fun e => ha.mt (by rw [← e]; unfold Fo; simp)) hn
  go_wp2_with fail
  refine hcall.mono ?_
  rintro _ W3 ⟨rfl, q3, e3⟩
  have x3 : Kx (Only pt) W2 W3 := (hC.mono (fun _ _ h => h.elim)).trans e3
  clear hcall hC e3 w'
  have hd3 := hd2.kept x3 (fun e => ha.d (.inr (.inr (.inr e))))
  have hp3 := hp2.kept x3 (fun e => ha.p (.inr (.inr (.inr e))))
  have hm3 := hm2.kept x3 (fun e => ha.m (.inr (.inr (.inr e))))
  have rpo3 := rpo2.kept x3 (by unfold Only; exact a3)
  have rpc3 := q2.kept x3 (by unfold Only; exact a5)
  have rpr3 := rpr2.kept x3 (by unfold Only; exact a6)
  have smr3 := smr2.kept x3 (fun e => ha.mr (.inr (.inr (.inr e))))
  have X3 : Kx (Fo po pc pr pt) w W3 := ((x1.mono (fun _ _ e => .inl e)).trans (x2.mono (fun _ _ e => .inr (.inl e)))).trans (x3.mono (fun _ _ e => .inr (.inr (.inr e))))
  have Y1 := rpo3
  have Y2 := rpc3
  have Y3 := rpr3
  have Y4 := q3
  have Z3 := smr3
  have hlp := Y3.lt
  have A := ha
  clear hd hp hm hd0 hp0 hm0 hd1 hp1 hm1 hd2 hp2 hm2 h1 h2 h3 h4 k1 k2 k3 k4 q1 q2 q3
  have c1 : W3.cell? ⟨d, 1, none⟩ = some (.pointer (some ⟨m, 0, none⟩)) := Cb.cell hd3 1
  have c2 : W3.cell? ⟨m, 2, none⟩ = some (.map (some mr)) := Cb.cell hm3 2
  go_wp2_with (first | (at_range; refine wpList_rangeS rfl _ 147 rfl 101 (by kernel_rfl) (by kernel_rfl) mr n' g3 rfl Z3 ?_; intro w0 cnt0 hc0 hr0 hk0) | go_in)
  go_frame
  clear c1 c2
  go_loopw [] (fun wr => ∃ (left : List UInt8 → Bool) (cnt nn : Nat), RngS Tryz.prog 9 wr mr W3.heap.size n' g3 left cnt ∧ MpS wr pr nn (overR g3 f3 left) ∧ nn + cnt ≤ n + n' ∧ Kx (Only pr) W3 wr) (fun wr => wr.rangeLeft mr W3.heap.size)
  case atStart =>
    refine ⟨_, cnt0, n, hr0, ?_, by omega, hk0.mono (fun _ _ h => h.elim)⟩
    rw [overR_start]
    exact Y3.kept hk0 id
  case round =>
    obtain ⟨left, cnt, nn, hr, hm, hle, hk⟩ := hrel
    go_wp2_with (first | (at_next; refine wpList_nextS rfl _ rfl (by kernel_rfl) mr W3.heap.size n' g3 left cnt rfl hr ?_ ?_) | go_in)
    · intro hl
      rw [overR_end g3 f3 left hl] at hm
      have hm' := hm.mono (m := n + n') (by omega)
      have z1 := Y1.kept hk (by unfold Only; exact a2)
      have z2 := Y2.kept hk (by unfold Only; exact a4)
      have z4 := Y4.kept hk (by unfold Only; exact Ne.symm a6)
      have zk := X3.trans (hk.mono (fun _ _ e => .inr (.inr (.inl e))))
      clear hm Y1 Y2 Y3 Y4 Z3 hd3 hp3 hm3
      go_wp2
      go_end0
      exact ⟨rfl, z1, z2, hm', z4, zk⟩
    · intro k v w2 cnt2 hkl hlk hgk hr2 hlt hk2 hs2 hen
      have hne : pr ≠ W3.heap.size := by omega
      have hm2 := hm.kept hk2 (by unfold Only; exact hne)
      have hk3 : Kx (Only pr) W3 w2 := hk.andThen hk2 (fun j hj e => by unfold Only at e; omega)
      have c0 : w2.cell? ⟨d, 0, none⟩ = some (.pointer (some ⟨p, 0, none⟩)) := Cb.cell (hd3.kept hk3 (fun e => A.d (.inr (.inr (.inl e))))) 0
      have c1 : w2.cell? ⟨p, 2, none⟩ = some (.map (some pr)) := Cb.cell (hp3.kept hk3 (fun e => A.p (.inr (.inr (.inl e))))) 2
      have hmr : mr ≠ pr := fun e => A.mr (.inr (.inr (.inl e)))
      clear hs2 hm hlk hk2
      rcases hg3 k v hgk with rfl | ⟨ad, rfl⟩
      · have hst := overR_cut g3 f3 left k hgk
        go_wp2_with (first | (refine wpList_cutS rfl _ _ 147 rfl 101 (by kernel_rfl) (by kernel_rfl) pr nn (overR g3 f3 left) rfl hm2 k rfl hkl ?_; intro w3 hm3 hk4) | go_in)
        rw [hst] at hm3
        have hr3 := hr2.kept hk4 (by unfold Only; exact hmr) (by unfold Only; exact Ne.symm hne)
        have hk5 := hk3.trans hk4
        simp only [Act.put]
        go_roundw
        case rel => exact ⟨_, cnt2, nn, hr3, hm3, by omega, hk5⟩
        case measure => rw [hr3.left_eq, hr.left_eq]; exact hlt
      · have hst := overR_put g3 f3 left k ad hgk
        go_wp2_with (first | (refine wpList_putS rfl _ _ _ 147 rfl 101 (by kernel_rfl) (by kernel_rfl) pr nn (overR g3 f3 left) rfl hm2 (by omega) k rfl hkl (.pointer (some ad)) rfl ?_; intro w3 hm3 hk4) | go_in)
        rw [hst] at hm3
        have hr3 := hr2.kept hk4 (by unfold Only; exact hmr) (by unfold Only; exact Ne.symm hne)
        have hk5 := hk3.trans hk4
        simp only [Act.put]
        go_roundw
        case rel => exact ⟨_, cnt2, nn + 1, hr3, hm3, by omega, hk5⟩
        case measure => rw [hr3.left_eq, hr.left_eq]; exact hlt

end Go.Proofs.YtepgoppgblfjbaaGreatDoor

/- A stream that is being done, as it lies in memory. -/
namespace Go.Proofs.YtepgoppgblfjbaaGreatDoor
open Go.RowKit

/-- Names lead to commits. -/
def ComF (M : Nat → Prop) (w : World) (f : List UInt8 → Option Value) (g : List UInt8 → Option Com) : Prop :=
  ∀ k, (g k = none → f k = none) ∧ ∀ c, g k = some c → ∃ b, f k = some (ptrV b) ∧ Cmt M w b c

/-- Names lead to commits, or to nothing. -/
def RefF (M : Nat → Prop) (w : World) (f : List UInt8 → Option Value) (g : List UInt8 → Option (Option Com)) : Prop :=
  ∀ k, (g k = none → f k = none) ∧ (g k = some none → f k = some (.pointer none)) ∧ ∀ c, g k = some (some c) → ∃ b, f k = some (ptrV b) ∧ Cmt M w b c

/-- A tag in memory: its id. -/
def Tg (M : Nat → Prop) (w : World) (b : Nat) (s : List UInt8) : Prop :=
  ∃ (x : List UInt8) (rest : List Value), Cb b (.int .i64 4 :: .string ⟨x.toArray⟩ :: .string ⟨(Sh.hex s).toArray⟩ :: rest).toArray 187 w ∧ ¬ M b ∧ s.length = 32

def TagF (M : Nat → Prop) (w : World) (f : List UInt8 → Option Value) (g : List UInt8 → Option (List UInt8)) : Prop :=
  ∀ k, (g k = none → f k = none) ∧ ∀ s, g k = some s → ∃ b, f k = some (ptrV b) ∧ Tg M w b s

/-- Marks lead to blobs and to commits. -/
def MksF (M : Nat → Prop) (w : World) (f : Int → Option Value) (g : Int → Option Mkd) : Prop :=
  ∀ k, (g k = none → f k = none) ∧ (∀ s, g k = some (.blob s) → f k = some (.agg #[.pointer none, .string ⟨(Sh.hex s).toArray⟩]) ∧ s.length = 32) ∧
    ∀ c, g k = some (.com c) → ∃ b, f k = some (.agg #[ptrV b, .string ⟨#[]⟩]) ∧ Cmt M w b c

section
variable {M X : Nat → Prop} {w w' : World}

theorem ComF.kept {f : List UInt8 → Option Value} {g : List UInt8 → Option Com} (h : ComF M w f g) (hk : Kx X w w') (hX : ∀ k, k < w.heap.size → X k → M k) : ComF M w' f g :=
  fun k => ⟨(h k).1, fun c e => let ⟨b, h1, h2⟩ := (h k).2 c e; ⟨b, h1, h2.kept hk hX⟩⟩
theorem RefF.kept {f : List UInt8 → Option Value} {g : List UInt8 → Option (Option Com)} (h : RefF M w f g) (hk : Kx X w w') (hX : ∀ k, k < w.heap.size → X k → M k) : RefF M w' f g :=
  fun k => ⟨(h k).1, (h k).2.1, fun c e => let ⟨b, h1, h2⟩ := (h k).2.2 c e; ⟨b, h1, h2.kept hk hX⟩⟩
theorem Tg.kept {b : Nat} {s : List UInt8} (h : Tg M w b s) (hk : Kx X w w') (hX : ∀ k, k < w.heap.size → X k → M k) : Tg M w' b s := by
  obtain ⟨x, rest, h1, h2, h3⟩ := h
  exact ⟨x, rest, h1.kept hk (fun e => h2 (hX b h1.lt e)), h2, h3⟩
theorem TagF.kept {f : List UInt8 → Option Value} {g : List UInt8 → Option (List UInt8)} (h : TagF M w f g) (hk : Kx X w w') (hX : ∀ k, k < w.heap.size → X k → M k) : TagF M w' f g :=
  fun k => ⟨(h k).1, fun c e => let ⟨b, h1, h2⟩ := (h k).2 c e; ⟨b, h1, h2.kept hk hX⟩⟩
theorem MksF.kept {f : Int → Option Value} {g : Int → Option Mkd} (h : MksF M w f g) (hk : Kx X w w') (hX : ∀ k, k < w.heap.size → X k → M k) : MksF M w' f g :=
  fun k => ⟨(h k).1, (h k).2.1, fun c e => let ⟨b, h1, h2⟩ := (h k).2.2 c e; ⟨b, h1, h2.kept hk hX⟩⟩

theorem ComF.mono {M' : Nat → Prop} {f : List UInt8 → Option Value} {g : List UInt8 → Option Com} (h : ComF M w f g) (hM : ∀ k, k < w.heap.size → M' k → M k) : ComF M' w f g :=
  fun k => ⟨(h k).1, fun c e => let ⟨b, h1, h2⟩ := (h k).2 c e; ⟨b, h1, h2.mono hM⟩⟩
theorem Tg.mono {M' : Nat → Prop} {b : Nat} {s : List UInt8} (h : Tg M w b s) (hM : ∀ k, k < w.heap.size → M' k → M k) : Tg M' w b s := by
  obtain ⟨x, rest, h1, h2, h3⟩ := h
  exact ⟨x, rest, h1, fun e => h2 (hM b h1.lt e), h3⟩
theorem TagF.mono {M' : Nat → Prop} {f : List UInt8 → Option Value} {g : List UInt8 → Option (List UInt8)} (h : TagF M w f g) (hM : ∀ k, k < w.heap.size → M' k → M k) : TagF M' w f g :=
  fun k => ⟨(h k).1, fun c e => let ⟨b, h1, h2⟩ := (h k).2 c e; ⟨b, h1, h2.mono hM⟩⟩

theorem ComF.upd {f : List UInt8 → Option Value} {g : List UInt8 → Option Com} (h : ComF M w f g) {k : List UInt8} {b : Nat} {c : Com} (hc : Cmt M w b c) : ComF M w (Go.Proofs.YtepgoppgblfjbaaGreatDoor.upd f k (some (ptrV b))) (Go.Proofs.YtepgoppgblfjbaaGreatDoor.upd g k (some c)) := by
  intro z
  by_cases e : z = k
  · subst e
    rw [upd_same, upd_same]
    exact ⟨fun h => (by cases h), fun c' e' => (by cases e'; exact ⟨b, rfl, hc⟩)⟩
  · rw [upd_other _ _ _ _ e, upd_other _ _ _ _ e]
    exact h z
theorem RefF.upd {f : List UInt8 → Option Value} {g : List UInt8 → Option (Option Com)} (h : RefF M w f g) {k : List UInt8} {b : Nat} {c : Com} (hc : Cmt M w b c) : RefF M w (Go.Proofs.YtepgoppgblfjbaaGreatDoor.upd f k (some (ptrV b))) (Go.Proofs.YtepgoppgblfjbaaGreatDoor.upd g k (some (some c))) := by
  intro z
  by_cases e : z = k
  · subst e
    rw [upd_same, upd_same]
    exact ⟨fun h => (by cases h), fun h => (by cases h), fun c' e' => (by cases e'; exact ⟨b, rfl, hc⟩)⟩
  · rw [upd_other _ _ _ _ e, upd_other _ _ _ _ e]
    exact h z
theorem RefF.gone {f : List UInt8 → Option Value} {g : List UInt8 → Option (Option Com)} (h : RefF M w f g) (k : List UInt8) : RefF M w (Go.Proofs.YtepgoppgblfjbaaGreatDoor.upd f k (some (.pointer none))) (Go.Proofs.YtepgoppgblfjbaaGreatDoor.upd g k (some none)) := by
  intro z
  by_cases e : z = k
  · subst e
    rw [upd_same, upd_same]
    exact ⟨fun h => (by cases h), fun _ => rfl, fun c' e' => (by cases e')⟩
  · rw [upd_other _ _ _ _ e, upd_other _ _ _ _ e]
    exact h z
theorem TagF.upd {f : List UInt8 → Option Value} {g : List UInt8 → Option (List UInt8)} (h : TagF M w f g) {k : List UInt8} {b : Nat} {s : List UInt8} (hc : Tg M w b s) : TagF M w (Go.Proofs.YtepgoppgblfjbaaGreatDoor.upd f k (some (ptrV b))) (Go.Proofs.YtepgoppgblfjbaaGreatDoor.upd g k (some s)) := by
  intro z
  by_cases e : z = k
  · subst e
    rw [upd_same, upd_same]
    exact ⟨fun h => (by cases h), fun c' e' => (by cases e'; exact ⟨b, rfl, hc⟩)⟩
  · rw [upd_other _ _ _ _ e, upd_other _ _ _ _ e]
    exact h z
theorem MksF.updB {f : Int → Option Value} {g : Int → Option Mkd} (h : MksF M w f g) (k : Int) (s : List UInt8) (hs : s.length = 32) : MksF M w (Go.Proofs.YtepgoppgblfjbaaGreatDoor.upd f k (some (.agg #[.pointer none, .string ⟨(Sh.hex s).toArray⟩]))) (Go.Proofs.YtepgoppgblfjbaaGreatDoor.upd g k (some (.blob s))) := by
  intro z
  by_cases e : z = k
  · subst e
    rw [upd_same, upd_same]
    exact ⟨fun h => (by cases h), fun s' e' => (by cases e'; exact ⟨rfl, hs⟩), fun c' e' => (by cases e')⟩
  · rw [upd_other _ _ _ _ e, upd_other _ _ _ _ e]
    exact h z
theorem MksF.updC {f : Int → Option Value} {g : Int → Option Mkd} (h : MksF M w f g) (k : Int) {b : Nat} {c : Com} (hc : Cmt M w b c) : MksF M w (Go.Proofs.YtepgoppgblfjbaaGreatDoor.upd f k (some (.agg #[ptrV b, .string ⟨#[]⟩]))) (Go.Proofs.YtepgoppgblfjbaaGreatDoor.upd g k (some (.com c))) := by
  intro z
  by_cases e : z = k
  · subst e
    rw [upd_same, upd_same]
    exact ⟨fun h => (by cases h), fun s' e' => (by cases e'), fun c' e' => (by cases e'; exact ⟨b, rfl, hc⟩)⟩
  · rw [upd_other _ _ _ _ e, upd_other _ _ _ _ e]
    exact h z
end

/-- Refs laid over others: what is gone is gone. -/
def refO (g : List UInt8 → Option (Option Com)) (s : List UInt8 → Option Com) : List UInt8 → Option Com := fun k => match g k with | some x => x | none => s k

theorem refO_upd (g : List UInt8 → Option (Option Com)) (s : List UInt8 → Option Com) (k : List UInt8) (x : Option Com) : refO (upd g k (some x)) s = upd (refO g s) k x := by
  funext z
  unfold refO upd
  by_cases e : z = k
  · simp [e]
  · simp [e]

/-- The blocks of a stream that is being done. -/
structure Bl where
  (q d p m mb kb po pc pr pt mo mc mr mt : Nat)

/-- Those that doing turns. -/
def Bl.X (B : Bl) : Nat → Prop := fun k => k = B.mo ∨ k = B.mc ∨ k = B.mr ∨ k = B.mt ∨ k = B.kb

structure Bl.Sep (B : Bl) : Prop where
  q : ¬ B.X B.q
  d : ¬ B.X B.d
  p : ¬ B.X B.p
  m : ¬ B.X B.m
  mb : ¬ B.X B.mb
  pr : ¬ B.X B.pr
  low : ∀ j, j < 7 → ¬ B.X j
  oc : B.mo ≠ B.mc
  or : B.mo ≠ B.mr
  ot : B.mo ≠ B.mt
  ok : B.mo ≠ B.kb
  cr : B.mc ≠ B.mr
  ct : B.mc ≠ B.mt
  ck : B.mc ≠ B.kb
  rt : B.mr ≠ B.mt
  rk : B.mr ≠ B.kb
  tk : B.mt ≠ B.kb

/-- A stream that is being done: S was, W is. -/
structure Wrk (M : Nat → Prop) (w : World) (B : Bl) (n : Nat) (S : St) (W : Wk) : Prop where
  gl : Gl w
  wq : Cb B.q #[ptrV B.d, ptrV B.mb, .map (some B.kb)] 170 w
  dr : Dr w B.d B.p B.m
  mkr : Cb B.mb (A32 Sh.K) 281 w
  hp : Hi w B.p B.po B.pc B.pr B.pt
  hm : Hi w B.m B.mo B.mc B.mr B.mt
  past : ∃ np fr, MpS w B.pr np fr ∧ ComF M w fr S.ref
  objs : ∃ g, MpS w B.mo n (objF g) ∧ W.st.obj = orE g S.obj
  coms : ∃ g f, MpS w B.mc n f ∧ ComF M w f g ∧ W.st.com = orE g S.com
  refs : ∃ g f, MpS w B.mr n f ∧ RefF M w f g ∧ W.st.ref = refO g S.ref
  tags : ∃ g f, MpS w B.mt n f ∧ TagF M w f g ∧ W.st.tag = orE g S.tag
  marks : ∃ f, MapI Tryz.prog 3 w B.kb n f ∧ MksF M w f W.ms
  sep : B.Sep
  inM : ∀ k, B.X k → M k
  lowM : ∀ k, M k → k < w.heap.size

section
variable {M X : Nat → Prop} {w w' : World} {B : Bl} {n n' : Nat} {S : St} {W W' : Wk}

theorem Wrk.kobjs (h : Wrk M w B n S W) (hk : Kx X w w') (hx : ¬ X B.mo) (hn : n ≤ n') : ∃ g, MpS w' B.mo n' (objF g) ∧ W.st.obj = orE g S.obj := by
  obtain ⟨g, h1, h2⟩ := h.objs
  exact ⟨g, (h1.kept hk hx).mono hn, h2⟩
theorem Wrk.kcoms (h : Wrk M w B n S W) (hk : Kx X w w') (hX : ∀ k, k < w.heap.size → X k → M k) (hx : ¬ X B.mc) (hn : n ≤ n') : ∃ g f, MpS w' B.mc n' f ∧ ComF M w' f g ∧ W.st.com = orE g S.com := by
  obtain ⟨g, f, h1, h2, h3⟩ := h.coms
  exact ⟨g, f, (h1.kept hk hx).mono hn, h2.kept hk hX, h3⟩
theorem Wrk.krefs (h : Wrk M w B n S W) (hk : Kx X w w') (hX : ∀ k, k < w.heap.size → X k → M k) (hx : ¬ X B.mr) (hn : n ≤ n') : ∃ g f, MpS w' B.mr n' f ∧ RefF M w' f g ∧ W.st.ref = refO g S.ref := by
  obtain ⟨g, f, h1, h2, h3⟩ := h.refs
  exact ⟨g, f, (h1.kept hk hx).mono hn, h2.kept hk hX, h3⟩
theorem Wrk.ktags (h : Wrk M w B n S W) (hk : Kx X w w') (hX : ∀ k, k < w.heap.size → X k → M k) (hx : ¬ X B.mt) (hn : n ≤ n') : ∃ g f, MpS w' B.mt n' f ∧ TagF M w' f g ∧ W.st.tag = orE g S.tag := by
  obtain ⟨g, f, h1, h2, h3⟩ := h.tags
  exact ⟨g, f, (h1.kept hk hx).mono hn, h2.kept hk hX, h3⟩
theorem Wrk.kmarks (h : Wrk M w B n S W) (hk : Kx X w w') (hX : ∀ k, k < w.heap.size → X k → M k) (hx : ¬ X B.kb) (hn : n ≤ n') : ∃ f, MapI Tryz.prog 3 w' B.kb n' f ∧ MksF M w' f W.ms := by
  obtain ⟨f, h1, h2⟩ := h.marks
  exact ⟨f, (h1.kept hk hx).mono hn, h2.kept hk hX⟩

/-- What was done turned blocks of its own alone. -/
theorem Wrk.turn (h : Wrk M w B n S W) (hk : Kx B.X w w') (o : ∃ g, MpS w' B.mo n' (objF g) ∧ W'.st.obj = orE g S.obj) (c : ∃ g f, MpS w' B.mc n' f ∧ ComF M w' f g ∧ W'.st.com = orE g S.com) (r : ∃ g f, MpS w' B.mr n' f ∧ RefF M w' f g ∧ W'.st.ref = refO g S.ref)
    (t : ∃ g f, MpS w' B.mt n' f ∧ TagF M w' f g ∧ W'.st.tag = orE g S.tag) (k : ∃ f, MapI Tryz.prog 3 w' B.kb n' f ∧ MksF M w' f W'.ms) : Wrk M w' B n' S W' := by
  obtain ⟨np, fr, p1, p2⟩ := h.past
  exact ⟨h.gl.kept hk (fun j hj => h.sep.low j (by omega)), h.wq.kept hk h.sep.q, h.dr.kept hk h.sep.d, h.mkr.kept hk h.sep.mb, h.hp.kept hk h.sep.p, h.hm.kept hk h.sep.m,
    ⟨np, fr, p1.kept hk h.sep.pr, p2.kept hk (fun k _ e => h.inM k e)⟩, o, c, r, t, k, h.sep, h.inM, fun k e => Nat.lt_of_lt_of_le (h.lowM k e) hk.size⟩

/-- Nothing turned. -/
theorem Wrk.kept (h : Wrk M w B n S W) (hk : Kx (fun _ => False) w w') : Wrk M w' B n S W :=
  h.turn (hk.mono (fun _ _ h => h.elim)) (h.kobjs hk id (Nat.le_refl _)) (h.kcoms hk (fun _ _ h => h.elim) id (Nat.le_refl _)) (h.krefs hk (fun _ _ h => h.elim) id (Nat.le_refl _))
    (h.ktags hk (fun _ _ h => h.elim) id (Nat.le_refl _)) (h.kmarks hk (fun _ _ h => h.elim) id (Nat.le_refl _))

theorem Wrk.mono (h : Wrk M w B n S W) (hn : n ≤ n') : Wrk M w B n' S W :=
  h.turn (Kx.refl _ _) (h.kobjs (Kx.refl (fun _ => False) _) id hn) (h.kcoms (Kx.refl (fun _ => False) _) (fun _ _ h => h.elim) id hn) (h.krefs (Kx.refl (fun _ => False) _) (fun _ _ h => h.elim) id hn)
    (h.ktags (Kx.refl (fun _ => False) _) (fun _ _ h => h.elim) id hn) (h.kmarks (Kx.refl (fun _ => False) _) (fun _ _ h => h.elim) id hn)
end

/-- What the reader gives, in its bounds. -/
structure WhOk (x : Pu.Wh) : Prop where
  mark : 0 ≤ x.mark ∧ x.mark ≤ 999
  ref : x.ref.length ≤ 1000
structure ChOk (c : Pu.Ch) : Prop where
  mark : 0 ≤ c.mark ∧ c.mark ≤ 999
  mode : c.mode.length ≤ 20
  data : c.data.length ≤ 1000
  path : c.path.length ≤ 60
  dst : c.to.length ≤ 60
structure CoOk (c : Pu.Co) : Prop where
  mark : 0 ≤ c.mark ∧ c.mark ≤ 999
  ref : c.ref.length ≤ 1000
  name : c.au.name.length ≤ 1000
  mail : c.au.mail.length ≤ 1000
  time : 0 ≤ c.au.time ∧ c.au.time ≤ 9999999999
  data : c.data.length ≤ 1000
  frm : WhOk c.frm
  merges : c.merges.length ≤ 3 ∧ ∀ x ∈ c.merges, WhOk x
  changes : c.changes.length ≤ 30 ∧ ∀ x ∈ c.changes, ChOk x

end Go.Proofs.YtepgoppgblfjbaaGreatDoor

/- A region that asks the tape for its order: operations that only read, and behind them such as write, which need not wait for all of them. -/
namespace Go.Proofs.YtepgoppgblfjbaaGreatDoor
open Go.RowKit

section
variable {P : Program} {md : Region.Mode} {ops : Array Oper} {C : World → Prop}

def NoQ : Exit → Act → World → Prop := fun _ _ _ => False

theorem noQ_lets : ¬ LetsOut NoQ := fun ⟨_, _, h⟩ => h

/-- Whatever order comes up, the class is kept. -/
def AnyC (P : Program) (md : Region.Mode) (ops : Array Oper) (C : World → Prop) (R : Act → World → Prop) : Nat → Array Bool → Act → World → Prop
  | 0, listed, a, w => Region.ready md ops listed = [] ∧ R a w
  | f + 1, listed, a, w => Region.ready md ops listed ≠ [] ∧ ∀ i ∈ Region.ready md ops listed, wpOp P ops NoQ i (fun a' w' => C w' ∧ AnyC P md ops C R f (listed.setIfInBounds i true) a' w') a w

theorem upon_noQ {Q : Exit → Act → World → Prop} {o : Oper} {a : Act} {K K' : Act → World → Prop} (h : ∀ a w, K a w → K' a w) {r : Result Next} (hh : o.upon P a K NoQ r) : o.upon P a K' Q r := by
  cases r with
  | ok n w' =>
    cases n <;> simp only [Oper.upon] at hh ⊢
    case value u => exact h _ _ hh
    case skip => exact h _ _ hh
    case defer d => exact h _ _ hh
    case enter f args =>
      refine Calls.mono hh fun e w'' he => ?_
      cases e with
      | returned u => exact h _ _ he
      | panicked c => exact False.elim he
      | outgrown => exact (noQ_lets he).elim
    case row row args => exact Rows.mono hh fun u w'' he => h _ _ he
  | halt x w' =>
    cases x <;> simp only [Oper.upon] at hh ⊢
    case panic u => exact False.elim hh

theorem wpOp_noQ {Q : Exit → Act → World → Prop} {i : Nat} {a : Act} {w : World} {K K' : Act → World → Prop} (h : ∀ a w, K a w → K' a w) (hh : wpOp P ops NoQ i K a w) : wpOp P ops Q i K' a w := by
  unfold wpOp at *
  split
  · exact h _ _ (by simpa [*] using hh)
  · rename_i o ho
    simp only [ho] at hh
    split
    · rename_i hw
      simp only [hw, if_true] at hh
      rcases hh with hh | ⟨_, hl⟩
      · exact .inl (upon_noQ h hh)
      · exact (noQ_lets hl).elim
    · rename_i hw
      simp only [hw] at hh
      exact h _ _ hh

theorem AnyC.any {R : Act → World → Prop} {Q : Exit → Act → World → Prop} (hR : ∀ a w, R a w → Q .normal a w) : ∀ (f : Nat) (listed : Array Bool) (a : Act) (w : World), AnyC P md ops C R f listed a w → wpAny P md ops Q f listed a w
  | 0, _, _, _, h => ⟨h.1, hR _ _ h.2⟩
  | f + 1, _, _, _, h => ⟨fun e => absurd e h.1, fun i hi => wpOp_noQ (fun a' w' hk => AnyC.any hR f _ a' w' hk.2) (h.2 i hi)⟩

/-- In every world of the class the operation gives this value, and nothing else happens. -/
def ValIn (P : Program) (ops : Array Oper) (C : World → Prop) (o : Oper) (v : Value) (a : Act) : Prop :=
  Region.wanted o (yielded ops a.tmps) = true ∧ ∀ w, C w → (execOp a.eval o).run P w = .ok (.value v) w

theorem ValIn.of_same {o : Oper} {v : Value} {a a' : Act} (hy : ValIn P ops C o v a) (he : execOp a'.eval o = execOp a.eval o)
    (hw : Region.wanted o (yielded ops a'.tmps) = Region.wanted o (yielded ops a.tmps)) : ValIn P ops C o v a' := by
  unfold ValIn at *
  rw [he, hw]
  exact hy

theorem ValIn.op {i : Nat} {o : Oper} {v : Value} {a : Act} {w : World} {Q : Exit → Act → World → Prop} {K : Act → World → Prop} (hi : ops[i]? = some o) (hy : ValIn P ops C o v a) (hC : C w) (h : K (a.put o.dst v) w) : wpOp P ops Q i K a w := by
  unfold wpOp
  simp only [hi, hy.1, if_true]
  refine .inl ?_
  unfold Oper.wp
  rw [hy.2 w hC]
  exact h

theorem putC {j : Nat} {oi oj : Oper} {v : Value} (hj : ops[j]? = some oj) (hap : oi.apart ops oj = true)
    (hsi : ∀ cs b, oi.op ≠ .select cs b) (hsj : ∀ cs b, oj.op ≠ .select cs b) {K : Act → World → Prop} {a : Act} {w : World}
    (hy : ValIn P ops C oi v a) (h : wpOp P ops NoQ j K (a.put oi.dst v) w) :
    wpOp P ops NoQ j (fun a' w' => ValIn P ops C oi v a' ∧ K (a'.put oi.dst v) w') a w := by
  obtain ⟨h1, h2, h3⟩ := Oper.apart_spec hap
  have keep : ∀ (a : Act), ValIn P ops C oi v a → ∀ u, ValIn P ops C oi v (a.put oj.dst u) := fun a hy u =>
    hy.of_same (execOp_put oi hsi a oj.dst u h3) (wanted_put oi a oj.dst u h3)
  have keepD : ∀ d, ValIn P ops C oi v { a with defers := d :: a.defers } := fun d => hy.of_same rfl rfl
  unfold wpOp at *
  simp only [hj] at *
  rw [wanted_put oj a oi.dst v h1] at h
  split
  · rename_i hw
    simp only [hw, if_true] at h
    rcases h with h | ⟨_, hl⟩
    case inr => exact (noQ_lets hl).elim
    refine .inl ?_
    unfold Oper.wp at *
    rw [execOp_put oj hsj a oi.dst v h1] at h
    generalize (execOp a.eval oj).run P w = r at *
    cases r with
    | ok n w' =>
      cases n <;> simp only [Oper.upon] at h ⊢
      case value u => exact ⟨keep a hy u, by rw [← Act.put_comm a v u h2]; exact h⟩
      case skip => exact ⟨keep a hy _, by rw [← Act.put_comm a v undef h2]; exact h⟩
      case defer d =>
        refine ⟨keep _ (keepD d) _, ?_⟩
        rw [← Act.put_comm _ v undef h2, ← Act.put_defers]
        exact h
      case enter f args =>
        refine Calls.mono h fun e w'' he => ?_
        cases e with
        | returned u => exact ⟨keep a hy u, by rw [← Act.put_comm a v u h2]; exact he⟩
        | panicked c => exact False.elim he
        | outgrown => exact he
      case row row args => exact Rows.mono h fun u w'' he => ⟨keep a hy u, by rw [← Act.put_comm a v u h2]; exact he⟩
    | halt x w' =>
      cases x <;> simp only [Oper.upon] at h ⊢
      case panic u => exact False.elim h
  · rename_i hw
    simp only [hw] at h
    exact ⟨keep a hy _, by rw [← Act.put_comm a v undef h2]; exact h⟩

theorem AnyC.first {R : Act → World → Prop} {i : Nat} {oi : Oper} {v : Value} (hi : ops[i]? = some oi) (hsel : ∀ (j : Nat) (o : Oper) cs b, ops[j]? = some o → o.op ≠ .select cs b) :
    ∀ (fuel : Nat) (listed : Array Bool) (a : Act) (w : World), C w →
      (∀ j oj, ops[j]? = some oj → j ≠ i → listed.getD j true = false → (∀ e ∈ oj.after, Region.binds md e = true → e.on ≠ i) → oi.apart ops oj = true) →
      i ∈ Region.ready md ops listed → ValIn P ops C oi v a →
      AnyC P md ops C R fuel (listed.setIfInBounds i true) (a.put oi.dst v) w → AnyC P md ops C R (fuel + 1) listed a w := by
  intro fuel
  induction fuel with
  | zero =>
    intro listed a w hC _ hr hy H
    refine ⟨fun h => (by rw [h] at hr; cases hr), fun j hj => ?_⟩
    by_cases hji : j = i
    · subst hji; exact hy.op hi hC ⟨hC, H⟩
    · have := ready_mono hj hji
      rw [H.1] at this
      cases this
  | succ fuel ih =>
    intro listed a w hC hfree hr hy H
    refine ⟨fun h => (by rw [h] at hr; cases hr), fun j hj => ?_⟩
    by_cases hji : j = i
    · subst hji; exact hy.op hi hC ⟨hC, H⟩
    · have h1 := H.2 j (ready_mono hj hji)
      obtain ⟨hjun, oj, hoj, hall⟩ := mem_ready.1 hj
      have hnot : ∀ e ∈ oj.after, Region.binds md e = true → e.on ≠ i := fun e he hb heq => by
        have h1 := hall e he hb
        have h0 := (mem_ready.1 hr).1
        rw [heq] at h1
        rcases Nat.lt_or_ge i listed.size with h' | h'
        · simp [h'] at h0 h1; rw [h0] at h1; cases h1
        · simp [Array.getElem?_eq_none h'] at h1
      have h2 := putC hoj (hfree j oj hoj hji hjun hnot) (fun cs b => hsel i oi cs b hi) (fun cs b => hsel j oj cs b hoj) hy h1
      have hfree' : ∀ k ok, ops[k]? = some ok → k ≠ i → (listed.setIfInBounds j true).getD k true = false →
          (∀ e ∈ ok.after, Region.binds md e = true → e.on ≠ i) → oi.apart ops ok = true := fun k ok hk hki hun hno => by
        refine hfree k ok hk hki ?_ hno
        by_cases hjk : j = k
        · subst hjk; exact hjun
        · rw [getD_set_ne true hjk] at hun; exact hun
      refine wpOp_noQ (fun a' w' h3 => ⟨h3.2.1, ih (listed.setIfInBounds j true) a' w' h3.2.1 hfree' (ready_mono hr (Ne.symm hji)) h3.1 ?_⟩) h2
      rw [Array.setIfInBounds_comm _ _ hji]
      exact h3.2.2

/-- The operations that only read, one behind the other. -/
def HeadC (P : Program) (ops : Array Oper) (C : World → Prop) (K : Act → Prop) : List Oper → Act → Prop
  | [], a => K a
  | o :: rest, a => ∃ v, ValIn P ops C o v a ∧ HeadC P ops C K rest (a.put o.dst v)

/-- Those behind them, one behind the other: each keeps the class. -/
def SeqC (P : Program) (ops : Array Oper) (C : World → Prop) (R : Act → World → Prop) : List Oper → Act → World → Prop
  | [], a, w => R a w
  | o :: rest, a, w => wpList P ops (fun x a' w' => x = .normal ∧ C w' ∧ SeqC P ops C R rest a' w') [o] a w

def lexMid (md : Region.Mode) (ops : Array Oper) (n : Nat) : Nat → Nat → Array Bool → Bool
  | 0, _, listed => (Region.ready md ops listed).isEmpty
  | f + 1, k, listed => (if k < n then (Region.ready md ops listed).contains k && Region.free md ops listed k else Region.ready md ops listed == [k]) && lexMid md ops n f (k + 1) (listed.setIfInBounds k true)

theorem upon_toNoQ {Q : Exit → Act → World → Prop} (hQ : ∀ e a w, e ≠ .normal → ¬ Q e a w) {o : Oper} {a : Act} {K : Act → World → Prop} {r : Result Next} (hh : o.upon P a K Q r) : o.upon P a K NoQ r := by
  have hl : ¬ LetsOut Q := fun ⟨a, w, h⟩ => hQ _ a w (by intro e; cases e) h
  cases r with
  | ok n w' =>
    cases n <;> simp only [Oper.upon] at hh ⊢
    case value u => exact hh
    case skip => exact hh
    case defer d => exact hh
    case enter f args =>
      refine Calls.mono hh fun e w'' he => ?_
      cases e with
      | returned u => exact he
      | panicked c => exact (hQ _ _ _ (by intro e; cases e) he).elim
      | outgrown => exact (hl he).elim
    case row row args => exact hh
  | halt x w' =>
    cases x <;> simp only [Oper.upon] at hh ⊢
    case panic u => exact (hQ _ _ _ (by intro e; cases e) hh).elim

theorem list_op {Q : Exit → Act → World → Prop} (hQ : ∀ e a w, e ≠ .normal → ¬ Q e a w) {k : Nat} {o : Oper} {a : Act} {w : World} (hk : ops[k]? = some o) (h : wpList P ops Q [o] a w) : wpOp P ops NoQ k (fun a' w' => Q .normal a' w') a w := by
  have hl : ¬ LetsOut Q := fun ⟨a, w, h⟩ => hQ _ a w (by intro e; cases e) h
  unfold wpList at h
  unfold wpOp
  simp only [hk]
  split
  · rename_i hw
    simp only [hw, if_true] at h
    rcases h with h | ⟨_, h⟩
    · exact .inl (upon_toNoQ hQ h)
    · exact (hl h).elim
  · rename_i hw
    simp only [hw] at h
    exact h

theorem AnyC.lex {R : Act → World → Prop} (hs : Region.noSelect ops = true) (n : Nat) (w : World) (hC : C w) : ∀ (l : List Oper) (r : List Oper) (k : Nat) (listed : Array Bool) (a : Act), k + l.length = n → (∀ j, (l ++ r)[j]? = ops[k + j]?) →
    lexMid md ops n (l.length + r.length) k listed = true → HeadC P ops C (fun a' => SeqC P ops C R r a' w) l a → AnyC P md ops C R (l.length + r.length) listed a w
  | [], r, k, listed, a, hn, hl, hB, h => by
    have hn' : n ≤ k := by simp at hn; omega
    have h' : SeqC P ops C R r a w := h
    rw [List.length_nil, Nat.zero_add] at hB ⊢
    clear h hn
    induction r generalizing k listed a w with
    | nil =>
      simp only [List.length_nil, lexMid] at hB
      exact ⟨by simpa using hB, h'⟩
    | cons o r ih =>
      have h0 : ops[k]? = some o := by simpa using (hl 0).symm
      simp only [List.length_cons, lexMid, Bool.and_eq_true] at hB
      rw [if_neg (by omega), beq_iff_eq] at hB
      obtain ⟨hr, hB2⟩ := hB
      refine ⟨fun e => (by rw [hr] at e; cases e), fun i hi => ?_⟩
      rw [hr, List.mem_singleton] at hi
      subst hi
      refine wpOp_noQ (fun a' w' hk => ⟨hk.2.1, ih w' hk.2.1 (i + 1) _ a' (fun j => ?_) hB2 (by omega) hk.2.2⟩) (list_op (fun e _ _ he hq => he hq.1) h0 h')
      have := hl (j + 1)
      simpa [Nat.add_assoc, Nat.add_comm 1 j] using this
  | o :: l, r, k, listed, a, hn, hl, hB, h => by
    have h0 : ops[k]? = some o := by simpa using (hl 0).symm
    have e : (o :: l).length + r.length = (l.length + r.length) + 1 := by simp only [List.length_cons]; omega
    rw [e] at hB ⊢
    simp only [List.length_cons] at hn
    simp only [lexMid, Bool.and_eq_true] at hB
    rw [if_pos (by omega), Bool.and_eq_true] at hB
    obtain ⟨⟨hr, hf⟩, hB'⟩ := hB
    obtain ⟨v, hy, hK⟩ := h
    exact AnyC.first h0 (Region.noSelect_spec hs) (l.length + r.length) listed a w hC (Region.free_spec h0 hf) (by simpa using hr) hy
      (AnyC.lex hs n w hC l r (k + 1) _ _ (by omega) (fun j => by have := hl (j + 1); simpa [Nat.add_assoc, Nat.add_comm 1 j] using this) hB' hK)

def lexMidB (ops : Array Oper) (n : Nat) : Bool := Region.noSelect ops && decide (n ≤ ops.size) && lexMid .any ops n ops.size 0 (Array.replicate ops.size false)

theorem wp_region_mid {id : Nat} {Q : Exit → Act → World → Prop} {a : Act} {w : World} {l : List Oper} (n : Nat) (hm : P.follows .mixedOrders = true) (hB : lexMidB l.toArray n = true) (hC : C { w with drawn := w.drawn + 1 })
    (h : HeadC P l.toArray C (fun a' => SeqC P l.toArray C (fun a'' w'' => Q .normal a'' w'') (l.drop n) a' { w with drawn := w.drawn + 1 }) (l.take n) a) : (Code.region id l.toArray true).wp P Q a w := by
  simp only [lexMidB, Bool.and_eq_true, decide_eq_true_eq] at hB
  obtain ⟨⟨hs, hn⟩, hlex⟩ := hB
  have hn' : n ≤ l.length := by simpa using hn
  have e1 : (l.take n).length = n := by simp; omega
  have e2 : (l.drop n).length = l.toArray.size - n := by simp
  have e3 : (l.take n).length + (l.drop n).length = l.toArray.size := by rw [e1, e2]; simp; omega
  refine wp_region_any hm ?_
  have H := AnyC.lex (md := .any) (R := fun a'' w'' => Q .normal a'' w'') hs n { w with drawn := w.drawn + 1 } hC (l.take n) (l.drop n) 0 (Array.replicate l.toArray.size false) a (by rw [e1]; omega) (fun j => by simp) (by rw [e3]; exact hlex) h
  rw [e3] at H
  exact AnyC.any (fun a w h => h) _ _ _ _ H

theorem headC_nil {K : Act → Prop} {a : Act} (h : K a) : HeadC P ops C K [] a := h

theorem headC_val {K : Act → Prop} {a : Act} {o : Oper} {rest : List Oper} (hg : o.guard = none) (v : Value) (hrun : ∀ w, C w → (execOp a.eval o).run P w = .ok (.value v) w) (h : HeadC P ops C K rest (a.put o.dst v)) : HeadC P ops C K (o :: rest) a :=
  ⟨v, ⟨by simp [Region.wanted, hg], hrun⟩, h⟩

theorem seqC_enter {R : Act → World → Prop} {a : Act} {w : World} {o : Oper} {rest : List Oper} (hg : o.guard = none) (f : Nat) (args : Array Value) (hrun : (execOp a.eval o).run P w = .ok (.enter f args) w)
    (hcall : Calls P f args w fun e w' => ∃ v, e = .returned v ∧ C w' ∧ SeqC P ops C R rest (a.put o.dst v) w') : SeqC P ops C R (o :: rest) a w := by
  unfold SeqC wpList
  have hw : Region.wanted o (yielded ops a.tmps) = true := by simp [Region.wanted, hg]
  rw [if_pos hw]
  refine .inl ?_
  unfold Oper.wp
  rw [hrun]
  refine Calls.mono hcall fun e w' he => ?_
  obtain ⟨v, rfl, h1, h2⟩ := he
  exact ⟨rfl, h1, h2⟩

theorem seqC_val {R : Act → World → Prop} {a : Act} {w : World} {o : Oper} {rest : List Oper} (hg : o.guard = none) (v : Value) (hrun : (execOp a.eval o).run P w = .ok (.value v) w) (hC : C w)
    (h : SeqC P ops C R rest (a.put o.dst v) w) : SeqC P ops C R (o :: rest) a w := by
  unfold SeqC wpList
  have hw : Region.wanted o (yielded ops a.tmps) = true := by simp [Region.wanted, hg]
  rw [if_pos hw]
  refine .inl ?_
  unfold Oper.wp
  rw [hrun]
  exact ⟨rfl, hC, h⟩

end
end Go.Proofs.YtepgoppgblfjbaaGreatDoor
