import Derived.Test.YtepgoppgblfjbaaGreatDoorGw12
namespace Go.Proofs.YtepgoppgblfjbaaGreatDoor
open Go.RowKit

mutual
def Tr.count : Tr → Nat
  | .mk _ ws => 1 + Trs.count ws
def Trs.count : Trs → Nat
  | .nil => 0
  | .cons t r => Tr.count t + Trs.count r
end

def AT (KK : List Int) (x : Tr) : Prop := ∀ (d p m o c r t n q : Nat) (bs : List Nat) (g : Objs) (w : World), Dr w d p m → Hi w m o c r t → MpS w o n (objF g) → IsTr KK w x q bs → (∀ k ∈ bs, k ≠ o) → d ≠ o → m ≠ o → n + x.count ≤ maxLen →
  Calls Tryz.prog 231 #[.pointer (some ⟨d, 0, none⟩), .pointer (some ⟨q, 0, none⟩)] w fun e w' => e = .returned (.tuple #[]) ∧ MpS w' o (n + x.count) (objF (Pd.addTr KK x g)) ∧ Kx (Only o) w w'

def ATs (KK : List Int) : Trs → Prop
  | .nil => True
  | .cons t r => AT KK t ∧ ATs KK r

theorem idK_len (KK : List Int) (kind : Nat) (x : List UInt8) : (Sh.idK KK kind x).length = 64 := by unfold Sh.idK; rw [hex_len, ofK_len]

theorem addP {KK : List Int} {d p m o c r t n : Nat} {g : Objs} {kind : Nat} {x : List UInt8} {w : World} (hd : Dr w d p m) (hm : Hi w m o c r t) (hf : MpS w o n (objF g)) (hn : n < maxLen) :
    Calls Tryz.prog 300 #[.pointer (some ⟨d, 0, none⟩), objV kind x (Sh.idK KK kind x)] w fun e w' => e = .returned (.tuple #[]) ∧ MpS w' o (n + 1) (objF (Pd.add KK kind x g)) ∧ Kx (Only o) w w' := by
  have := add_any d p m o c r t n (objF g) kind x (Sh.idK KK kind x) w hd hm hf hn (by rw [idK_len]; decide)
  unfold Pd.add
  rw [objF_upd]
  exact this

set_option maxHeartbeats 1600000 in
set_option maxRecDepth 100000 in
theorem at_step (KK : List Int) (x : List UInt8) (ws : Trs) (ih : ATs KK ws) : AT KK (.mk x ws) := by
  intro d p m o c r t n q bs g w hd hm hf hT hbs hdo hmo hn
  unfold IsTr at hT
  obtain ⟨v, ps, hq, hps, hws, hqb, hvb⟩ := hT
  have hqo : q ≠ o := hbs q hqb
  have hn1 : n + 1 + Trs.count ws ≤ maxLen := by have : Tr.count (.mk x ws) = 1 + Trs.count ws := rfl; omega
  have HE : Hid (Pd.addTr KK (.mk x ws) g = Pd.addTrs KK ws (Pd.add KK 2 x g) ∧ n + Tr.count (.mk x ws) = n + 1 + Trs.count ws) := by
    refine ⟨rfl, ?_⟩
    show n + (1 + Trs.count ws) = _
    omega
  generalize n + Tr.count (.mk x ws) = N at *
  generalize Pd.addTr KK (.mk x ws) g = G at *
  have hb0 : w.cell? ⟨q, 0, none⟩ = some (.int .i64 2) := Cb.cell hq 0
  have hb1 : w.cell? ⟨q, 1, none⟩ = some (.string ⟨x.toArray⟩) := Cb.cell hq 1
  have hb2 : w.cell? ⟨q, 2, none⟩ = some (.string ⟨(Sh.idK KK 2 x).toArray⟩) := Cb.cell hq 2
  have hc := addP (KK := KK) (kind := 2) (x := x) hd hm hf (by omega)
  obtain ⟨a, cp, hv⟩ := hps.slice
  rw [List.length_map] at hv
  unfold objV at hc
  generalize Pd.add KK 2 x g = g1 at *
  generalize (Sh.idK KK 2 x) = i2 at *
  go_enter Tryz.func231, Tryz.ntmps231
  go_wp2_with fail
  refine hc.mono ?_
  rintro _ w2 ⟨rfl, hf2, hk2⟩
  have hX : ¬ Only o q := by unfold Only; exact hqo
  have hd2 := hd.kept hk2 (by unfold Only; exact hdo)
  have hm2 := hm.kept hk2 (by unfold Only; exact hmo)
  have hq2 := hq.kept hk2 hX
  have hps2 := hps.kept hk2 (fun k e => by unfold Only; exact hbs k (hvb k e))
  have hws2 := IsTrs.kept hk2 hws (fun k e => by unfold Only; exact hbs k e)
  have hb3 : w2.cell? ⟨q, 3, none⟩ = some (.slice a ps.length cp) := by rw [← hv]; exact Cb.cell hq2 3
  have hvo : ∀ k, (Value.slice a ps.length cp).ownBlock = some k → k ≠ o := fun k e => hbs k (hvb k (by rw [hv]; exact e))
  have hmx : maxLen = 9223372036854775807 := rfl
  have hpm : (ps.length : Int) ≤ 9223372036854775807 := by
    rcases hps2 with ⟨_, h⟩ | ⟨_, _, _, _, _, _, _, _, h1, h2, _⟩
    · have : ps.length = 0 := by simpa using congrArg List.length h
      omega
    · rw [List.length_map] at h1; omega
  rw [hv] at hps2
  clear hb0 hb1 hb2 hc hd hm hq hps hws hf hq2 hv hvb hX
  go_wp2
  go_loopw [17] (fun iv w' => ∃ (k : Nat) (rs : Trs) (n' : Nat) (g' : Objs), iv = .int .i64 k ∧ k ≤ ps.length ∧ Kx (Only o) w2 w' ∧ IsTrs KK w' rs (ps.drop k) bs ∧ ATs KK rs ∧ MpS w' o n' (objF g') ∧ n' + Trs.count rs = n + 1 + Trs.count ws ∧ Pd.addTrs KK rs g' = Pd.addTrs KK ws g1) (fun iv _ => ps.length - (intOf iv).toNat)
  case atStart => exact ⟨0, ws, n + 1, g1, rfl, by omega, Kx.refl _ _, hws2, ih, hf2, rfl, rfl⟩
  case round =>
    obtain ⟨k, rs, n', g', rfl, hk, hkx, hrs, hats, hmp, hcnt, heq⟩ := hrel
    by_cases hlt : k < ps.length
    · have hlt2 : (k : Int) < (ps.length : Int) := by omega
      obtain ⟨gb, cap, hsl, _, _, hcc, hcell⟩ := (PtrRow.kept hps2 hkx (fun k e => by unfold Only; exact hvo k e)).cell (by intro e; have h0 := congrArg List.length e; rw [List.length_map] at h0; rw [h0] at hlt; exact absurd hlt (Nat.not_lt_zero _))
      rw [List.length_map] at hsl
      cases hsl
      have hck := hcell k (.pointer (some ⟨ps[k], 0, none⟩)) (by simp [hlt])
      rw [List.drop_eq_getElem_cons hlt] at hrs
      cases rs with
      | nil => unfold IsTrs at hrs; cases hrs
      | cons t1 rr =>
        unfold IsTrs at hrs
        obtain ⟨q1, ps1, he, h1, h2⟩ := hrs
        cases he
        have hcn : n' + (Tr.count t1 + Trs.count rr) = n + 1 + Trs.count ws := hcnt
        have heq' : Pd.addTrs KK rr (Pd.addTr KK t1 g') = Pd.addTrs KK ws g1 := heq
        have hcall := hats.1 d p m o c r t n' ps[k] bs g' _ (hd2.kept hkx (by unfold Only; exact hdo)) (hm2.kept hkx (by unfold Only; exact hmo)) hmp h1 hbs hdo hmo (by omega)
        have HR : Hid (ATs KK rr) := hats.2
        have HC : Hid (n' + Tr.count t1 + Trs.count rr = n + 1 + Trs.count ws) := by show _ = _; omega
        have HQ : Hid (Pd.addTrs KK rr (Pd.addTr KK t1 g') = Pd.addTrs KK ws g1) := heq'
        clear hats heq heq' h1 hcell hcn hcnt
        generalize Pd.addTr KK t1 g' = g2 at *
        generalize ps[k] = qk at *
        go_wp2_with fail
        refine hcall.mono ?_
        rintro _ w3 ⟨rfl, hf3, hk3⟩
        have hk4 := hkx.trans hk3
        have h3 := IsTrs.kept hk3 h2 (fun k e => by unfold Only; exact hbs k e)
        clear hcall h2 hck
        go_wp2
        go_roundw
        case rel => exact ⟨k + 1, rr, n' + Tr.count t1, g2, by go_num, hlt, hk4, h3, HR.out, hf3, HC.out, HQ.out⟩
        case measure => simp [intOf]; omega
    · obtain rfl : k = ps.length := by omega
      have hlt2 : ¬ (ps.length : Int) < (ps.length : Int) := by omega
      rw [List.drop_of_length_le (Nat.le_refl _)] at hrs
      cases rs with
      | cons t1 rr => unfold IsTrs at hrs; obtain ⟨_, _, he, _⟩ := hrs; cases he
      | nil =>
        have hcn : n' = n + 1 + Trs.count ws := hcnt
        have heq' : g' = Pd.addTrs KK ws g1 := heq
        have hk4 := hk2.trans hkx
        obtain ⟨e1, e2⟩ := HE.out
        rw [← e2] at hcn
        rw [← e1] at heq'
        subst hcn heq'
        clear HE heq hcnt e1 e2
        go_wp2
        go_end0
        exact ⟨rfl, hmp, hk4⟩

mutual
theorem at_all (KK : List Int) : ∀ x : Tr, AT KK x
  | .mk c ws => at_step KK c ws (ats_all KK ws)
theorem ats_all (KK : List Int) : ∀ x : Trs, ATs KK x
  | .nil => trivial
  | .cons t r => ⟨at_all KK t, ats_all KK r⟩
end

set_option maxHeartbeats 800000 in
theorem copyC_any (a b n m : Nat) (f g : List UInt8 → Option Value) (w : World) (hf : MpS w a n f) (hg : MpS w b m g) (hab : a ≠ b) (hn : n + m ≤ maxLen) :
    Calls Tryz.prog 125 #[.map (some a), .map (some b)] w fun e w' => e = .returned (.tuple #[]) ∧ MpS w' a (n + m) (orE g f) ∧ Kx (Only a) w w' := by
  have hla := hf.lt
  go_enter Tryz.func125, Tryz.ntmps125
  go_wp2_with (first | (at_range; refine wpList_rangeS rfl _ 147 rfl 101 (by kernel_rfl) (by kernel_rfl) b m g rfl hg ?_; intro w0 cnt0 hc0 hr0 hk0) | go_in)
  go_frame
  go_loopw [] (fun wr => ∃ (left : List UInt8 → Bool) (cnt n' : Nat), RngS Tryz.prog 9 wr b w.heap.size m g left cnt ∧ MpS wr a n' (over g f left) ∧ n' + cnt ≤ n + m ∧ Kx (Only a) w wr) (fun wr => wr.rangeLeft b w.heap.size)
  case atStart =>
    refine ⟨_, cnt0, n, hr0, ?_, by omega, hk0.mono (fun _ _ h => h.elim)⟩
    rw [over_start]
    exact hf.kept hk0 id
  case round =>
    obtain ⟨left, cnt, n', hr, hm, hle, hk⟩ := hrel
    go_wp2_with (first | (at_next; refine wpList_nextS rfl _ rfl (by kernel_rfl) b w.heap.size m g left cnt rfl hr ?_ ?_) | go_in)
    · intro hl
      rw [over_end g f left hl] at hm
      have hm' := hm.mono (m := n + m) (by omega)
      clear hm
      go_wp2
      go_end0
      exact ⟨rfl, hm', hk⟩
    · intro k v w2 cnt2 hkl hlk hgk hr2 hlt hk2 hs2 hen
      have hne : a ≠ w.heap.size := by omega
      have hm2 := hm.kept hk2 (by unfold Only; exact hne)
      have hk3 : Kx (Only a) w w2 := hk.andThen hk2 (fun j hj e => by unfold Only at e; omega)
      have hst := over_step g f left k v hgk
      clear hs2 hm hgk hlk hk2
      go_wp2_with (first | (refine wpList_putS rfl _ _ _ 147 rfl 101 (by kernel_rfl) (by kernel_rfl) a n' (over g f left) rfl hm2 (by omega) k rfl hkl v rfl ?_; intro w3 hm3 hk4) | go_in)
      rw [hst] at hm3
      have hr3 := hr2.kept hk4 (by unfold Only; exact Ne.symm hab) (by unfold Only; exact Ne.symm hne)
      have hk5 := hk3.trans hk4
      simp only [Act.put]
      go_roundw
      case rel => exact ⟨_, cnt2, n' + 1, hr3, hm3, by omega, hk5⟩
      case measure => rw [hr3.left_eq, hr.left_eq]; exact hlt

set_option maxHeartbeats 800000 in
theorem copyT_any (a b n m : Nat) (f g : List UInt8 → Option Value) (w : World) (hf : MpS w a n f) (hg : MpS w b m g) (hab : a ≠ b) (hn : n + m ≤ maxLen) :
    Calls Tryz.prog 126 #[.map (some a), .map (some b)] w fun e w' => e = .returned (.tuple #[]) ∧ MpS w' a (n + m) (orE g f) ∧ Kx (Only a) w w' := by
  have hla := hf.lt
  go_enter Tryz.func126, Tryz.ntmps126
  go_wp2_with (first | (at_range; refine wpList_rangeS rfl _ 148 rfl 185 (by kernel_rfl) (by kernel_rfl) b m g rfl hg ?_; intro w0 cnt0 hc0 hr0 hk0) | go_in)
  go_frame
  go_loopw [] (fun wr => ∃ (left : List UInt8 → Bool) (cnt n' : Nat), RngS Tryz.prog 9 wr b w.heap.size m g left cnt ∧ MpS wr a n' (over g f left) ∧ n' + cnt ≤ n + m ∧ Kx (Only a) w wr) (fun wr => wr.rangeLeft b w.heap.size)
  case atStart =>
    refine ⟨_, cnt0, n, hr0, ?_, by omega, hk0.mono (fun _ _ h => h.elim)⟩
    rw [over_start]
    exact hf.kept hk0 id
  case round =>
    obtain ⟨left, cnt, n', hr, hm, hle, hk⟩ := hrel
    go_wp2_with (first | (at_next; refine wpList_nextS rfl _ rfl (by kernel_rfl) b w.heap.size m g left cnt rfl hr ?_ ?_) | go_in)
    · intro hl
      rw [over_end g f left hl] at hm
      have hm' := hm.mono (m := n + m) (by omega)
      clear hm
      go_wp2
      go_end0
      exact ⟨rfl, hm', hk⟩
    · intro k v w2 cnt2 hkl hlk hgk hr2 hlt hk2 hs2 hen
      have hne : a ≠ w.heap.size := by omega
      have hm2 := hm.kept hk2 (by unfold Only; exact hne)
      have hk3 : Kx (Only a) w w2 := hk.andThen hk2 (fun j hj e => by unfold Only at e; omega)
      have hst := over_step g f left k v hgk
      clear hs2 hm hgk hlk hk2
      go_wp2_with (first | (refine wpList_putS rfl _ _ _ 148 rfl 185 (by kernel_rfl) (by kernel_rfl) a n' (over g f left) rfl hm2 (by omega) k rfl hkl v rfl ?_; intro w3 hm3 hk4) | go_in)
      rw [hst] at hm3
      have hr3 := hr2.kept hk4 (by unfold Only; exact Ne.symm hab) (by unfold Only; exact Ne.symm hne)
      have hk5 := hk3.trans hk4
      simp only [Act.put]
      go_roundw
      case rel => exact ⟨_, cnt2, n' + 1, hr3, hm3, by omega, hk5⟩
      case measure => rw [hr3.left_eq, hr.left_eq]; exact hlt

set_option maxHeartbeats 800000 in
set_option maxRecDepth 100000 in
theorem copyO_any (a b n m : Nat) (f : List UInt8 → Option Value) (go : Objs) (w : World) (hf : MpS w a n f) (hg : MpS w b m (objF go)) (hab : a ≠ b) (hn : n + m ≤ maxLen) :
    Calls Tryz.prog 124 #[.map (some a), .map (some b)] w fun e w' => e = .returned (.tuple #[]) ∧ MpS w' a (n + m) (orE (objF go) f) ∧ Kx (Only a) w w' := by
  have hla := hf.lt
  have hob : ∀ k v, objF go k = some v → ∃ x y z, v = .agg #[.int .i64 (x : Nat), .string ⟨y⟩, .string ⟨z⟩] := by
    intro k v h
    unfold objF at h
    obtain ⟨x, _, rfl⟩ := Option.map_eq_some_iff.1 h
    exact ⟨_, _, _, rfl⟩
  generalize objF go = g at *
  go_enter Tryz.func124, Tryz.ntmps124
  go_wp2_with (first | (at_range; refine wpList_rangeS rfl _ 146 rfl 105 (by kernel_rfl) (by kernel_rfl) b m g rfl hg ?_; intro w0 cnt0 hc0 hr0 hk0) | go_in)
  go_frame
  go_loopw [] (fun wr => ∃ (left : List UInt8 → Bool) (cnt n' : Nat), RngS Tryz.prog 9 wr b w.heap.size m g left cnt ∧ MpS wr a n' (over g f left) ∧ n' + cnt ≤ n + m ∧ Kx (Only a) w wr) (fun wr => wr.rangeLeft b w.heap.size)
  case atStart =>
    refine ⟨_, cnt0, n, hr0, ?_, by omega, hk0.mono (fun _ _ h => h.elim)⟩
    rw [over_start]
    exact hf.kept hk0 id
  case round =>
    obtain ⟨left, cnt, n', hr, hm, hle, hk⟩ := hrel
    go_wp2_with (first | (at_next; refine wpList_nextS rfl _ rfl (by kernel_rfl) b w.heap.size m g left cnt rfl hr ?_ ?_) | go_in)
    · intro hl
      rw [over_end g f left hl] at hm
      have hm' := hm.mono (m := n + m) (by omega)
      clear hm
      go_wp2
      go_end0
      exact ⟨rfl, hm', hk⟩
    · intro k v w2 cnt2 hkl hlk hgk hr2 hlt hk2 hs2 hen
      have hne : a ≠ w.heap.size := by omega
      have hm2 := hm.kept hk2 (by unfold Only; exact hne)
      have hk3 : Kx (Only a) w w2 := hk.andThen hk2 (fun j hj e => by unfold Only at e; omega)
      have hst := over_step g f left k v hgk
      obtain ⟨x, y, z, rfl⟩ := hob k v hgk
      clear hs2 hm hgk hlk hk2
      have hA := (Kx.refl (fun _ => False) w2).alloc (.cells #[.int .i64 (x : Nat), .string ⟨y⟩, .string ⟨z⟩] 105)
      have hmA := hm2.kept hA id
      have hrA := hr2.kept hA id id
      have hkA := hk3.trans (hA.mono (fun _ _ h => h.elim))
      clear hm2 hr2 hk3 hA
      go_wp2_with (first | (refine wpList_putS rfl _ _ _ 146 rfl 105 (by kernel_rfl) (by kernel_rfl) a n' (over g f left) rfl hmA (by omega) k rfl hkl (.agg #[.int .i64 (x : Nat), .string ⟨y⟩, .string ⟨z⟩]) rfl ?_; intro w3 hm3 hk4) | go_in)
      rw [hst] at hm3
      have hr3 := hrA.kept hk4 (by unfold Only; exact Ne.symm hab) (by unfold Only; exact Ne.symm hne)
      have hk5 := hkA.trans hk4
      simp only [Act.put]
      go_roundw
      case rel => exact ⟨_, cnt2, n' + 1, hr3, hm3, by omega, hk5⟩
      case measure => rw [hr3.left_eq, hr.left_eq]; exact hlt

def refE (g f : List UInt8 → Option Value) : List UInt8 → Option Value := fun k => match g k with | some (.pointer none) => none | some v => some v | none => f k
def overR (g f : List UInt8 → Option Value) (left : List UInt8 → Bool) : List UInt8 → Option Value := fun k => if (g k).isSome && !left k then refE g f k else f k

theorem overR_start (g f : List UInt8 → Option Value) : overR g f (fun k => (g k).isSome) = f := by
  funext k
  unfold overR
  cases h : g k <;> simp [h]
theorem overR_end (g f : List UInt8 → Option Value) (left : List UInt8 → Bool) (h : ∀ k, left k = false) : overR g f left = refE g f := by
  funext k
  unfold overR
  rw [h]
  cases hg : g k <;> simp [refE, hg]
theorem overR_put (g f : List UInt8 → Option Value) (left : List UInt8 → Bool) (k : List UInt8) (a : Addr) (h : g k = some (.pointer (some a))) : upd (overR g f left) k (some (.pointer (some a))) = overR g f (fun z => left z && !decide (z = k)) := by
  funext z
  unfold upd overR
  by_cases e : z = k
  · subst e
    simp [h, refE]
  · simp [e]
theorem overR_cut (g f : List UInt8 → Option Value) (left : List UInt8 → Bool) (k : List UInt8) (h : g k = some (.pointer none)) : upd (overR g f left) k none = overR g f (fun z => left z && !decide (z = k)) := by
  funext z
  unfold upd overR
  by_cases e : z = k
  · subst e
    simp [h, refE]
  · simp [e]

def Fo (o c r t : Nat) : Nat → Prop := fun k => k = o ∨ k = c ∨ k = r ∨ k = t

structure Apart (d p m po pc pr pt mo mc mr mt : Nat) : Prop where
  d : ¬ Fo po pc pr pt d
  p : ¬ Fo po pc pr pt p
  m : ¬ Fo po pc pr pt m
  mo : ¬ Fo po pc pr pt mo
  mc : ¬ Fo po pc pr pt mc
  mr : ¬ Fo po pc pr pt mr
  mt : ¬ Fo po pc pr pt mt
  pp : po ≠ pc ∧ po ≠ pr ∧ po ≠ pt ∧ pc ≠ pr ∧ pc ≠ pt ∧ pr ≠ pt

set_option maxHeartbeats 1600000 in
set_option maxRecDepth 100000 in
theorem keep_any (d p m po pc pr pt mo mc mr mt n n' : Nat) (f1 f2 f3 f4 g2 g3 g4 : List UInt8 → Option Value) (g1 : Objs) (w : World) (hd : Dr w d p m) (hp : Hi w p po pc pr pt) (hm : Hi w m mo mc mr mt)
    (h1 : MpS w po n f1) (k1 : MpS w mo n' (objF g1)) (h2 : MpS w pc n f2) (k2 : MpS w mc n' g2) (h3 : MpS w pr n f3) (k3 : MpS w mr n' g3) (h4 : MpS w pt n f4) (k4 : MpS w mt n' g4)
    (hg3 : ∀ k v, g3 k = some v → v = .pointer none ∨ ∃ a, v = .pointer (some a)) (hn : n + n' ≤ maxLen) (ha : Apart d p m po pc pr pt mo mc mr mt) :
    Calls Tryz.prog 82 #[.pointer (some ⟨d, 0, none⟩)] w fun e w' => e = .returned (.tuple #[]) ∧ MpS w' po (n + n') (orE (objF g1) f1) ∧ MpS w' pc (n + n') (orE g2 f2) ∧ MpS w' pr (n + n') (refE g3 f3) ∧ MpS w' pt (n + n') (orE g4 f4) ∧ Kx (Fo po pc pr pt) w w' := by
  obtain ⟨a1, a2, a3, a4, a5, a6⟩ := ha.pp
  go_enter Tryz.func82, Tryz.ntmps82
  go_wp2_with fail
  have hd0 := hd
  have hp0 := hp
  have hm0 := hm
  refine wp_region_quiet_tail (C := fun w' => Kx (fun _ => False) w w') 14 (by kernel_rfl) (by kernel_rfl) (Kx.refl _ _).drew ?_
  refine quiet_val rfl (.pointer (some ⟨d, 0, none⟩)) (fun w' hC => by go_simp) ?_
  refine quiet_val rfl (.pointer (some ⟨d, 0, none⟩)) (fun w' hC => by go_simp) ?_
  refine quiet_val rfl (.pointer (some ⟨d, 0, none⟩)) (fun w' hC => by go_simp) ?_
  refine quiet_val rfl (.pointer (some ⟨p, 0, none⟩)) (fun w' hC => by
    have hc0 : w'.cell? ⟨d, 0, none⟩ = some (.pointer (some ⟨p, 0, none⟩)) := Cb.cell (hd0.kept hC id) 0
    go_simp) ?_
  refine quiet_val rfl (.pointer (some ⟨p, 0, none⟩)) (fun w' hC => by go_simp) ?_
  refine quiet_val rfl (.pointer (some ⟨p, 0, none⟩)) (fun w' hC => by go_simp) ?_
  refine quiet_val rfl (.map (some po)) (fun w' hC => by
    have hc0 : w'.cell? ⟨p, 0, none⟩ = some (.map (some po)) := Cb.cell (hp0.kept hC id) 0
    go_simp) ?_
  refine quiet_val rfl (.pointer (some ⟨d, 0, none⟩)) (fun w' hC => by go_simp) ?_
  refine quiet_val rfl (.pointer (some ⟨d, 0, none⟩)) (fun w' hC => by go_simp) ?_
  refine quiet_val rfl (.pointer (some ⟨d, 1, none⟩)) (fun w' hC => by go_simp) ?_
  refine quiet_val rfl (.pointer (some ⟨m, 0, none⟩)) (fun w' hC => by
    have hc0 : w'.cell? ⟨d, 1, none⟩ = some (.pointer (some ⟨m, 0, none⟩)) := Cb.cell (hd0.kept hC id) 1
    go_simp) ?_
  refine quiet_val rfl (.pointer (some ⟨m, 0, none⟩)) (fun w' hC => by go_simp) ?_
  refine quiet_val rfl (.pointer (some ⟨m, 0, none⟩)) (fun w' hC => by go_simp) ?_
  refine quiet_val rfl (.map (some mo)) (fun w' hC => by
    have hc0 : w'.cell? ⟨m, 0, none⟩ = some (.map (some mo)) := Cb.cell (hm0.kept hC id) 0
    go_simp) ?_
  refine wpQuiet_nil (fun w' hC => ?_)
  simp only [Act.put, sI, sS, sZ, List.drop_succ_cons, List.drop_zero]
  have hcall := copyO_any po mo n n' f1 g1 w' (h1.kept hC id) (k1.kept hC id) (fun e => ha.mo (by rw [← e]; unfold Fo; simp)) hn
  go_wp2_with (go_at_call 124; refine hcall.mono ?_; rintro _ W1 ⟨rfl, q1, e1⟩)
  have x1 : Kx (Only po) w W1 := (hC.mono (fun _ _ h => h.elim)).trans e1
  clear hcall hC e1 w'
  have hd1 := hd0.kept x1 (fun e => ha.d (.inl e))
  have hp1 := hp0.kept x1 (fun e => ha.p (.inl e))
  have hm1 := hm0.kept x1 (fun e => ha.m (.inl e))
  have rpc1 := h2.kept x1 (by unfold Only; exact Ne.symm a1)
  have rpr1 := h3.kept x1 (by unfold Only; exact Ne.symm a2)
  have rpt1 := h4.kept x1 (by unfold Only; exact Ne.symm a3)
  have smc1 := k2.kept x1 (fun e => ha.mc (.inl e))
  have smr1 := k3.kept x1 (fun e => ha.mr (.inl e))
  have smt1 := k4.kept x1 (fun e => ha.mt (.inl e))
  refine wp_region_quiet_tail (C := fun w' => Kx (fun _ => False) W1 w') 14 (by kernel_rfl) (by kernel_rfl) (Kx.refl _ _).drew ?_
  refine quiet_val rfl (.pointer (some ⟨d, 0, none⟩)) (fun w' hC => by go_simp) ?_
  refine quiet_val rfl (.pointer (some ⟨d, 0, none⟩)) (fun w' hC => by go_simp) ?_
  refine quiet_val rfl (.pointer (some ⟨d, 0, none⟩)) (fun w' hC => by go_simp) ?_
  refine quiet_val rfl (.pointer (some ⟨p, 0, none⟩)) (fun w' hC => by
    have hc0 : w'.cell? ⟨d, 0, none⟩ = some (.pointer (some ⟨p, 0, none⟩)) := Cb.cell (hd1.kept hC id) 0
    go_simp) ?_
  refine quiet_val rfl (.pointer (some ⟨p, 0, none⟩)) (fun w' hC => by go_simp) ?_
  refine quiet_val rfl (.pointer (some ⟨p, 1, none⟩)) (fun w' hC => by go_simp) ?_
  refine quiet_val rfl (.map (some pc)) (fun w' hC => by
    have hc0 : w'.cell? ⟨p, 1, none⟩ = some (.map (some pc)) := Cb.cell (hp1.kept hC id) 1
    go_simp) ?_
  refine quiet_val rfl (.pointer (some ⟨d, 0, none⟩)) (fun w' hC => by go_simp) ?_
  refine quiet_val rfl (.pointer (some ⟨d, 0, none⟩)) (fun w' hC => by go_simp) ?_
  refine quiet_val rfl (.pointer (some ⟨d, 1, none⟩)) (fun w' hC => by go_simp) ?_
  refine quiet_val rfl (.pointer (some ⟨m, 0, none⟩)) (fun w' hC => by
    have hc0 : w'.cell? ⟨d, 1, none⟩ = some (.pointer (some ⟨m, 0, none⟩)) := Cb.cell (hd1.kept hC id) 1
    go_simp) ?_
  refine quiet_val rfl (.pointer (some ⟨m, 0, none⟩)) (fun w' hC => by go_simp) ?_
  refine quiet_val rfl (.pointer (some ⟨m, 1, none⟩)) (fun w' hC => by go_simp) ?_
  refine quiet_val rfl (.map (some mc)) (fun w' hC => by
    have hc0 : w'.cell? ⟨m, 1, none⟩ = some (.map (some mc)) := Cb.cell (hm1.kept hC id) 1
    go_simp) ?_
  refine wpQuiet_nil (fun w' hC => ?_)
  simp only [Act.put, sI, sS, sZ, List.drop_succ_cons, List.drop_zero]
  have hcall := copyC_any pc mc n n' f2 g2 w' (rpc1.kept hC id) (smc1.kept hC id) (fun e => ha.mc (by rw [← e]; unfold Fo; simp)) hn
  go_wp2_with (go_at_call 125; refine hcall.mono ?_; rintro _ W2 ⟨rfl, q2, e2⟩)
  have x2 : Kx (Only pc) W1 W2 := (hC.mono (fun _ _ h => h.elim)).trans e2
  clear hcall hC e2 w'
  have hd2 := hd1.kept x2 (fun e => ha.d (.inr (.inl e)))
  have hp2 := hp1.kept x2 (fun e => ha.p (.inr (.inl e)))
  have hm2 := hm1.kept x2 (fun e => ha.m (.inr (.inl e)))
  have rpo2 := q1.kept x2 (by unfold Only; exact a1)
  have rpr2 := rpr1.kept x2 (by unfold Only; exact Ne.symm a4)
  have rpt2 := rpt1.kept x2 (by unfold Only; exact Ne.symm a5)
  have smr2 := smr1.kept x2 (fun e => ha.mr (.inr (.inl e)))
  have smt2 := smt1.kept x2 (fun e => ha.mt (.inr (.inl e)))
  refine wp_region_quiet_tail (C := fun w' => Kx (fun _ => False) W2 w') 14 (by kernel_rfl) (by kernel_rfl) (Kx.refl _ _).drew ?_
  refine quiet_val rfl (.pointer (some ⟨d, 0, none⟩)) (fun w' hC => by go_simp) ?_
  refine quiet_val rfl (.pointer (some ⟨d, 0, none⟩)) (fun w' hC => by go_simp) ?_
  refine quiet_val rfl (.pointer (some ⟨d, 0, none⟩)) (fun w' hC => by go_simp) ?_
  refine quiet_val rfl (.pointer (some ⟨p, 0, none⟩)) (fun w' hC => by
    have hc0 : w'.cell? ⟨d, 0, none⟩ = some (.pointer (some ⟨p, 0, none⟩)) := Cb.cell (hd2.kept hC id) 0
    go_simp) ?_
  refine quiet_val rfl (.pointer (some ⟨p, 0, none⟩)) (fun w' hC => by go_simp) ?_
  refine quiet_val rfl (.pointer (some ⟨p, 3, none⟩)) (fun w' hC => by go_simp) ?_
  refine quiet_val rfl (.map (some pt)) (fun w' hC => by
    have hc0 : w'.cell? ⟨p, 3, none⟩ = some (.map (some pt)) := Cb.cell (hp2.kept hC id) 3
    go_simp) ?_
  refine quiet_val rfl (.pointer (some ⟨d, 0, none⟩)) (fun w' hC => by go_simp) ?_
  refine quiet_val rfl (.pointer (some ⟨d, 0, none⟩)) (fun w' hC => by go_simp) ?_
  refine quiet_val rfl (.pointer (some ⟨d, 1, none⟩)) (fun w' hC => by go_simp) ?_
  refine quiet_val rfl (.pointer (some ⟨m, 0, none⟩)) (fun w' hC => by
    have hc0 : w'.cell? ⟨d, 1, none⟩ = some (.pointer (some ⟨m, 0, none⟩)) := Cb.cell (hd2.kept hC id) 1
    go_simp) ?_
  refine quiet_val rfl (.pointer (some ⟨m, 0, none⟩)) (fun w' hC => by go_simp) ?_
  refine quiet_val rfl (.pointer (some ⟨m, 3, none⟩)) (fun w' hC => by go_simp) ?_
  refine quiet_val rfl (.map (some mt)) (fun w' hC => by
    have hc0 : w'.cell? ⟨m, 3, none⟩ = some (.map (some mt)) := Cb.cell (hm2.kept hC id) 3
    go_simp) ?_
  refine wpQuiet_nil (fun w' hC => ?_)
  simp only [Act.put, sI, sS, sZ, List.drop_succ_cons, List.drop_zero]
  have hcall := copyT_any pt mt n n' f4 g4 w' (rpt2.kept hC id) (smt2.kept hC id) (fun e => ha.mt (by rw [← e]; unfold Fo; simp)) hn
  go_wp2_with fail
  refine hcall.mono ?_
  rintro _ W3 ⟨rfl, q3, e3⟩
  have x3 : Kx (Only pt) W2 W3 := (hC.mono (fun _ _ h => h.elim)).trans e3
  clear hcall hC e3 w'
  have hd3 := hd2.kept x3 (fun e => ha.d (.inr (.inr (.inr e))))
  have hp3 := hp2.kept x3 (fun e => ha.p (.inr (.inr (.inr e))))
  have hm3 := hm2.kept x3 (fun e => ha.m (.inr (.inr (.inr e))))
  have rpo3 := rpo2.kept x3 (by unfold Only; exact a3)
  have rpc3 := q2.kept x3 (by unfold Only; exact a5)
  have rpr3 := rpr2.kept x3 (by unfold Only; exact a6)
  have smr3 := smr2.kept x3 (fun e => ha.mr (.inr (.inr (.inr e))))
  have X3 : Kx (Fo po pc pr pt) w W3 := ((x1.mono (fun _ _ e => .inl e)).trans (x2.mono (fun _ _ e => .inr (.inl e)))).trans (x3.mono (fun _ _ e => .inr (.inr (.inr e))))
  have Y1 := rpo3
  have Y2 := rpc3
  have Y3 := rpr3
  have Y4 := q3
  have Z3 := smr3
  have hlp := Y3.lt
  have A := ha
  clear hd hp hm hd0 hp0 hm0 hd1 hp1 hm1 hd2 hp2 hm2 h1 h2 h3 h4 k1 k2 k3 k4 q1 q2 q3
  have c1 : W3.cell? ⟨d, 1, none⟩ = some (.pointer (some ⟨m, 0, none⟩)) := Cb.cell hd3 1
  have c2 : W3.cell? ⟨m, 2, none⟩ = some (.map (some mr)) := Cb.cell hm3 2
  go_wp2_with (first | (at_range; refine wpList_rangeS rfl _ 147 rfl 101 (by kernel_rfl) (by kernel_rfl) mr n' g3 rfl Z3 ?_; intro w0 cnt0 hc0 hr0 hk0) | go_in)
  go_frame
  clear c1 c2
  go_loopw [] (fun wr => ∃ (left : List UInt8 → Bool) (cnt nn : Nat), RngS Tryz.prog 9 wr mr W3.heap.size n' g3 left cnt ∧ MpS wr pr nn (overR g3 f3 left) ∧ nn + cnt ≤ n + n' ∧ Kx (Only pr) W3 wr) (fun wr => wr.rangeLeft mr W3.heap.size)
  case atStart =>
    refine ⟨_, cnt0, n, hr0, ?_, by omega, hk0.mono (fun _ _ h => h.elim)⟩
    rw [overR_start]
    exact Y3.kept hk0 id
  case round =>
    obtain ⟨left, cnt, nn, hr, hm, hle, hk⟩ := hrel
    go_wp2_with (first | (at_next; refine wpList_nextS rfl _ rfl (by kernel_rfl) mr W3.heap.size n' g3 left cnt rfl hr ?_ ?_) | go_in)
    · intro hl
      rw [overR_end g3 f3 left hl] at hm
      have hm' := hm.mono (m := n + n') (by omega)
      have z1 := Y1.kept hk (by unfold Only; exact a2)
      have z2 := Y2.kept hk (by unfold Only; exact a4)
      have z4 := Y4.kept hk (by unfold Only; exact Ne.symm a6)
      have zk := X3.trans (hk.mono (fun _ _ e => .inr (.inr (.inl e))))
      clear hm Y1 Y2 Y3 Y4 Z3 hd3 hp3 hm3
      go_wp2
      go_end0
      exact ⟨rfl, z1, z2, hm', z4, zk⟩
    · intro k v w2 cnt2 hkl hlk hgk hr2 hlt hk2 hs2 hen
      have hne : pr ≠ W3.heap.size := by omega
      have hm2 := hm.kept hk2 (by unfold Only; exact hne)
      have hk3 : Kx (Only pr) W3 w2 := hk.andThen hk2 (fun j hj e => by unfold Only at e; omega)
      have c0 : w2.cell? ⟨d, 0, none⟩ = some (.pointer (some ⟨p, 0, none⟩)) := Cb.cell (hd3.kept hk3 (fun e => A.d (.inr (.inr (.inl e))))) 0
      have c1 : w2.cell? ⟨p, 2, none⟩ = some (.map (some pr)) := Cb.cell (hp3.kept hk3 (fun e => A.p (.inr (.inr (.inl e))))) 2
      have hmr : mr ≠ pr := fun e => A.mr (.inr (.inr (.inl e)))
      clear hs2 hm hlk hk2
      rcases hg3 k v hgk with rfl | ⟨ad, rfl⟩
      · have hst := overR_cut g3 f3 left k hgk
        go_wp2_with (first | (refine wpList_cutS rfl _ _ 147 rfl 101 (by kernel_rfl) (by kernel_rfl) pr nn (overR g3 f3 left) rfl hm2 k rfl hkl ?_; intro w3 hm3 hk4) | go_in)
        rw [hst] at hm3
        have hr3 := hr2.kept hk4 (by unfold Only; exact hmr) (by unfold Only; exact Ne.symm hne)
        have hk5 := hk3.trans hk4
        simp only [Act.put]
        go_roundw
        case rel => exact ⟨_, cnt2, nn, hr3, hm3, by omega, hk5⟩
        case measure => rw [hr3.left_eq, hr.left_eq]; exact hlt
      · have hst := overR_put g3 f3 left k ad hgk
        go_wp2_with (first | (refine wpList_putS rfl _ _ _ 147 rfl 101 (by kernel_rfl) (by kernel_rfl) pr nn (overR g3 f3 left) rfl hm2 (by omega) k rfl hkl (.pointer (some ad)) rfl ?_; intro w3 hm3 hk4) | go_in)
        rw [hst] at hm3
        have hr3 := hr2.kept hk4 (by unfold Only; exact hmr) (by unfold Only; exact Ne.symm hne)
        have hk5 := hk3.trans hk4
        simp only [Act.put]
        go_roundw
        case rel => exact ⟨_, cnt2, nn + 1, hr3, hm3, by omega, hk5⟩
        case measure => rw [hr3.left_eq, hr.left_eq]; exact hlt

def ComF (M : Nat → Prop) (w : World) (f : List UInt8 → Option Value) (g : List UInt8 → Option Com) : Prop :=
  ∀ k, (g k = none → f k = none) ∧ ∀ c, g k = some c → ∃ b, f k = some (ptrV b) ∧ Cmt M w b c

def RefF (M : Nat → Prop) (w : World) (f : List UInt8 → Option Value) (g : List UInt8 → Option (Option Com)) : Prop :=
  ∀ k, (g k = none → f k = none) ∧ (g k = some none → f k = some (.pointer none)) ∧ ∀ c, g k = some (some c) → ∃ b, f k = some (ptrV b) ∧ Cmt M w b c

def Tg (M : Nat → Prop) (w : World) (b : Nat) (s : List UInt8) : Prop :=
  ∃ (x name : List UInt8) (cb : Nat) (msg : List UInt8), Cb b #[.int .i64 4, .string ⟨x.toArray⟩, .string ⟨(Sh.hex s).toArray⟩, .string ⟨name.toArray⟩, .pointer (some ⟨cb, 0, none⟩), .string ⟨msg.toArray⟩] 187 w ∧ ¬ M b ∧ s.length = 32 ∧ Good M w cb ∧ name.length ≤ 1000 ∧ msg.length ≤ 1000

def TagF (M : Nat → Prop) (w : World) (f : List UInt8 → Option Value) (g : List UInt8 → Option (List UInt8)) : Prop :=
  ∀ k, (g k = none → f k = none) ∧ ∀ s, g k = some s → ∃ b, f k = some (ptrV b) ∧ Tg M w b s

def MksF (M : Nat → Prop) (w : World) (f : Int → Option Value) (g : Int → Option Mkd) : Prop :=
  ∀ k, (g k = none → f k = none) ∧ (∀ s, g k = some (.blob s) → f k = some (.agg #[.pointer none, .string ⟨(Sh.hex s).toArray⟩]) ∧ s.length = 32) ∧
    ∀ c, g k = some (.com c) → ∃ b, f k = some (.agg #[ptrV b, .string ⟨#[]⟩]) ∧ Cmt M w b c

section
variable {M X : Nat → Prop} {w w' : World}

theorem ComF.kept {f : List UInt8 → Option Value} {g : List UInt8 → Option Com} (h : ComF M w f g) (hk : Kx X w w') (hX : ∀ k, k < w.heap.size → X k → M k) : ComF M w' f g :=
  fun k => ⟨(h k).1, fun c e => let ⟨b, h1, h2⟩ := (h k).2 c e; ⟨b, h1, h2.kept hk hX⟩⟩
theorem RefF.kept {f : List UInt8 → Option Value} {g : List UInt8 → Option (Option Com)} (h : RefF M w f g) (hk : Kx X w w') (hX : ∀ k, k < w.heap.size → X k → M k) : RefF M w' f g :=
  fun k => ⟨(h k).1, (h k).2.1, fun c e => let ⟨b, h1, h2⟩ := (h k).2.2 c e; ⟨b, h1, h2.kept hk hX⟩⟩
theorem Tg.kept {b : Nat} {s : List UInt8} (h : Tg M w b s) (hk : Kx X w w') (hX : ∀ k, k < w.heap.size → X k → M k) : Tg M w' b s := by
  obtain ⟨x, name, cb, msg, h1, h2, h3, h4, h5⟩ := h
  exact ⟨x, name, cb, msg, h1.kept hk (fun e => h2 (hX b h1.lt e)), h2, h3, h4.kept hk hX, h5⟩
theorem TagF.kept {f : List UInt8 → Option Value} {g : List UInt8 → Option (List UInt8)} (h : TagF M w f g) (hk : Kx X w w') (hX : ∀ k, k < w.heap.size → X k → M k) : TagF M w' f g :=
  fun k => ⟨(h k).1, fun c e => let ⟨b, h1, h2⟩ := (h k).2 c e; ⟨b, h1, h2.kept hk hX⟩⟩
theorem MksF.kept {f : Int → Option Value} {g : Int → Option Mkd} (h : MksF M w f g) (hk : Kx X w w') (hX : ∀ k, k < w.heap.size → X k → M k) : MksF M w' f g :=
  fun k => ⟨(h k).1, (h k).2.1, fun c e => let ⟨b, h1, h2⟩ := (h k).2.2 c e; ⟨b, h1, h2.kept hk hX⟩⟩

theorem ComF.mono {M' : Nat → Prop} {f : List UInt8 → Option Value} {g : List UInt8 → Option Com} (h : ComF M w f g) (hM : ∀ k, k < w.heap.size → M' k → M k) : ComF M' w f g :=
  fun k => ⟨(h k).1, fun c e => let ⟨b, h1, h2⟩ := (h k).2 c e; ⟨b, h1, h2.mono hM⟩⟩
theorem Tg.mono {M' : Nat → Prop} {b : Nat} {s : List UInt8} (h : Tg M w b s) (hM : ∀ k, k < w.heap.size → M' k → M k) : Tg M' w b s := by
  obtain ⟨x, name, cb, msg, h1, h2, h3, h4, h5⟩ := h
  exact ⟨x, name, cb, msg, h1, fun e => h2 (hM b h1.lt e), h3, h4.mono hM, h5⟩
theorem TagF.mono {M' : Nat → Prop} {f : List UInt8 → Option Value} {g : List UInt8 → Option (List UInt8)} (h : TagF M w f g) (hM : ∀ k, k < w.heap.size → M' k → M k) : TagF M' w f g :=
  fun k => ⟨(h k).1, fun c e => let ⟨b, h1, h2⟩ := (h k).2 c e; ⟨b, h1, h2.mono hM⟩⟩

theorem ComF.upd {f : List UInt8 → Option Value} {g : List UInt8 → Option Com} (h : ComF M w f g) {k : List UInt8} {b : Nat} {c : Com} (hc : Cmt M w b c) : ComF M w (Go.Proofs.YtepgoppgblfjbaaGreatDoor.upd f k (some (ptrV b))) (Go.Proofs.YtepgoppgblfjbaaGreatDoor.upd g k (some c)) := by
  intro z
  by_cases e : z = k
  · subst e
    rw [upd_same, upd_same]
    exact ⟨fun h => (by cases h), fun c' e' => (by cases e'; exact ⟨b, rfl, hc⟩)⟩
  · rw [upd_other _ _ _ _ e, upd_other _ _ _ _ e]
    exact h z
theorem RefF.upd {f : List UInt8 → Option Value} {g : List UInt8 → Option (Option Com)} (h : RefF M w f g) {k : List UInt8} {b : Nat} {c : Com} (hc : Cmt M w b c) : RefF M w (Go.Proofs.YtepgoppgblfjbaaGreatDoor.upd f k (some (ptrV b))) (Go.Proofs.YtepgoppgblfjbaaGreatDoor.upd g k (some (some c))) := by
  intro z
  by_cases e : z = k
  · subst e
    rw [upd_same, upd_same]
    exact ⟨fun h => (by cases h), fun h => (by cases h), fun c' e' => (by cases e'; exact ⟨b, rfl, hc⟩)⟩
  · rw [upd_other _ _ _ _ e, upd_other _ _ _ _ e]
    exact h z
theorem RefF.gone {f : List UInt8 → Option Value} {g : List UInt8 → Option (Option Com)} (h : RefF M w f g) (k : List UInt8) : RefF M w (Go.Proofs.YtepgoppgblfjbaaGreatDoor.upd f k (some (.pointer none))) (Go.Proofs.YtepgoppgblfjbaaGreatDoor.upd g k (some none)) := by
  intro z
  by_cases e : z = k
  · subst e
    rw [upd_same, upd_same]
    exact ⟨fun h => (by cases h), fun _ => rfl, fun c' e' => (by cases e')⟩
  · rw [upd_other _ _ _ _ e, upd_other _ _ _ _ e]
    exact h z
theorem TagF.upd {f : List UInt8 → Option Value} {g : List UInt8 → Option (List UInt8)} (h : TagF M w f g) {k : List UInt8} {b : Nat} {s : List UInt8} (hc : Tg M w b s) : TagF M w (Go.Proofs.YtepgoppgblfjbaaGreatDoor.upd f k (some (ptrV b))) (Go.Proofs.YtepgoppgblfjbaaGreatDoor.upd g k (some s)) := by
  intro z
  by_cases e : z = k
  · subst e
    rw [upd_same, upd_same]
    exact ⟨fun h => (by cases h), fun c' e' => (by cases e'; exact ⟨b, rfl, hc⟩)⟩
  · rw [upd_other _ _ _ _ e, upd_other _ _ _ _ e]
    exact h z
theorem MksF.updB {f : Int → Option Value} {g : Int → Option Mkd} (h : MksF M w f g) (k : Int) (s : List UInt8) (hs : s.length = 32) : MksF M w (Go.Proofs.YtepgoppgblfjbaaGreatDoor.upd f k (some (.agg #[.pointer none, .string ⟨(Sh.hex s).toArray⟩]))) (Go.Proofs.YtepgoppgblfjbaaGreatDoor.upd g k (some (.blob s))) := by
  intro z
  by_cases e : z = k
  · subst e
    rw [upd_same, upd_same]
    exact ⟨fun h => (by cases h), fun s' e' => (by cases e'; exact ⟨rfl, hs⟩), fun c' e' => (by cases e')⟩
  · rw [upd_other _ _ _ _ e, upd_other _ _ _ _ e]
    exact h z
theorem MksF.updC {f : Int → Option Value} {g : Int → Option Mkd} (h : MksF M w f g) (k : Int) {b : Nat} {c : Com} (hc : Cmt M w b c) : MksF M w (Go.Proofs.YtepgoppgblfjbaaGreatDoor.upd f k (some (.agg #[ptrV b, .string ⟨#[]⟩]))) (Go.Proofs.YtepgoppgblfjbaaGreatDoor.upd g k (some (.com c))) := by
  intro z
  by_cases e : z = k
  · subst e
    rw [upd_same, upd_same]
    exact ⟨fun h => (by cases h), fun s' e' => (by cases e'), fun c' e' => (by cases e'; exact ⟨b, rfl, hc⟩)⟩
  · rw [upd_other _ _ _ _ e, upd_other _ _ _ _ e]
    exact h z
end

def refO (g : List UInt8 → Option (Option Com)) (s : List UInt8 → Option Com) : List UInt8 → Option Com := fun k => match g k with | some x => x | none => s k

theorem refO_upd (g : List UInt8 → Option (Option Com)) (s : List UInt8 → Option Com) (k : List UInt8) (x : Option Com) : refO (upd g k (some x)) s = upd (refO g s) k x := by
  funext z
  unfold refO upd
  by_cases e : z = k
  · simp [e]
  · simp [e]

structure Bl where
  (q d p m mb kb po pc pr pt mo mc mr mt : Nat)

def Bl.X (B : Bl) : Nat → Prop := fun k => k = B.mo ∨ k = B.mc ∨ k = B.mr ∨ k = B.mt ∨ k = B.kb

structure Bl.Sep (B : Bl) : Prop where
  q : ¬ B.X B.q
  d : ¬ B.X B.d
  p : ¬ B.X B.p
  m : ¬ B.X B.m
  mb : ¬ B.X B.mb
  pr : ¬ B.X B.pr
  low : ∀ j, j < 7 → ¬ B.X j
  oc : B.mo ≠ B.mc
  or : B.mo ≠ B.mr
  ot : B.mo ≠ B.mt
  ok : B.mo ≠ B.kb
  cr : B.mc ≠ B.mr
  ct : B.mc ≠ B.mt
  ck : B.mc ≠ B.kb
  rt : B.mr ≠ B.mt
  rk : B.mr ≠ B.kb
  tk : B.mt ≠ B.kb

structure Wrk (M : Nat → Prop) (w : World) (B : Bl) (n : Nat) (S : St) (W : Wk) : Prop where
  gl : Gl w
  wq : Cb B.q #[ptrV B.d, ptrV B.mb, .map (some B.kb)] 170 w
  dr : Dr w B.d B.p B.m
  mkr : Cb B.mb (A32 Sh.K) 281 w
  hp : Hi w B.p B.po B.pc B.pr B.pt
  hm : Hi w B.m B.mo B.mc B.mr B.mt
  past : ∃ np fr, MpS w B.pr np fr ∧ ComF M w fr S.ref
  objs : ∃ g, MpS w B.mo n (objF g) ∧ W.st.obj = orE g S.obj
  coms : ∃ g f, MpS w B.mc n f ∧ ComF M w f g ∧ W.st.com = orE g S.com
  refs : ∃ g f, MpS w B.mr n f ∧ RefF M w f g ∧ W.st.ref = refO g S.ref
  tags : ∃ g f, MpS w B.mt n f ∧ TagF M w f g ∧ W.st.tag = orE g S.tag
  marks : ∃ f, MapI Tryz.prog 3 w B.kb n f ∧ MksF M w f W.ms
  sep : B.Sep
  inM : ∀ k, B.X k → M k
  lowM : ∀ k, M k → k < w.heap.size

section
variable {M X : Nat → Prop} {w w' : World} {B : Bl} {n n' : Nat} {S : St} {W W' : Wk}

theorem Wrk.kobjs (h : Wrk M w B n S W) (hk : Kx X w w') (hx : ¬ X B.mo) (hn : n ≤ n') : ∃ g, MpS w' B.mo n' (objF g) ∧ W.st.obj = orE g S.obj := by
  obtain ⟨g, h1, h2⟩ := h.objs
  exact ⟨g, (h1.kept hk hx).mono hn, h2⟩
theorem Wrk.kcoms (h : Wrk M w B n S W) (hk : Kx X w w') (hX : ∀ k, k < w.heap.size → X k → M k) (hx : ¬ X B.mc) (hn : n ≤ n') : ∃ g f, MpS w' B.mc n' f ∧ ComF M w' f g ∧ W.st.com = orE g S.com := by
  obtain ⟨g, f, h1, h2, h3⟩ := h.coms
  exact ⟨g, f, (h1.kept hk hx).mono hn, h2.kept hk hX, h3⟩
theorem Wrk.krefs (h : Wrk M w B n S W) (hk : Kx X w w') (hX : ∀ k, k < w.heap.size → X k → M k) (hx : ¬ X B.mr) (hn : n ≤ n') : ∃ g f, MpS w' B.mr n' f ∧ RefF M w' f g ∧ W.st.ref = refO g S.ref := by
  obtain ⟨g, f, h1, h2, h3⟩ := h.refs
  exact ⟨g, f, (h1.kept hk hx).mono hn, h2.kept hk hX, h3⟩
theorem Wrk.ktags (h : Wrk M w B n S W) (hk : Kx X w w') (hX : ∀ k, k < w.heap.size → X k → M k) (hx : ¬ X B.mt) (hn : n ≤ n') : ∃ g f, MpS w' B.mt n' f ∧ TagF M w' f g ∧ W.st.tag = orE g S.tag := by
  obtain ⟨g, f, h1, h2, h3⟩ := h.tags
  exact ⟨g, f, (h1.kept hk hx).mono hn, h2.kept hk hX, h3⟩
theorem Wrk.kmarks (h : Wrk M w B n S W) (hk : Kx X w w') (hX : ∀ k, k < w.heap.size → X k → M k) (hx : ¬ X B.kb) (hn : n ≤ n') : ∃ f, MapI Tryz.prog 3 w' B.kb n' f ∧ MksF M w' f W.ms := by
  obtain ⟨f, h1, h2⟩ := h.marks
  exact ⟨f, (h1.kept hk hx).mono hn, h2.kept hk hX⟩

theorem Wrk.turn (h : Wrk M w B n S W) (hk : Kx B.X w w') (o : ∃ g, MpS w' B.mo n' (objF g) ∧ W'.st.obj = orE g S.obj) (c : ∃ g f, MpS w' B.mc n' f ∧ ComF M w' f g ∧ W'.st.com = orE g S.com) (r : ∃ g f, MpS w' B.mr n' f ∧ RefF M w' f g ∧ W'.st.ref = refO g S.ref)
    (t : ∃ g f, MpS w' B.mt n' f ∧ TagF M w' f g ∧ W'.st.tag = orE g S.tag) (k : ∃ f, MapI Tryz.prog 3 w' B.kb n' f ∧ MksF M w' f W'.ms) : Wrk M w' B n' S W' := by
  obtain ⟨np, fr, p1, p2⟩ := h.past
  exact ⟨h.gl.kept hk (fun j hj => h.sep.low j (by omega)), h.wq.kept hk h.sep.q, h.dr.kept hk h.sep.d, h.mkr.kept hk h.sep.mb, h.hp.kept hk h.sep.p, h.hm.kept hk h.sep.m,
    ⟨np, fr, p1.kept hk h.sep.pr, p2.kept hk (fun k _ e => h.inM k e)⟩, o, c, r, t, k, h.sep, h.inM, fun k e => Nat.lt_of_lt_of_le (h.lowM k e) hk.size⟩

theorem Wrk.kept (h : Wrk M w B n S W) (hk : Kx (fun _ => False) w w') : Wrk M w' B n S W :=
  h.turn (hk.mono (fun _ _ h => h.elim)) (h.kobjs hk id (Nat.le_refl _)) (h.kcoms hk (fun _ _ h => h.elim) id (Nat.le_refl _)) (h.krefs hk (fun _ _ h => h.elim) id (Nat.le_refl _))
    (h.ktags hk (fun _ _ h => h.elim) id (Nat.le_refl _)) (h.kmarks hk (fun _ _ h => h.elim) id (Nat.le_refl _))

theorem Wrk.mono (h : Wrk M w B n S W) (hn : n ≤ n') : Wrk M w B n' S W :=
  h.turn (Kx.refl _ _) (h.kobjs (Kx.refl (fun _ => False) _) id hn) (h.kcoms (Kx.refl (fun _ => False) _) (fun _ _ h => h.elim) id hn) (h.krefs (Kx.refl (fun _ => False) _) (fun _ _ h => h.elim) id hn)
    (h.ktags (Kx.refl (fun _ => False) _) (fun _ _ h => h.elim) id hn) (h.kmarks (Kx.refl (fun _ => False) _) (fun _ _ h => h.elim) id hn)
end

structure WhOk (x : Pu.Wh) : Prop where
  mark : 0 ≤ x.mark ∧ x.mark ≤ 999
  ref : x.ref.length ≤ 1000
structure ChOk (c : Pu.Ch) : Prop where
  mark : 0 ≤ c.mark ∧ c.mark ≤ 999
  mode : c.mode.length ≤ 20
  data : c.data.length ≤ 1000
  path : c.path.length ≤ 60
  dst : c.to.length ≤ 60
structure CoOk (c : Pu.Co) : Prop where
  mark : 0 ≤ c.mark ∧ c.mark ≤ 999
  ref : c.ref.length ≤ 1000
  name : c.au.name.length ≤ 1000
  mail : c.au.mail.length ≤ 1000
  time : 0 ≤ c.au.time ∧ c.au.time ≤ 9999999999
  data : c.data.length ≤ 1000
  frm : WhOk c.frm
  merges : c.merges.length ≤ 3 ∧ ∀ x ∈ c.merges, WhOk x
  changes : c.changes.length ≤ 30 ∧ ∀ x ∈ c.changes, ChOk x

end Go.Proofs.YtepgoppgblfjbaaGreatDoor
