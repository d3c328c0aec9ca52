import Derived.Test.YtepgoppgblfjbaaGreatDoorGw31
namespace Go.Proofs.YtepgoppgblfjbaaGreatDoor
open Go.RowKit

structure SP (w0 w w' : World) (wk mk nm h : Nat) (vc : Value) (l : List Ocm) (tm : Bool) (n1 : Nat) (vc' : Value) (l' : List Ocm) (tm' : Bool) (n1' n2' : Nat) (f1' f2' : List UInt8 → Option Value) (d : Nat) : Prop where
  es : Es w0 w' wk mk nm h vc' l' tm' n1' n2' f1' f2'
  kx : Kx (ET wk mk nm vc) w w'
  loc : ∀ k, vc'.ownBlock = some k → vc.ownBlock = some k ∨ w.heap.size ≤ k
  up : tm = true → tm' = true
  cnt : tm' = false → n1' + l.length ≤ n1 + l'.length + d

section
variable {w0 w w1 w2 : World} {wk mk nm h : Nat} {vc vc1 vc2 : Value} {l l1 l2 : List Ocm} {tm tm1 tm2 : Bool} {n1 n2 n1a n2a n1b n2b d d2 : Nat} {f1 f2 f1a f2a f1b f2b : List UInt8 → Option Value}

theorem SP.refl (e : Es w0 w wk mk nm h vc l tm n1 n2 f1 f2) : SP w0 w w wk mk nm h vc l tm n1 vc l tm n1 n2 f1 f2 0 :=
  ⟨e, Kx.refl _ _, fun _ x => .inl x, fun x => x, fun _ => Nat.le_refl _⟩

theorem ET.back (hl : ∀ k, vc1.ownBlock = some k → vc.ownBlock = some k ∨ w.heap.size ≤ k) (j : Nat) (hj : j < w.heap.size) (y : ET wk mk nm vc1 j) : ET wk mk nm vc j := by
  rcases y with y | y | y | y
  · exact .inl y
  · exact .inr (.inl y)
  · exact .inr (.inr (.inl y))
  · rcases hl j y with z | z
    · exact .inr (.inr (.inr z))
    · omega

theorem SP.turn (p : SP w0 w w1 wk mk nm h vc l tm n1 vc1 l1 tm1 n1a n2a f1a f2a d) (e2 : Ew w2 wk mk nm h vc2 l2 tm2 n1b n2b f1b f2b) (hk : Kx (ET wk mk nm vc1) w1 w2) (hl : ∀ k, vc2.ownBlock = some k → vc1.ownBlock = some k ∨ w1.heap.size ≤ k) (hup : tm1 = true → tm2 = true) (hc : tm2 = false → n1b + l.length ≤ n1 + l2.length + d2) :
    SP w0 w w2 wk mk nm h vc l tm n1 vc2 l2 tm2 n1b n2b f1b f2b d2 :=
  ⟨p.es.turn e2 hk hl, p.kx.join hk (fun j hj y => ET.back p.loc j hj y), fun k x => (hl k x).elim (p.loc k) (fun y => .inr (Nat.le_trans p.kx.size y)), fun x => hup (p.up x), hc⟩

theorem SP.same (p : SP w0 w w1 wk mk nm h vc l tm n1 vc1 l1 tm1 n1a n2a f1a f2a d) (hk : Kx (fun _ => False) w1 w2) : SP w0 w w2 wk mk nm h vc l tm n1 vc1 l1 tm1 n1a n2a f1a f2a d :=
  ⟨p.es.same hk, p.kx.join hk (fun _ _ y => y.elim), p.loc, p.up, p.cnt⟩

theorem SP.trans (p : SP w0 w w1 wk mk nm h vc l tm n1 vc1 l1 tm1 n1a n2a f1a f2a 0) (q : SP w0 w1 w2 wk mk nm h vc1 l1 tm1 n1a vc2 l2 tm2 n1b n2b f1b f2b 0) : SP w0 w w2 wk mk nm h vc l tm n1 vc2 l2 tm2 n1b n2b f1b f2b 0 :=
  ⟨q.es, p.kx.join q.kx (fun j hj y => ET.back p.loc j hj y), fun k x => (q.loc k x).elim (p.loc k) (fun y => .inr (Nat.le_trans p.kx.size y)), fun x => q.up (p.up x), fun x => by
    have h2 := q.cnt x
    have h1 : tm1 = false := by
      cases ht : tm1 with
      | false => rfl
      | true => rw [q.up ht] at x; cases x
    have := p.cnt h1
    omega⟩

theorem SP.pre (hk : Kx (fun _ => False) w w1) (p : SP w0 w1 w2 wk mk nm h vc l tm n1 vc2 l2 tm2 n1b n2b f1b f2b d) : SP w0 w w2 wk mk nm h vc l tm n1 vc2 l2 tm2 n1b n2b f1b f2b d :=
  ⟨p.es, (hk.mono (fun _ _ x => x.elim)).trans p.kx, fun k x => (p.loc k x).imp (fun y => y) (fun y => Nat.le_trans hk.size y), p.up, p.cnt⟩
end

def EcomR (w0 w w' : World) (wk mk nm h : Nat) (vc : Value) (l : List Ocm) (tm : Bool) (n1 n2 : Nat) : Prop :=
  ∃ vc' l' tm' n1' n2' f1' f2', SP w0 w w' wk mk nm h vc l tm n1 vc' l' tm' n1' n2' f1' f2' 0 ∧ n1 ≤ n1' ∧ n1' ≤ n1 + 61 ∧ n2' + 2 * n1 ≤ n2 + 2 * n1'

theorem SP.blob {w0 w w1 w2 w3 : World} {wk mk nm h : Nat} {vc vc1 : Value} {l l1 : List Ocm} {tm tm1 : Bool} {n1 n1a n2 : Nat} {f1a f2 : List UInt8 → Option Value} (p : SP w0 w w1 wk mk nm h vc l tm n1 vc1 l1 tm1 n1a n2 f1a f2 0) (hA : Kx (fun _ => False) w1 w2) (q : StR w0 w2 w3 wk mk nm h vc1 l1 tm1 n1a n2 1 f2) :
    ∃ vc' l' tm' n1' f1', SP w0 w w3 wk mk nm h vc l tm n1 vc' l' tm' n1' n2 f1' f2 0 ∧ n1a ≤ n1' ∧ n1' ≤ n1a + 1 := by
  obtain ⟨vc', l', tm', n1', f1', es, hk, hl, h1, h2, ht, hf⟩ := q
  refine ⟨vc', l', tm', n1', f1', (p.same hA).turn es.ew hk hl (fun x => (ht x).1) (fun x => ?_), h1, h2⟩
  cases htm : tm1 with
  | true => rw [(ht htm).1] at x; cases x
  | false =>
    have h3 := p.cnt htm
    rcases hf htm with ⟨_, h4, h5⟩ | ⟨h4, _⟩
    · omega
    · rw [h4] at x; cases x

theorem whQ_flat (qs : List Nat) : (qs.map (fun q => (q, ([] : List UInt8)))).flatMap whC1 = qs.flatMap whQ := by
  induction qs with
  | nil => rfl
  | cons q r ih => rw [List.map_cons, List.flatMap_cons, List.flatMap_cons, ih]; rfl

theorem Es.old {w0 w : World} {wk mk nm h : Nat} {vc : Value} {l : List Ocm} {tm : Bool} {n1 n2 : Nat} {f1 f2 : List UInt8 → Option Value} (e : Es w0 w wk mk nm h vc l tm n1 n2 f1 f2) : ∀ k, ET wk mk nm vc k → k < w.heap.size := fun k q => by
  rcases q with q | q | q | q
  · rw [q]; exact e.ew.blk.lt
  · rw [q]; exact e.ew.lt.1
  · rw [q]; exact e.ew.lt.2
  · exact (e.ew.row.lt k q).2

structure Cmd8 (wc wx : World) (bb : Nat) (cmd : Array Value) (v : Value) (cs : List Chg) : Prop where
  ge : wc.heap.size ≤ bb
  kx : Kx (fun _ => False) wc wx
  blk : Cb bb cmd 158 wx
  rd : Reads wx v cs.length (cs.flatMap chC1)
  own : ∀ k, v.ownBlock = some k → wc.heap.size ≤ k ∧ k < wx.heap.size ∧ k ≠ bb
  len : cs.length ≤ 120
  ok : ∀ x ∈ cs, ChB x

theorem Cmd8.of {wc wX : World} {bb base : Nat} {cmd zs : Array Value} {v : Value} {cs : List Chg} (hge : wc.heap.size ≤ bb) (hk : Kx (fun _ => False) wc wX) (hb : Cb bb zs 158 wX) (hown : wX.ownsRow base 332 6 v cs.length (cs.flatMap chC1)) (hbase : wc.heap.size ≤ base) (hlen : cs.length ≤ 120) (hok : ∀ x ∈ cs, ChB x) : Cmd8 wc (wX.setRow bb cmd) bb cmd v cs := by
  have hne : ∀ k, v.ownBlock = some k → k ≠ bb := fun k e h => by
    subst h
    rcases hown.2 with ⟨h1, _⟩ | ⟨g, cap, cur, h1, _, hg, _⟩
    · rw [h1] at e; cases e
    · rw [h1] at e
      obtain rfl : g = k := Option.some.inj e
      rw [show wX.heap[g]? = _ from hb] at hg
      cases hg
  have hk2 : Kx (fun y => y = bb) wX (wX.setRow bb cmd) := Kx.setRow (X := fun y => y = bb) (g := bb) (Kx.refl _ _) (fun _ => rfl) cmd
  refine ⟨hge, hk.setRow (fun h => absurd h (by omega)) _, hb.row cmd, (Reads.of_own hown).kept hk2 hne, fun k e => ⟨?_, ?_, hne k e⟩, hlen, hok⟩
  · exact Nat.le_trans hbase (hown.lt k e).1
  · exact Nat.lt_of_lt_of_le (hown.lt k e).2 hk2.size

section
open Go.Maps Go.WideMaps
theorem wpList_lookSG {P : Program} {K : TypeId} {ops : Array Oper} {Q : Exit → Act → World → Prop} {a : Act} {w : World} {rest : List Oper} {o : Oper} (hw : Region.wanted o (yielded ops a.tmps) = true) (m x : Operand) (t : TypeId) (hop : o.op = Op.lookup t m x false) (e : TypeId) (hK : P.underlying K = some .string) (ht : P.underlying t = some (.map K e)) (z : Value) (hz : (zeroValue e).run P w = .ok z w)
    (b n : Nat) (f : List UInt8 → Option Value) (hm : a.eval m = .map (some b)) (h : MapS P K w b n f) (k : List UInt8) (hx : a.eval x = .string ⟨k.toArray⟩) (hk : k.length ≤ maxLen)
    (hc : wpList P ops Q rest (a.put o.dst ((f k).getD z)) w) : wpList P ops Q (o :: rest) a w := by
  obtain ⟨D, hown, ha⟩ := h
  obtain ⟨v, ps, hrun, hv⟩ := hown.lookup (string_keyed hK) ht hz (zd := .held z) (zp := []) rfl (keyOf_string_mk (s := ⟨k.toArray⟩) hK (by simpa [ByteArray.size] using hk))
  rw [show (⟨k.toArray⟩ : ByteArray).data.toList = k from rfl, ha] at hv
  obtain rfl := held_of hv
  unfold wpList
  rw [if_pos hw]
  refine .inl ?_
  unfold Oper.wp
  simp [execOp, hop, hm, hx, hrun, Result.andThen]
  exact hc
end

set_option maxHeartbeats 3200000 in
set_option maxRecDepth 100000 in
theorem eaddCommit_any {M : Nat → Prop} {w0 w : World} {wk mk nm h o c r t n : Nat} {S : St} {vc : Value} {l : List Ocm} {tm : Bool} {n1 n2 : Nat} {f1 f2 : List UInt8 → Option Value} (hs : Sto M w0 h o c r t n S) (hcont : ∀ id x, S.obj id = some x → x.2.length ≤ 14000)
    (e : Es w0 w wk mk nm h vc l tm n1 n2 f1 f2) (ref : List UInt8) (hr : ref.length ≤ 1000) (cb : Nat) (hgd : Good M w0 cb) (hn1 : n1 ≤ 800000) (hn2 : n2 + 10 ≤ maxLen) :
    Calls Tryz.prog 190 #[.pointer (some ⟨wk, 0, none⟩), .string ⟨ref.toArray⟩, .pointer (some ⟨cb, 0, none⟩)] w fun x w' => x = .returned (.tuple #[]) ∧ EcomR w0 w w' wk mk nm h vc l tm n1 n2 := by
  have hmx : maxLen = 9223372036854775807 := rfl
  obtain ⟨⟨cx, id, fv, fl, ap, cp, ps, au, msg, hcb0, hfs0, hfo, _, _, hpl, _, hgb⟩, _⟩ := hgd.out
  obtain ⟨an, am, tim⟩ := au
  simp only at hcb0
  have hcb := hcb0.kept e.kx _root_.id
  have hfs := hfs0.kept e.kx (fun _ _ => _root_.id)
  have b1 := Cb.cell e.ew.blk 1
  have k3 := Cb.cell hcb 3
  have hK : ∀ {w' : World} {p : Addr} {v : Value}, Kx (fun _ => False) w w' → w.cell? p = some v → w'.cell? p = some v := fun hk hc => (hk.cell (lt_of_cell hc) _root_.id).trans hc
  have hkd := (Kx.refl (fun _ => False) w).drew
  have hfl : fl.length ≤ 400 := by have := hfo.len; omega
  have hcall1 := rfiles_nil fl fv _ (hfs.kept hkd (fun _ _ => _root_.id)) hfl
  have HFO : Hid (FOk fl) := hfo
  have HGB : Hid (GdB id ⟨an, am, tim⟩ msg) := hgb
  have hidl : id.length = 64 := hgb.id
  clear hfo hgb hfs hfs0
  go_enter Tryz.func190, Tryz.ntmps190
  go_wp2_with fail
  refine wp_region_ord2 (C := fun w' => Kx (fun _ => False) w w') [(0, true), (1, true), (2, true), (3, true), (4, true), (5, true), (6, true), (7, true), (9, true), (10, true), (8, false), (11, false), (12, false), (13, false), (14, true), (15, true), (16, false)] 17 (by kernel_rfl) (by kernel_rfl) rfl hkd ?_
  refine ord_val rfl (.pointer (some ⟨wk, 0, none⟩)) (fun w' hC => by go_simp) ?_
  refine ord_val rfl (.pointer (some ⟨wk, 0, none⟩)) (fun w' hC => by go_simp) ?_
  refine ord_val rfl (.pointer (some ⟨wk, 1, none⟩)) (fun w' hC => by go_simp) ?_
  refine ord_val rfl (.slice none 0 0) (fun w' hC => by have hc0 := hK hC b1; go_simp) ?_
  refine ord_val rfl (.pointer (some ⟨cb, 0, none⟩)) (fun w' hC => by go_simp) ?_
  refine ord_val rfl (.pointer (some ⟨cb, 0, none⟩)) (fun w' hC => by go_simp) ?_
  refine ord_val rfl (.pointer (some ⟨cb, 3, none⟩)) (fun w' hC => by go_simp) ?_
  refine ord_val rfl fv (fun w' hC => by have hc0 := hK hC k3; go_simp) ?_
  refine ord_val rfl (.pointer (some ⟨wk, 0, none⟩)) (fun w' hC => by go_simp) ?_
  refine ord_val rfl (.pointer (some ⟨cb, 0, none⟩)) (fun w' hC => by go_simp) ?_
  simp only [Act.put, sI, sS, sZ]
  refine ord_enter rfl 264 #[.slice none 0 0, fv] (by go_simp) ?_
  refine hcall1.mono ?_
  rintro _ w3 ⟨⟨v3, l3, rfl, ho3, hl3⟩, hk3⟩
  have hkw3 := hkd.trans hk3
  refine ⟨_, rfl, hkw3, ?_⟩
  simp only [Act.put, sI, sS, sZ]
  have hs3 : Sht l3 := Sht.of_less hl3 HFO.out.fine
  have hn3 : l3.length ≤ 60 := Nat.le_trans hl3.len HFO.out.len
  have hF3 : Fs w3 v3 l3 := Fs.of_own ho3
  clear hcall1 hk3 hl3 ho3 hfl
  have hcall2 := filesBefore_any (e.same hkw3) cb hgd
  refine ord_enter rfl 266 #[.pointer (some ⟨wk, 0, none⟩), .pointer (some ⟨cb, 0, none⟩)] (by go_simp) ?_
  refine hcall2.mono ?_
  rintro _ w4 ⟨v4, l4, rfl, hR4⟩
  have hkw4 := hkw3.trans hR4.kx
  refine ⟨_, rfl, hkw4, ?_⟩
  simp only [Act.put, sI, sS, sZ]
  have hF4 : Fs w4 v4 l4 := Fs.of_own hR4.own
  have hF34 := hF3.kept hR4.kx (fun _ _ => _root_.id)
  have hs4 := hR4.sht
  have hn4 := hR4.len
  clear hcall2 hR4 hF3
  have hcall3 := since_any l3 l4 v3 v4 w4 hF34 hF4 (by omega) (by omega)
  refine ord_enter rfl 265 #[v3, v4] (by go_simp) ?_
  refine hcall3.mono ?_
  rintro _ w5 ⟨⟨vg, lg, vp, lp, rfl, hog, hop, hsg, hsp⟩, hk5⟩
  have hkw5 := hkw4.trans hk5
  refine ⟨_, rfl, hkw5, ?_⟩
  simp only [Act.put, sI, sS, sZ]
  refine ord_valT rfl (.tuple #[vg, vp]) (by go_simp) hkw5 ?_
  refine ord_val rfl vg (fun w' hC => by go_simp) ?_
  refine ord_val rfl vp (fun w' hC => by go_simp) ?_
  simp only [Act.put, sI, sS, sZ]
  refine ord_valT rfl vg (by go_simp) hkw5 ?_
  simp only [Act.put, sI, sS, sZ]
  refine ord_nil ?_
  have hg1 : Sht lg := hs4.sub hsg
  have hp1 : Sht lp := hs3.sub hsp
  have hg2 : lg.length ≤ 60 := Nat.le_trans hsg.len hn4
  have hp2 : lp.length ≤ 60 := Nat.le_trans hsp.len hn3
  have hog2 := own_mono hog hkw4.size
  have hop2 := own_mono hop hkw4.size
  have hET5 : ∀ k, ET wk mk nm vc k → k < w.heap.size := fun k q => by
    rcases q with q | q | q | q
    · rw [q]; exact e.ew.blk.lt
    · rw [q]; exact e.ew.lt.1
    · rw [q]; exact e.ew.lt.2
    · exact (e.ew.row.lt k q).2
  have e5 := e.same hkw5
  have HP0 := SP.refl e5
  clear hcall3 hk5 hog hop hsg hsp hkw3 hkw4 hF34 hF4 hs3 hs4 hn3 hn4 hkd k3 b1
  obtain ⟨avp, cvp, hvp⟩ := row_shape hop2
  subst hvp
  go_wp2_with fail
  go_loopw [29] (fun iv wr => ∃ (k : Nat) (vc1 : Value) (l1 : List Ocm) (tm1 : Bool) (n1a : Nat) (f1a : List UInt8 → Option Value), iv = .int .i64 k ∧ k ≤ lp.length ∧ SP w0 w5 wr wk mk nm h vc l tm n1 vc1 l1 tm1 n1a n2 f1a f2 0 ∧ n1 ≤ n1a ∧ n1a ≤ n1 + k) (fun iv _ => lp.length - (intOf iv).toNat)
  case atStart => exact ⟨0, _, _, _, _, _, rfl, by omega, HP0, by omega, by omega⟩
  case round =>
    obtain ⟨k, vc1, l1, tm1, n1a, f1a, rfl, hk, hP, hna, hnb⟩ := hrel
    have hop3 := own_keptB hop2 hP.kx (fun j hj y => by have := (hop2.lt j hj).1; have := hET5 j y; omega)
    by_cases hlt : k < lp.length
    · have hlt2 : (k : Int) < (lp.length : Int) := by omega
      obtain ⟨g, og, c', he, p0, p1, p2⟩ := (Fs.of_own hop3).file k hlt
      cases he
      have e0 : og + k * 3 = og + 3 * k := by omega
      have hS := hp1 lp[k] (List.getElem_mem hlt)
      generalize lp[k] = f at *
      obtain ⟨fp, fm, fs⟩ := f
      simp only at p0 p1 p2 hS
      have hA := (Kx.refl (fun _ => False) wr).alloc (.cells #[.string ⟨fp.toArray⟩, .string ⟨fm.toArray⟩, .string ⟨(Sh.hex fs).toArray⟩] 114)
      have hcall := eaddBlob_any hs hcont (hP.es.same hA) (Sh.hex fs) (by rw [hex_len]; omega) (by omega)
      go_wp2_with fail
      refine hcall.mono ?_
      rintro _ w6 ⟨rfl, hS6⟩
      obtain ⟨vc6, l6, tm6, n16, f16, hP6, hna6, hnb6⟩ := hP.blob hA hS6
      clear hcall hS6 p0 p1 p2
      go_wp2
      go_roundw
      case rel => exact ⟨k + 1, vc6, l6, tm6, n16, f16, by go_num, hlt, hP6, by omega, by omega⟩
      case measure => simp [intOf]; omega
    · obtain rfl : k = lp.length := by omega
      have hlt2 : ¬ (lp.length : Int) < (lp.length : Int) := by omega
      have hcbr := hcb0.kept hP.es.kx _root_.id
      have c4 := Cb.cell hcbr 4
      obtain ⟨q, hgv, hq⟩ := hP.es.ew.lookN ref
      have hnms := hP.es.ew.nms
      have b4 := Cb.cell hP.es.ew.blk 4
      have hrl : ref.length ≤ maxLen := by omega
      clear hop3 hcbr
      go_upto_region 6 with fail
      go_cut [52] from 27 (fun v wx => (∃ b : Bool, v = .bool b) ∧ wx = wr)
      case first =>
        cases ps with
        | nil =>
          simp only [List.length_nil] at c4
          go_wp2_with (refine wpList_lookSG (K := 9) (by kernel_rfl) _ _ 196 rfl 3 under9 under196 (.int .i64 0) (zero3 _) nm n2 f2 rfl hnms ref rfl hrl ?_)
          go_meet
          exact ⟨⟨_, rfl⟩, rfl⟩
        | cons pb rest =>
          rw [List.length_cons] at c4
          have hz : ¬ ((rest.length + 1 : Nat) : Int) = 0 := by omega
          go_wp2_with fail
          go_meet
          exact ⟨⟨_, rfl⟩, rfl⟩
      case rest =>
        obtain ⟨⟨bq, rfl⟩, hcw⟩ := hcut
        subst hcw
        clear c4 b4 hgv hq hnms
        go_upto_if 52 with fail
        go_cut [] from 27 (fun wx => ∃ (vc1 : Value) (l1 : List Ocm) (tm1 : Bool) (n2b : Nat) (f2b : List UInt8 → Option Value), SP w0 w5 wx wk mk nm h vc l tm n1 vc1 l1 tm1 n1a n2b f1a f2b 0 ∧ n2b ≤ n2 + 1)
        case first =>
          cases bq
          · go_wp2_with fail
            go_meet
            exact ⟨_, _, _, _, _, hP, by omega⟩
          · have hcall := eaddReset_any hP.es.ew ref 0 hr (by decide) (by omega)
            go_wp2_with fail
            refine hcall.mono ?_
            rintro _ w7 ⟨rfl, vc7, l7, tm7, f27, e7, hk7, hl7, ht7, hf7⟩
            have hP7 := hP.turn (d2 := 0) e7 hk7 hl7 (fun x => (ht7 x).1) (fun x => by
              cases htm : tm1 with
              | true => rw [(ht7 htm).1] at x; cases x
              | false =>
                have := hP.cnt htm
                rcases hf7 htm with ⟨_, h2⟩ | ⟨h2, _⟩
                · omega
                · rw [h2] at x; cases x)
            clear hcall
            go_wp2_with fail
            go_meet
            exact ⟨_, _, _, _, _, hP7, by omega⟩
        case rest =>
          clear hP
          obtain ⟨vc1, l1, tm1, n2b, f2b, hP, hnc⟩ := hcut
          generalize wc = wB at *
          have hogc := own_keptB hog2 hP.kx (fun j hj y => by have := (hog2.lt j hj).1; have := hET5 j y; omega)
          have hopc := own_keptB hop2 hP.kx (fun j hj y => by have := (hop2.lt j hj).1; have := hET5 j y; omega)
          have hcbc := hcb0.kept hP.es.kx _root_.id
          have k5 := Cb.cell hcbc 5
          have k6 := Cb.cell hcbc 6
          have k7 := Cb.cell hcbc 7
          have k8 := Cb.cell hcbc 8
          have b1 := Cb.cell hP.es.ew.blk 1
          have hFg := Fs.of_own hogc
          have hFp := Fs.of_own hopc
          have hK : ∀ {w' : World} {p : Addr} {v : Value}, Kx (fun _ => False) wB w' → wB.cell? p = some v → w'.cell? p = some v := fun hk hc => (hk.cell (lt_of_cell hc) _root_.id).trans hc
          clear hogc hopc hog2 hop2 hcbc hK
          have hK : ∀ {w' : World} {p : Addr} {v : Value}, Kx (fun _ => False) wB w' → wB.cell? p = some v → w'.cell? p = some v := fun hk hc => (hk.cell (lt_of_cell hc) _root_.id).trans hc
          go_upto_region 8 with fail
          go_cut [10] from 27 (fun v wx => ∃ (bb : Nat) (ach : Option Addr) (cch : Nat) (cs : List Chg), v = .pointer (some ⟨bb, 0, none⟩) ∧ Cmd8 wB wx bb #[.string ⟨#[99, 111, 109, 109, 105, 116]⟩, .string ⟨ref.toArray⟩, .int .i64 0, .string ⟨an.toArray⟩, .string ⟨am.toArray⟩, .int .i64 tim, .string ⟨msg.toArray⟩, .int .i64 0, .string ⟨#[]⟩, .slice none 0 0, .slice ach cs.length cch] (.slice ach cs.length cch) cs)
          case first =>
            have hkd := (Kx.refl (fun _ => False) wB).drew
            have hall : ∀ (c' : Array Value), c'.size = 11 → (Tryz.prog.info? 158).map (·.size) = some c'.size := fun c' hc => by rw [hc]; kernel_rfl
            refine wp_region_ot (C := fun w' => Kx (fun _ => False) wB w') (.val 0 (.val 1 (.val 2 (.val 3 (.val 4 (.val 5 (.val 6 (.val 7 (.val 8 (.val 10 (.val 11 (.val 12 (.val 13 (.val 14 (.val 15 (.val 16 (.two 9 19 (.two 17 19 (.val 18 (.run 19 .nil)) (.run 17 (.val 18 .nil))) (.run 9 (.run 17 (.val 18 .nil)))))))))))))))))))) 20 (by kernel_rfl) (by kernel_rfl) rfl hkd ?_
            refine ot_val rfl rfl (.string ⟨ref.toArray⟩) (fun w' hC => by go_simp) ?_
            refine ot_val rfl rfl (.pointer (some ⟨wk, 0, none⟩)) (fun w' hC => by go_simp) ?_
            refine ot_val rfl rfl (.pointer (some ⟨wk, 0, none⟩)) (fun w' hC => by go_simp) ?_
            refine ot_val rfl rfl (.pointer (some ⟨wk, 1, none⟩)) (fun w' hC => by go_simp) ?_
            refine ot_val rfl rfl (.slice none 0 0) (fun w' hC => by have hc0 := hK hC b1; go_simp) ?_
            refine ot_val rfl rfl (.pointer (some ⟨cb, 0, none⟩)) (fun w' hC => by go_simp) ?_
            refine ot_val rfl rfl (.pointer (some ⟨cb, 0, none⟩)) (fun w' hC => by go_simp) ?_
            refine ot_val rfl rfl (.pointer (some ⟨cb, 5, none⟩)) (fun w' hC => by go_simp) ?_
            refine ot_val rfl rfl (.agg #[.string ⟨an.toArray⟩, .string ⟨am.toArray⟩, .int .i64 tim]) (fun w' hC => by have hc5 := hK hC k5; have hc6 := hK hC k6; have hc7 := hK hC k7; go_simp) ?_
            refine ot_val rfl rfl (.pointer (some ⟨cb, 0, none⟩)) (fun w' hC => by go_simp) ?_
            refine ot_val rfl rfl (.pointer (some ⟨cb, 0, none⟩)) (fun w' hC => by go_simp) ?_
            refine ot_val rfl rfl (.pointer (some ⟨cb, 8, none⟩)) (fun w' hC => by go_simp) ?_
            refine ot_val rfl rfl (.string ⟨msg.toArray⟩) (fun w' hC => by have hc8 := hK hC k8; go_simp) ?_
            refine ot_val rfl rfl (.pointer (some ⟨wk, 0, none⟩)) (fun w' hC => by go_simp) ?_
            refine ot_val rfl rfl (vg) (fun w' hC => by go_simp) ?_
            refine ot_val rfl rfl (.slice avp lp.length cvp) (fun w' hC => by go_simp) ?_
            simp only [Act.put, sI, sS, sZ]
            clear k5 k6 k7 k8 b1
            refine ot_two ?_ ?_
            · skip
              have hcallA := author_nil ⟨an, am, tim⟩ { wB with drawn := wB.drawn + 1 }
              simp only at hcallA
              refine ot_enter rfl rfl 268 #[.slice none 0 0, .agg #[.string ⟨an.toArray⟩, .string ⟨am.toArray⟩, .int .i64 tim]] (by go_simp) ?_
              refine hcallA.mono ?_
              rintro _ w8 ⟨rfl, hkz⟩
              have hkc8 := hkd.trans hkz
              refine ⟨_, rfl, hkc8, ?_⟩
              simp only [Act.put, sI, sS, sZ]
              clear hcallA
              refine ot_two ?_ ?_
              · skip
                have hcallC := echanges_any (hP.es.same hkc8) lg lp vg (.slice avp lp.length cvp) (hFg.kept hkc8 (fun _ _ => _root_.id)) (hFp.kept hkc8 (fun _ _ => _root_.id)) (by omega) (by omega) hg1 hp1
                refine ot_enter rfl rfl 269 #[.pointer (some ⟨wk, 0, none⟩), vg, .slice avp lp.length cvp] (by go_simp) ?_
                refine hcallC.mono ?_
                rintro _ w9 ⟨vch, cs, rfl, hCh⟩
                have hkc9 := hkc8.trans hCh.kx
                refine ⟨_, rfl, hkc9, ?_⟩
                obtain ⟨ach, cch, hvch⟩ := row_shape hCh.own
                subst hvch
                simp only [Act.put, sI, sS, sZ]
                clear hcallC
                have hbs := hkc8.size
                have hcl : cs.length ≤ 120 := by have := hCh.len; omega
                refine ot_val rfl rfl (.agg #[.string ⟨#[99, 111, 109, 109, 105, 116]⟩, .string ⟨ref.toArray⟩, .int .i64 0, .string ⟨an.toArray⟩, .string ⟨am.toArray⟩, .int .i64 tim, .string ⟨msg.toArray⟩, .int .i64 0, .string ⟨#[]⟩, .slice none 0 0, .slice ach cs.length cch]) (fun w' hC => by go_simp) ?_
                simp only [Act.put, sI, sS, sZ]
                have hbz := Cb.new #[.string ⟨#[]⟩, .string ⟨#[]⟩, .int .i64 0, .string ⟨#[]⟩, .string ⟨#[]⟩, .int .i64 0, .string ⟨#[]⟩, .int .i64 0, .string ⟨#[]⟩, .slice none 0 0, .slice none 0 0] 158 w9
                have hkX : Kx (fun _ => False) wB (World.alloc w9 (.cells #[.string ⟨#[]⟩, .string ⟨#[]⟩, .int .i64 0, .string ⟨#[]⟩, .string ⟨#[]⟩, .int .i64 0, .string ⟨#[]⟩, .int .i64 0, .string ⟨#[]⟩, .slice none 0 0, .slice none 0 0] 158)) := hkc9.alloc _
                refine ot_run (w1 := World.alloc w9 (.cells #[.string ⟨#[]⟩, .string ⟨#[]⟩, .int .i64 0, .string ⟨#[]⟩, .string ⟨#[]⟩, .int .i64 0, .string ⟨#[]⟩, .int .i64 0, .string ⟨#[]⟩, .slice none 0 0, .slice none 0 0] 158)) rfl rfl (.pointer (some ⟨(w9).heap.size, 0, none⟩)) (by go_simp) hkX ?_
                simp only [Act.put, sI, sS, sZ]
                refine ot_nil ?_
                have hF := Cmd8.of (cmd := #[.string ⟨#[99, 111, 109, 109, 105, 116]⟩, .string ⟨ref.toArray⟩, .int .i64 0, .string ⟨an.toArray⟩, .string ⟨am.toArray⟩, .int .i64 tim, .string ⟨msg.toArray⟩, .int .i64 0, .string ⟨#[]⟩, .slice none 0 0, .slice ach cs.length cch]) (by first | exact hkd.size | exact hkc8.size | exact hkc9.size) hkX hbz (hCh.own.alloc _) hbs hcl hCh.ok
                go_wp2_with (refine wpList_storeAll _ rfl 158 _ _ rfl rfl rfl hbz (hall _ rfl) rfl (by simp [Value.oneCell']) ?_)
                go_meet
                exact ⟨_, _, _, cs, rfl, hF⟩
              · skip
                have hbz := Cb.new #[.string ⟨#[]⟩, .string ⟨#[]⟩, .int .i64 0, .string ⟨#[]⟩, .string ⟨#[]⟩, .int .i64 0, .string ⟨#[]⟩, .int .i64 0, .string ⟨#[]⟩, .slice none 0 0, .slice none 0 0] 158 w8
                have hkX : Kx (fun _ => False) wB (World.alloc w8 (.cells #[.string ⟨#[]⟩, .string ⟨#[]⟩, .int .i64 0, .string ⟨#[]⟩, .string ⟨#[]⟩, .int .i64 0, .string ⟨#[]⟩, .int .i64 0, .string ⟨#[]⟩, .slice none 0 0, .slice none 0 0] 158)) := hkc8.alloc _
                refine ot_run (w1 := World.alloc w8 (.cells #[.string ⟨#[]⟩, .string ⟨#[]⟩, .int .i64 0, .string ⟨#[]⟩, .string ⟨#[]⟩, .int .i64 0, .string ⟨#[]⟩, .int .i64 0, .string ⟨#[]⟩, .slice none 0 0, .slice none 0 0] 158)) rfl rfl (.pointer (some ⟨(w8).heap.size, 0, none⟩)) (by go_simp) hkX ?_
                simp only [Act.put, sI, sS, sZ]
                generalize hwX : World.alloc w8 (.cells #[.string ⟨#[]⟩, .string ⟨#[]⟩, .int .i64 0, .string ⟨#[]⟩, .string ⟨#[]⟩, .int .i64 0, .string ⟨#[]⟩, .int .i64 0, .string ⟨#[]⟩, .slice none 0 0, .slice none 0 0] 158) = wX at *
                clear hwX
                have hcallC := echanges_any (hP.es.same hkX) lg lp vg (.slice avp lp.length cvp) (hFg.kept hkX (fun _ _ => _root_.id)) (hFp.kept hkX (fun _ _ => _root_.id)) (by omega) (by omega) hg1 hp1
                refine ot_enter rfl rfl 269 #[.pointer (some ⟨wk, 0, none⟩), vg, .slice avp lp.length cvp] (by go_simp) ?_
                refine hcallC.mono ?_
                rintro _ w9 ⟨vch, cs, rfl, hCh⟩
                have hkc9 := hkX.trans hCh.kx
                refine ⟨_, rfl, hkc9, ?_⟩
                obtain ⟨ach, cch, hvch⟩ := row_shape hCh.own
                subst hvch
                simp only [Act.put, sI, sS, sZ]
                clear hcallC
                have hbs := hkX.size
                have hcl : cs.length ≤ 120 := by have := hCh.len; omega
                have hbz := hbz.kept hCh.kx _root_.id
                refine ot_val rfl rfl (.agg #[.string ⟨#[99, 111, 109, 109, 105, 116]⟩, .string ⟨ref.toArray⟩, .int .i64 0, .string ⟨an.toArray⟩, .string ⟨am.toArray⟩, .int .i64 tim, .string ⟨msg.toArray⟩, .int .i64 0, .string ⟨#[]⟩, .slice none 0 0, .slice ach cs.length cch]) (fun w' hC => by go_simp) ?_
                simp only [Act.put, sI, sS, sZ]
                refine ot_nil ?_
                have hF := Cmd8.of (cmd := #[.string ⟨#[99, 111, 109, 109, 105, 116]⟩, .string ⟨ref.toArray⟩, .int .i64 0, .string ⟨an.toArray⟩, .string ⟨am.toArray⟩, .int .i64 tim, .string ⟨msg.toArray⟩, .int .i64 0, .string ⟨#[]⟩, .slice none 0 0, .slice ach cs.length cch]) (by first | exact hkd.size | exact hkc8.size | exact hkc9.size) hkc9 hbz hCh.own hbs hcl hCh.ok
                go_wp2_with (refine wpList_storeAll _ rfl 158 _ _ rfl rfl rfl hbz (hall _ rfl) rfl (by simp [Value.oneCell']) ?_)
                go_meet
                exact ⟨_, _, _, cs, rfl, hF⟩
            · skip
              have hbz := Cb.new #[.string ⟨#[]⟩, .string ⟨#[]⟩, .int .i64 0, .string ⟨#[]⟩, .string ⟨#[]⟩, .int .i64 0, .string ⟨#[]⟩, .int .i64 0, .string ⟨#[]⟩, .slice none 0 0, .slice none 0 0] 158 { wB with drawn := wB.drawn + 1 }
              have hkX : Kx (fun _ => False) wB (World.alloc { wB with drawn := wB.drawn + 1 } (.cells #[.string ⟨#[]⟩, .string ⟨#[]⟩, .int .i64 0, .string ⟨#[]⟩, .string ⟨#[]⟩, .int .i64 0, .string ⟨#[]⟩, .int .i64 0, .string ⟨#[]⟩, .slice none 0 0, .slice none 0 0] 158)) := hkd.alloc _
              refine ot_run (w1 := World.alloc { wB with drawn := wB.drawn + 1 } (.cells #[.string ⟨#[]⟩, .string ⟨#[]⟩, .int .i64 0, .string ⟨#[]⟩, .string ⟨#[]⟩, .int .i64 0, .string ⟨#[]⟩, .int .i64 0, .string ⟨#[]⟩, .slice none 0 0, .slice none 0 0] 158)) rfl rfl (.pointer (some ⟨({ wB with drawn := wB.drawn + 1 }).heap.size, 0, none⟩)) (by go_simp) hkX ?_
              simp only [Act.put, sI, sS, sZ]
              generalize hwX : World.alloc { wB with drawn := wB.drawn + 1 } (.cells #[.string ⟨#[]⟩, .string ⟨#[]⟩, .int .i64 0, .string ⟨#[]⟩, .string ⟨#[]⟩, .int .i64 0, .string ⟨#[]⟩, .int .i64 0, .string ⟨#[]⟩, .slice none 0 0, .slice none 0 0] 158) = wX at *
              clear hwX
              have hcallA := author_nil ⟨an, am, tim⟩ wX
              simp only at hcallA
              refine ot_enter rfl rfl 268 #[.slice none 0 0, .agg #[.string ⟨an.toArray⟩, .string ⟨am.toArray⟩, .int .i64 tim]] (by go_simp) ?_
              refine hcallA.mono ?_
              rintro _ w8 ⟨rfl, hkz⟩
              have hkc8 := hkX.trans hkz
              refine ⟨_, rfl, hkc8, ?_⟩
              simp only [Act.put, sI, sS, sZ]
              clear hcallA
              have hbz := hbz.kept hkz _root_.id
              have hcallC := echanges_any (hP.es.same hkc8) lg lp vg (.slice avp lp.length cvp) (hFg.kept hkc8 (fun _ _ => _root_.id)) (hFp.kept hkc8 (fun _ _ => _root_.id)) (by omega) (by omega) hg1 hp1
              refine ot_enter rfl rfl 269 #[.pointer (some ⟨wk, 0, none⟩), vg, .slice avp lp.length cvp] (by go_simp) ?_
              refine hcallC.mono ?_
              rintro _ w9 ⟨vch, cs, rfl, hCh⟩
              have hkc9 := hkc8.trans hCh.kx
              refine ⟨_, rfl, hkc9, ?_⟩
              obtain ⟨ach, cch, hvch⟩ := row_shape hCh.own
              subst hvch
              simp only [Act.put, sI, sS, sZ]
              clear hcallC
              have hbs := hkc8.size
              have hcl : cs.length ≤ 120 := by have := hCh.len; omega
              have hbz := hbz.kept hCh.kx _root_.id
              refine ot_val rfl rfl (.agg #[.string ⟨#[99, 111, 109, 109, 105, 116]⟩, .string ⟨ref.toArray⟩, .int .i64 0, .string ⟨an.toArray⟩, .string ⟨am.toArray⟩, .int .i64 tim, .string ⟨msg.toArray⟩, .int .i64 0, .string ⟨#[]⟩, .slice none 0 0, .slice ach cs.length cch]) (fun w' hC => by go_simp) ?_
              simp only [Act.put, sI, sS, sZ]
              refine ot_nil ?_
              have hF := Cmd8.of (cmd := #[.string ⟨#[99, 111, 109, 109, 105, 116]⟩, .string ⟨ref.toArray⟩, .int .i64 0, .string ⟨an.toArray⟩, .string ⟨am.toArray⟩, .int .i64 tim, .string ⟨msg.toArray⟩, .int .i64 0, .string ⟨#[]⟩, .slice none 0 0, .slice ach cs.length cch]) (by first | exact hkd.size | exact hkc8.size | exact hkc9.size) hkc9 hbz hCh.own hbs hcl hCh.ok
              go_wp2_with (refine wpList_storeAll _ rfl 158 _ _ rfl rfl rfl hbz (hall _ rfl) rfl (by simp [Value.oneCell']) ?_)
              go_meet
              exact ⟨_, _, _, cs, rfl, hF⟩
          case rest =>
            obtain ⟨bb, ach, cch, cs, rfl, hM8⟩ := hcut
            have hP8 := hP.same hM8.kx
            have hcallP := eparents_any hP8.es cb hgd
            clear hFg hFp
            go_wp2_with fail
            refine hcallP.mono ?_
            rintro _ w10 ⟨fm, qs, aq, cq, rfl, hfm, hql, hq6, hRd, hob, hk10⟩
            clear hcallP
            have hb10 := hM8.blk.kept hk10 _root_.id
            have y7 := Cb.cell hb10 7
            have y8 := Cb.cell hb10 8
            have y9 := Cb.cell hb10 9
            have z7 := Cb.frozen hb10 7
            have z8 := Cb.frozen hb10 8
            have z9 := Cb.frozen hb10 9
            have hkA : Kx (Only bb) w10 (((w10.setCell ⟨bb, 7, none⟩ (.int .i64 (fm : Int))).setCell ⟨bb, 8, none⟩ (.string ⟨#[]⟩)).setCell ⟨bb, 9, none⟩ (.slice aq qs.length cq)) := (((Kx.refl _ _).only_set _).only_set _).only_set _
            have hb11 : Cb bb #[.string ⟨#[99, 111, 109, 109, 105, 116]⟩, .string ⟨ref.toArray⟩, .int .i64 0, .string ⟨an.toArray⟩, .string ⟨am.toArray⟩, .int .i64 tim, .string ⟨msg.toArray⟩, .int .i64 (fm : Int), .string ⟨#[]⟩, .slice aq qs.length cq, .slice ach cs.length cch] 158 (((w10.setCell ⟨bb, 7, none⟩ (.int .i64 (fm : Int))).setCell ⟨bb, 8, none⟩ (.string ⟨#[]⟩)).setCell ⟨bb, 9, none⟩ (.slice aq qs.length cq)) := ((hb10.set 7 _).set 8 _).set 9 _
            have hge := hM8.ge
            have hbl : bb < wc.heap.size := hM8.blk.lt
            have hoB := hP.es.old
            have hmkB := hP.es.ew.lt.1
            have hkB11 : Kx (fun _ => False) wB (((w10.setCell ⟨bb, 7, none⟩ (.int .i64 (fm : Int))).setCell ⟨bb, 8, none⟩ (.string ⟨#[]⟩)).setCell ⟨bb, 9, none⟩ (.slice aq qs.length cq)) := (hM8.kx.trans hk10).join hkA (fun j hj y => absurd (show j = bb from y) (by omega))
            have hP11 := hP.same hkB11
            have k2 := Cb.cell (hcb0.kept hP11.es.kx _root_.id) 2
            have hcallM := enewMark_any hP11.es.ew id (by omega) (by omega)
            clear hP11
            go_wp2_with fail
            clear k2 y7 y8 y9 z7 z8 z9
            generalize (((w10.setCell ⟨bb, 7, none⟩ (.int .i64 (fm : Int))).setCell ⟨bb, 8, none⟩ (.string ⟨#[]⟩)).setCell ⟨bb, 9, none⟩ (.slice aq qs.length cq)) = w11 at *
            refine hcallM.mono ?_
            rintro _ w12 ⟨q, rfl, hq1, hq2, e12, hk12⟩
            clear hcallM
            have hb12 := hb11.kept hk12 (fun x => by have h2 : bb = mk := x; omega)
            have y2 := Cb.cell hb12 2
            have z2 := Cb.frozen hb12 2
            have hk13 : Kx (Only bb) w12 (w12.setCell ⟨bb, 2, none⟩ (.int .i64 (q : Int))) := (Kx.refl _ _).only_set _
            have hb13 : Cb bb #[.string ⟨#[99, 111, 109, 109, 105, 116]⟩, .string ⟨ref.toArray⟩, .int .i64 (q : Int), .string ⟨an.toArray⟩, .string ⟨am.toArray⟩, .int .i64 tim, .string ⟨msg.toArray⟩, .int .i64 (fm : Int), .string ⟨#[]⟩, .slice aq qs.length cq, .slice ach cs.length cch] 158 (w12.setCell ⟨bb, 2, none⟩ (.int .i64 (q : Int))) := hb12.set 2 _
            have hkm : Kx (Only mk) wB (w12.setCell ⟨bb, 2, none⟩ (.int .i64 (q : Int))) := ((hkB11.mono (fun _ _ x => x.elim)).trans hk12).join hk13 (fun j hj y => absurd (show j = bb from y) (by omega))
            have hm13 := e12.mks.kept hk13 (fun x => by have h2 : mk = bb := x; omega)
            have e13 := hP.es.ew.mark hq2 hkm hm13
            have hP13 := hP.turn (d2 := 1) e13 (hkm.mono (fun _ _ x => .inr (.inl x))) (fun k x => .inl x) (fun x => x) (fun x => by have := hP.cnt x; omega)
            have hkv : Kx (fun k => k = bb ∨ k = mk) w10 (w12.setCell ⟨bb, 2, none⟩ (.int .i64 (q : Int))) := ((hkA.mono (fun _ _ x => .inl x)).trans (hk12.mono (fun _ _ x => .inr x))).trans (hk13.mono (fun _ _ x => .inl x))
            have hcB := hM8.kx.size
            have hRm : Reads (w12.setCell ⟨bb, 2, none⟩ (.int .i64 (q : Int))) (.slice aq qs.length cq) qs.length (qs.flatMap whQ) := hRd.kept hkv (fun k x y => by
              have h1 := (hob k x).1
              rcases y with y | y <;> omega)
            have hRc : Reads (w12.setCell ⟨bb, 2, none⟩ (.int .i64 (q : Int))) (.slice ach cs.length cch) cs.length (cs.flatMap chC1) := (hM8.rd.kept hk10 (fun _ _ => _root_.id)).kept hkv (fun k x y => by
              have h1 := hM8.own k x
              rcases y with y | y <;> omega)
            have hgb := HGB.out
            have hadd := eadd_any e13 ⟨[99, 111, 109, 109, 105, 116], ref, q, ⟨an, am, tim⟩, msg, fm, [], .slice aq qs.length cq, .slice ach cs.length cch, qs.map (fun q => (q, [])), cs⟩ aq ach cq cch (by rw [List.length_map]) rfl (Nat.le_trans hM8.len (by decide)) (fun h30 => by
              refine ⟨.inr (.inl rfl), hq2, hfm, hgb.name, hgb.mail, hgb.time, ?_, fun _ => ?_, ?_, hRc, fun k x => ?_, fun k x => ?_, ⟨?_, fun x hx => ?_⟩, ⟨h30, hM8.ok⟩⟩
              · have h1 := hgb.msg
                show msg.length + ref.length + 0 ≤ 15000
                omega
              · have h1 := hgb.msg
                show msg.length + ref.length + 0 ≤ 3000
                omega
              · show Reads _ (.slice aq qs.length cq) (qs.map _).length ((qs.map _).flatMap whC1)
                rw [List.length_map, whQ_flat]
                exact hRm
              · have h1 := hob k x
                refine ⟨fun y => ?_, Nat.lt_of_lt_of_le h1.2 hkv.size⟩
                have h2 := hoB k y
                omega
              · have h1 := hM8.own k x
                refine ⟨fun y => ?_, Nat.lt_of_lt_of_le h1.2.1 (Nat.le_trans hk10.size hkv.size)⟩
                have h2 := hoB k y
                omega
              · show (qs.map _).length ≤ 4
                rw [List.length_map]
                exact hql
              · obtain ⟨q', hq', rfl⟩ := List.mem_map.1 hx
                exact ⟨hq6 q' hq', Nat.zero_le _⟩)
            unfold cmdV at hadd
            simp only at hadd
            have x0 := Cb.cell hb13 0
            have x1 := Cb.cell hb13 1
            have x2 := Cb.cell hb13 2
            have x3 := Cb.cell hb13 3
            have x4 := Cb.cell hb13 4
            have x5 := Cb.cell hb13 5
            have x6 := Cb.cell hb13 6
            have x7 := Cb.cell hb13 7
            have x8 := Cb.cell hb13 8
            have x9 := Cb.cell hb13 9
            have x10 := Cb.cell hb13 10
            clear hRm hRc hRd hob hM8 hkA hkB11 hkm hm13 hkv e12 hb11 hb10 hk10 hk12 e13 hq6 hgb
            go_wp2_with fail
            generalize w12.setCell ⟨bb, 2, none⟩ (.int .i64 (q : Int)) = w13 at *
            clear x0 x1 x2 x3 x4 x5 x6 x7 x8 x9 x10 y2 z2 hk13 hb12
            refine hadd.mono ?_
            rintro _ w14 ⟨rfl, vc5, l5, tm5, e14, hk14, hl14, ht14, hf14⟩
            clear hadd
            have hP14 := hP13.turn (d2 := 0) e14 hk14 hl14 (fun x => (ht14 x).1) (fun x => by
              cases htm : tm1 with
              | true => rw [(ht14 htm).1] at x; cases x
              | false =>
                have := hP13.cnt htm
                rcases hf14 htm with ⟨_, h2⟩ | ⟨h2, _⟩
                · omega
                · rw [h2] at x; cases x)
            have hb14 := hb13.kept hk14 (fun y => by have h2 := hoB bb y; omega)
            clear hb13 hP13 e14 hk14
            have v2 := Cb.cell hb14 2
            have b4 := Cb.cell hP14.es.ew.blk 4
            have hkd := (Kx.refl (fun _ => False) w14).drew
            have hPd := hP14.same hkd
            have hnms := hPd.es.ew.nms
            have hK : ∀ {w' : World} {p : Addr} {v : Value}, Kx (fun _ => False) w14 w' → w14.cell? p = some v → w'.cell? p = some v := fun hk hc => (hk.cell (lt_of_cell hc) _root_.id).trans hc
            go_wp2_with fail
            refine wp_region_ord2 (C := fun w' => Kx (fun _ => False) w14 w') [(0, true), (1, true), (2, true), (3, true), (4, true), (5, true), (6, true)] 7 (by kernel_rfl) (by kernel_rfl) rfl hkd ?_
            refine ord_val rfl (.pointer (some ⟨wk, 0, none⟩)) (fun w' hC => by go_simp) ?_
            refine ord_val rfl (.pointer (some ⟨wk, 0, none⟩)) (fun w' hC => by go_simp) ?_
            refine ord_val rfl (.pointer (some ⟨wk, 4, none⟩)) (fun w' hC => by go_simp) ?_
            refine ord_val rfl (.map (some nm)) (fun w' hC => by have hc0 := hK hC b4; go_simp) ?_
            refine ord_val rfl (.string ⟨ref.toArray⟩) (fun w' hC => by go_simp) ?_
            refine ord_val rfl (.pointer (some ⟨bb, 2, none⟩)) (fun w' hC => by go_simp) ?_
            refine ord_val rfl (.int .i64 (q : Int)) (fun w' hC => by have hc0 := hK hC v2; go_simp) ?_
            simp only [Act.put, sI, sS, sZ]
            refine ord_nil ?_
            refine wpList_putS rfl _ _ _ 196 rfl 3 (by kernel_rfl) (by kernel_rfl) nm n2b f2b rfl hnms (by omega) ref rfl hrl _ rfl ?_
            intro w15 hm15 hk15
            have e15 := hPd.es.ew.name hq2 hk15 hm15
            have hP15 := hPd.turn (d2 := 0) e15 (hk15.mono (fun _ _ x => .inr (.inr (.inl x)))) (fun k x => .inl x) (fun x => x) hPd.cnt
            have hF : EcomR w0 w w15 wk mk nm h vc l tm n1 n2 := ⟨_, _, _, _, _, _, _, SP.pre hkw5 hP15, by omega, by omega, by omega⟩
            clear hm15 hk15 e15 hP15 hPd hP14 hnms hK v2 b4 hb14
            go_wp2
            go_end0
            exact ⟨rfl, hF⟩

end Go.Proofs.YtepgoppgblfjbaaGreatDoor
