import Derived.Test.YtepgoppgblfjbaaGreatDoorGw29
namespace Go.Proofs.YtepgoppgblfjbaaGreatDoor
open Go.RowKit

set_option maxHeartbeats 800000 in
set_option maxRecDepth 100000 in
theorem eaddTag_any {M : Nat → Prop} {w0 w : World} {wk mk nm h : Nat} {vc : Value} {l : List Ocm} {tm : Bool} {n1 n2 : Nat} {f1 f2 : List UInt8 → Option Value} (e : Es w0 w wk mk nm h vc l tm n1 n2 f1 f2) (tb : Nat) (s : List UInt8) (ht : Tg M w0 tb s) :
    Calls Tryz.prog 143 #[.pointer (some ⟨wk, 0, none⟩), .pointer (some ⟨tb, 0, none⟩)] w fun x w' => x = .returned (.tuple #[]) ∧ AddR w w' wk mk nm h vc l tm n1 n2 f1 f2 := by
  have hmx : maxLen = 9223372036854775807 := rfl
  obtain ⟨x, name, cb, msg, hcb, _, _, hgd, hna, hms⟩ := ht
  have hcb2 := hcb.kept e.kx id
  obtain ⟨cid, hcl, hci0⟩ := hgd.id
  have hci := (e.kx.cell (p := ⟨cb, 2, none⟩) (lt_of_cell (p := ⟨cb, 2, none⟩) hci0) id).trans hci0
  obtain ⟨q, hgv, hq⟩ := e.ew.look cid
  have hmks := e.ew.mks
  have hidl : cid.length ≤ maxLen := by omega
  have b3 := Cb.cell e.ew.blk 3
  have t3 := Cb.cell hcb2 3
  have t4 := Cb.cell hcb2 4
  have t5 := Cb.cell hcb2 5
  have hK : ∀ {w' : World} {p : Addr} {v : Value}, Kx (fun _ => False) w w' → w.cell? p = some v → w'.cell? p = some v := fun hk hc => (hk.cell (lt_of_cell hc) id).trans hc
  clear hci0 hcb hgd
  go_enter Tryz.func143, Tryz.ntmps143
  go_wp2_with fail
  refine wp_region_ord2 (C := fun w' => Kx (fun _ => False) w w') [(0, true), (1, true), (2, true), (3, true), (4, true), (5, true), (6, true), (7, true), (8, true), (9, true), (10, true), (11, true), (12, true), (13, true), (14, false)] 15 (by kernel_rfl) (by kernel_rfl) rfl (Kx.refl _ _).drew ?_
  refine ord_val rfl (.pointer (some ⟨wk, 0, none⟩)) (fun w' hC => by go_simp) ?_
  refine ord_val rfl (.pointer (some ⟨wk, 0, none⟩)) (fun w' hC => by go_simp) ?_
  refine ord_val rfl (.pointer (some ⟨wk, 3, none⟩)) (fun w' hC => by go_simp) ?_
  refine ord_val rfl (.map (some mk)) (fun w' hC => by have hc0 := hK hC b3; go_simp) ?_
  refine ord_val rfl (.pointer (some ⟨tb, 0, none⟩)) (fun w' hC => by go_simp) ?_
  refine ord_val rfl (.pointer (some ⟨tb, 0, none⟩)) (fun w' hC => by go_simp) ?_
  refine ord_val rfl (.pointer (some ⟨tb, 4, none⟩)) (fun w' hC => by go_simp) ?_
  refine ord_val rfl (.pointer (some ⟨cb, 0, none⟩)) (fun w' hC => by have hc0 := hK hC t4; go_simp) ?_
  refine ord_val rfl (.pointer (some ⟨cb, 0, none⟩)) (fun w' hC => by go_simp) ?_
  refine ord_val rfl (.pointer (some ⟨cb, 0, none⟩)) (fun w' hC => by go_simp) ?_
  refine ord_val rfl (.pointer (some ⟨cb, 2, none⟩)) (fun w' hC => by go_simp) ?_
  refine ord_val rfl (.string ⟨cid.toArray⟩) (fun w' hC => by have hc0 := hK hC hci; go_simp) ?_
  simp only [Act.put, sI, sS, sZ]
  refine ord_lookS (K := 9) rfl _ _ 196 rfl 3 under9 under196 (.int .i64 0) zero3 mk n1 f1 rfl (fun w' hC => hmks.kept hC id) cid rfl hidl ?_
  rw [hgv]
  refine ord_val rfl (.agg #[.int .i64 (q : Int), .string ⟨#[]⟩]) (fun w' hC => by go_simp) ?_
  simp only [Act.put, sI, sS, sZ]
  have hkd := (Kx.refl (fun _ => False) w).drew
  have hkA := hkd.alloc (.cells #[.int .i64 0, .string ⟨#[]⟩] 154)
  refine ord_run (w1 := World.alloc { w with drawn := w.drawn + 1 } (.cells #[.int .i64 0, .string ⟨#[]⟩] 154)) rfl (.pointer (some ⟨w.heap.size, 0, none⟩)) (by go_simp) hkA ?_
  refine ord_nil ?_
  simp only [Act.put, sI, sS, sZ]
  go_wp2_with fail
  have hkB := ((Kx.refl (fun _ => False) w).alloc (.cells #[.int .i64 (q : Int), .string ⟨#[]⟩] 154)).drew
  have hbx := (Cb.new #[.int .i64 (q : Int), .string ⟨#[]⟩] 154 w).kept ((Kx.refl (fun _ => False) _).drew) id
  have e2 := e.same hkB
  clear hkA hkd
  generalize (w.alloc (.cells #[.int .i64 (q : Int), .string ⟨#[]⟩] 154)).drew = w2 at *
  generalize w.heap.size = bb at *
  have t3' := hK hkB t3
  have t5' := hK hkB t5
  refine wp_region_quiet_tail (C := fun w' => Kx (fun _ => False) w2 w') 11 (by kernel_rfl) (by kernel_rfl) (Kx.refl _ _).drew ?_
  refine quiet_val rfl (.pointer (some ⟨wk, 0, none⟩)) (fun w' hC => by go_simp) ?_
  refine quiet_val rfl (.pointer (some ⟨tb, 0, none⟩)) (fun w' hC => by go_simp) ?_
  refine quiet_val rfl (.pointer (some ⟨tb, 0, none⟩)) (fun w' hC => by go_simp) ?_
  refine quiet_val rfl (.pointer (some ⟨tb, 3, none⟩)) (fun w' hC => by go_simp) ?_
  refine quiet_val rfl (.string ⟨name.toArray⟩) (fun w' hC => by
    have hc0 := (hC.cell (p := ⟨tb, 3, none⟩) (lt_of_cell (p := ⟨tb, 3, none⟩) t3') id).trans t3'
    go_simp) ?_
  refine quiet_val rfl (.agg #[.int .i64 (q : Int), .string ⟨#[]⟩]) (fun w' hC => by
    have hc0 := Cb.cell (hbx.kept hC id) 0
    have hc1 := Cb.cell (hbx.kept hC id) 1
    go_simp) ?_
  refine quiet_val rfl (.pointer (some ⟨tb, 0, none⟩)) (fun w' hC => by go_simp) ?_
  refine quiet_val rfl (.pointer (some ⟨tb, 0, none⟩)) (fun w' hC => by go_simp) ?_
  refine quiet_val rfl (.pointer (some ⟨tb, 5, none⟩)) (fun w' hC => by go_simp) ?_
  refine quiet_val rfl (.string ⟨msg.toArray⟩) (fun w' hC => by
    have hc0 := (hC.cell (p := ⟨tb, 5, none⟩) (lt_of_cell (p := ⟨tb, 5, none⟩) t5') id).trans t5'
    go_simp) ?_
  refine quiet_val rfl (.agg #[.string ⟨#[116, 97, 103]⟩, .string ⟨name.toArray⟩, .int .i64 0, .string ⟨#[]⟩, .string ⟨#[]⟩, .int .i64 0, .string ⟨msg.toArray⟩, .int .i64 (q : Int), .string ⟨#[]⟩, .slice none 0 0, .slice none 0 0]) (fun w' hC => by go_simp) ?_
  refine wpQuiet_nil (fun w3 hC => ?_)
  simp only [Act.put, sI, sS, sZ, List.drop_succ_cons, List.drop_zero]
  have e3 := e2.same hC
  have hadd := eadd_any e3.ew ⟨[116, 97, 103], name, 0, ⟨[], [], 0⟩, msg, q, [], .slice none 0 0, .slice none 0 0, [], []⟩ none none 0 0 rfl rfl (Nat.zero_le _) (fun _ => oc_plain _ _ _ _ _ _ _ (.inr (.inl rfl)) (by decide) hq (by omega))
  unfold cmdV at hadd
  simp only at hadd
  have hk3 := hkB.trans hC
  go_wp2_with fail
  refine hadd.mono ?_
  rintro _ w5 ⟨rfl, vc5, l5, tm5, e5, hk5, hl5, ht5, hf5⟩
  clear hadd
  have hF : AddR w w5 wk mk nm h vc l tm n1 n2 f1 f2 := ⟨vc5, l5, tm5, e5, (hk3.mono (fun _ _ x => x.elim)).trans hk5, fun k x => (hl5 k x).imp (fun x => x) (fun x => Nat.le_trans hk3.size x), ht5, hf5⟩
  clear e5 hk5 hC e3 e2
  go_wp2
  go_end0
  exact ⟨rfl, hF⟩

theorem areRight_nil (w : World) : Calls Tryz.prog 94 #[.slice none 0 0] w fun e w' => e = .returned (.bool true) ∧ w' = w := by
  go_enter Tryz.func94, Tryz.ntmps94
  go_wp2_with fail
  go_loopw [10] (fun iv wr => iv = .int .i64 0 ∧ wr = w) (fun _ _ => 0)
  case atStart => exact ⟨rfl, rfl⟩
  case round =>
    obtain ⟨rfl, hw⟩ := hrel
    subst hw
    go_wp2
    go_ret
    exact ⟨rfl, rfl⟩

set_option maxHeartbeats 800000 in
set_option maxRecDepth 100000 in
theorem author_nil (au : Au) (w : World) : Calls Tryz.prog 268 #[.slice none 0 0, .agg #[.string ⟨au.name.toArray⟩, .string ⟨au.mail.toArray⟩, .int .i64 au.time]] w fun e w' => e = .returned (.agg #[.string ⟨au.name.toArray⟩, .string ⟨au.mail.toArray⟩, .int .i64 au.time]) ∧ Kx (fun _ => False) w w' := by
  obtain ⟨an, ama, tm⟩ := au
  simp only
  go_enter Tryz.func268, Tryz.ntmps268
  have hA := ((Kx.refl (fun _ => False) w).alloc (.cells #[.string ⟨an.toArray⟩, .string ⟨ama.toArray⟩, .int .i64 tm] 110)).alloc (.cells #[.string ⟨#[]⟩, .string ⟨#[]⟩, .int .i64 0] 110)
  have hb1 := (Cb.new #[.string ⟨an.toArray⟩, .string ⟨ama.toArray⟩, .int .i64 tm] 110 w).kept ((Kx.refl (fun _ => False) _).alloc (.cells #[.string ⟨#[]⟩, .string ⟨#[]⟩, .int .i64 0] 110)) id
  have hb2 := Cb.new #[.string ⟨#[]⟩, .string ⟨#[]⟩, .int .i64 0] 110 (w.alloc (.cells #[.string ⟨an.toArray⟩, .string ⟨ama.toArray⟩, .int .i64 tm] 110))
  have hsz : (w.alloc (.cells #[.string ⟨an.toArray⟩, .string ⟨ama.toArray⟩, .int .i64 tm] 110)).heap.size = w.heap.size + 1 := by simp
  rw [hsz] at hb2
  go_wp2_with fail
  generalize (w.alloc (.cells #[.string ⟨an.toArray⟩, .string ⟨ama.toArray⟩, .int .i64 tm] 110)).alloc (.cells #[.string ⟨#[]⟩, .string ⟨#[]⟩, .int .i64 0] 110) = w2 at *
  generalize hk : w.heap.size = k at *
  clear hsz
  go_loopw [9] (fun iv wr => iv = .int .i64 0 ∧ wr = w2) (fun _ _ => 0)
  case atStart => exact ⟨rfl, rfl⟩
  case round =>
    obtain ⟨rfl, hw⟩ := hrel
    subst hw
    have y0 := Cb.cell hb1 0
    have y1 := Cb.cell hb1 1
    have y2 := Cb.cell hb1 2
    have hall : (#[.string ⟨an.toArray⟩, .string ⟨ama.toArray⟩, .int .i64 tm] : Array Value).all (·.oneCell') = true := by simp [Value.oneCell']
    have hi : (Tryz.prog.info? 110).map (·.size) = some (#[.string ⟨an.toArray⟩, .string ⟨ama.toArray⟩, .int .i64 tm] : Array Value).size := (show (Tryz.prog.info? 110).map (·.size) = some 3 by kernel_rfl)
    have hk2 := hA.setRow (g := k + 1) (fun h => absurd h (by omega)) #[.string ⟨an.toArray⟩, .string ⟨ama.toArray⟩, .int .i64 tm]
    have hb3 := hb2.row #[.string ⟨an.toArray⟩, .string ⟨ama.toArray⟩, .int .i64 tm]
    go_wp2_with (refine wpList_storeAll _ rfl 110 _ _ rfl rfl rfl hb2 hi rfl hall ?_)
    refine bodyPost_ret (v := .agg #[.string ⟨an.toArray⟩, .string ⟨ama.toArray⟩, .int .i64 tm]) (results_arr (k := k + 1) rfl rfl hb3 Tryz.underlying110 rfl hi) rfl ?_
    exact ⟨rfl, hk2⟩

theorem info154 : (Tryz.prog.info? 154).map (fun i => (i.zero, i.size, i.bytes)) = some (some (.agg #[.int .i64 0, .string ⟨#[]⟩]), 2, 24) := by kernel_rfl
def whQ (q : Nat) : List Value := [.int .i64 (q : Int), .string ⟨#[]⟩]

set_option maxHeartbeats 3200000 in
set_option maxRecDepth 100000 in
theorem eparents_any {M : Nat → Prop} {w0 w : World} {wk mk nm h : Nat} {vc : Value} {l : List Ocm} {tm : Bool} {n1 n2 : Nat} {f1 f2 : List UInt8 → Option Value} (e : Es w0 w wk mk nm h vc l tm n1 n2 f1 f2) (cb : Nat) (hgd : Good M w0 cb) :
    Calls Tryz.prog 270 #[.pointer (some ⟨wk, 0, none⟩), .pointer (some ⟨cb, 0, none⟩)] w fun x w' => ∃ (fm : Nat) (qs : List Nat) (am : Option Addr) (cm : Nat), x = .returned (.tuple #[.agg #[.int .i64 (fm : Int), .string ⟨#[]⟩], .slice am qs.length cm]) ∧ fm ≤ 1000000 ∧ qs.length ≤ 4 ∧ (∀ q ∈ qs, q ≤ 1000000) ∧
      Reads w' (.slice am qs.length cm) qs.length (qs.flatMap whQ) ∧ (∀ k, (Value.slice am qs.length cm).ownBlock = some k → w.heap.size ≤ k ∧ k < w'.heap.size) ∧ Kx (fun _ => False) w w' := by
  have hmx : maxLen = 9223372036854775807 := rfl
  obtain ⟨i0, hi0, hz0, hz1, hz2⟩ := info_parts info154
  obtain ⟨⟨x, id, v, fl, ap, cp, ps, au, msg, hcb0, _, _, _, hpar0, hpl, hgds, _⟩, _⟩ := hgd.out
  have hA := (Kx.refl (fun _ => False) w).alloc (.cells #[.int .i64 0, .string ⟨#[]⟩] 154)
  have eA := e.same hA
  have hcb := hcb0.kept eA.kx _root_.id
  have c4 := Cb.cell hcb 4
  have hbr := Cb.new #[.int .i64 0, .string ⟨#[]⟩] 154 w
  have HP : Hid (ps ≠ [] → ∃ g o, ap = some ⟨g, o, none⟩ ∧ ∀ k x, (ps.map ptrV)[k]? = some x → w0.cell? ⟨g, o + k, none⟩ = some x) := fun hn => let ⟨g, o, a1, _, _, a4⟩ := hpar0 hn; ⟨g, o, a1, a4⟩
  have HG : Hid (∀ p ∈ ps, Good M w0 p) := hgds
  clear hpar0 hgds hcb0 hcb
  go_enter Tryz.func270, Tryz.ntmps270
  go_wp2_with fail
  clear c4
  have hsz : (w.alloc (.cells #[.int .i64 0, .string ⟨#[]⟩] 154)).heap.size = w.heap.size + 1 := by simp
  generalize w.alloc (.cells #[.int .i64 0, .string ⟨#[]⟩] 154) = w1 at *
  go_loopw [14, 6] (fun iv sv wr => ∃ (qs : List Nat), iv = .int .i64 (qs.length : Int) ∧ qs.length ≤ ps.length ∧ (∀ q ∈ qs, q ≤ 1000000) ∧ wr.ownsRow w1.heap.size 154 2 sv qs.length (qs.flatMap whQ) ∧ Kx (fun _ => False) w1 wr) (fun iv _ _ => ps.length - (intOf iv).toNat)
  case atStart => exact ⟨[], rfl, Nat.zero_le _, (fun q hq => by cases hq), World.ownsRow_nil _ _ _ _, Kx.refl _ _⟩
  case round =>
    obtain ⟨qs, rfl, hql, hq6, hown, hkr⟩ := hrel
    obtain ⟨av, cv, rfl⟩ := row_shape hown
    have eR := eA.same hkr
    by_cases hlt : qs.length < ps.length
    · have hlt2 : (qs.length : Int) < (ps.length : Int) := by omega
      obtain ⟨gp, op, rfl, hcl⟩ := HP.out (fun q => by rw [q] at hlt; simp at hlt)
      have hcp0 := hcl qs.length (ptrV ps[qs.length]) (by simp [hlt])
      have hcp := (eR.kx.cell (p := ⟨gp, op + qs.length, none⟩) (lt_of_cell (p := ⟨gp, op + qs.length, none⟩) hcp0) _root_.id).trans hcp0
      unfold ptrV at hcp
      obtain ⟨pid, hpidl, hpi0⟩ := (HG.out ps[qs.length] (List.getElem_mem hlt)).id
      have hpi := (eR.kx.cell (p := ⟨ps[qs.length], 2, none⟩) (lt_of_cell (p := ⟨ps[qs.length], 2, none⟩) hpi0) _root_.id).trans hpi0
      have HPB0 : ps[qs.length] ∈ ps := List.getElem_mem hlt
      generalize ps[qs.length] = pb at *
      have HPB : Hid (pb ∈ ps) := HPB0
      clear HPB0
      obtain ⟨q, hgv, hq⟩ := eR.ew.look pid
      have hmks := eR.ew.mks
      have b3 := Cb.cell eR.ew.blk 3
      have hidl : pid.length ≤ maxLen := by omega
      have hown0 := hown.lt
      clear hcl hcp0 hpi0
      go_wp2_with fail
      have hXo : ∀ k, (Value.slice av qs.length cv).ownBlock = some k → w1.heap.size ≤ k := fun k x => (hown.lt k x).1
      have hET : ∀ k, k < w1.heap.size → ¬ (Value.slice av qs.length cv).ownBlock = some k := fun k hk x => by have := hXo k x; omega
      have hwkl := eA.ew.blk.lt
      have hmkl := eA.ew.lt.1
      have hpbl : pb < w1.heap.size := by
        obtain ⟨_, _, hp2⟩ := (HG.out pb HPB.out).id
        exact Nat.lt_of_lt_of_le (lt_of_cell (p := ⟨pb, 2, none⟩) hp2) eA.kx.size
      refine wp_region_ord2 (C := fun w' => Kx (fun k => (Value.slice av qs.length cv).ownBlock = some k) wr w') [(0, true), (1, true), (2, true), (3, true), (4, true), (5, true), (6, true), (7, true), (8, true), (9, true), (10, true), (11, true), (12, false), (13, false)] 14 (by kernel_rfl) (by kernel_rfl) rfl (Kx.refl _ _).drew ?_
      refine ord_val rfl (.slice av qs.length cv) (fun w' hC => by go_simp) ?_
      refine ord_val rfl (.pointer (some ⟨wk, 0, none⟩)) (fun w' hC => by go_simp) ?_
      refine ord_val rfl (.pointer (some ⟨wk, 0, none⟩)) (fun w' hC => by go_simp) ?_
      refine ord_val rfl (.pointer (some ⟨wk, 3, none⟩)) (fun w' hC => by go_simp) ?_
      refine ord_val rfl (.map (some mk)) (fun w' hC => by
        have hc0 := (hC.cell (p := ⟨wk, 3, none⟩) (lt_of_cell (p := ⟨wk, 3, none⟩) b3) (hET wk hwkl)).trans b3
        go_simp) ?_
      refine ord_val rfl (.pointer (some ⟨pb, 0, none⟩)) (fun w' hC => by go_simp) ?_
      refine ord_val rfl (.pointer (some ⟨pb, 0, none⟩)) (fun w' hC => by go_simp) ?_
      refine ord_val rfl (.pointer (some ⟨pb, 0, none⟩)) (fun w' hC => by go_simp) ?_
      refine ord_val rfl (.pointer (some ⟨pb, 2, none⟩)) (fun w' hC => by go_simp) ?_
      refine ord_val rfl (.string ⟨pid.toArray⟩) (fun w' hC => by
        have hc0 := (hC.cell (p := ⟨pb, 2, none⟩) (lt_of_cell (p := ⟨pb, 2, none⟩) hpi) (hET pb hpbl)).trans hpi
        go_simp) ?_
      simp only [Act.put, sI, sS, sZ]
      refine ord_lookS (K := 9) rfl _ _ 196 rfl 3 under9 under196 (.int .i64 0) zero3 mk n1 f1 rfl (fun w' hC => hmks.kept hC (hET mk hmkl)) pid rfl hidl ?_
      rw [hgv]
      refine ord_val rfl (.agg #[.int .i64 (q : Int), .string ⟨#[]⟩]) (fun w' hC => by go_simp) ?_
      simp only [Act.put, sI, sS, sZ]
      have hkd := (Kx.refl (fun _ => False) wr).drew
      have hkd2 := hkd.alloc (.cells #[.int .i64 (q : Int), .string ⟨#[]⟩] 154)
      have hC1 : Kx (fun k => (Value.slice av qs.length cv).ownBlock = some k) wr (World.alloc { wr with drawn := wr.drawn + 1 } (.cells #[.int .i64 (q : Int), .string ⟨#[]⟩] 154)) := hkd2.mono (fun _ _ x => x.elim)
      refine ord_run (w1 := World.alloc { wr with drawn := wr.drawn + 1 } (.cells #[.int .i64 (q : Int), .string ⟨#[]⟩] 154)) rfl (.slice (some ⟨wr.heap.size, 0, none⟩) 1 1) (by go_simp) hC1 ?_
      simp only [Act.put, sI, sS, sZ]
      have hrow := own_kept' hown hkd2 (fun _ _ _ => _root_.id)
      refine ord_step ?_
      refine wpList_append_own_at _ rfl (.tmp 18) (.tmp 30) 155 rfl w1.heap.size 154 i0 _ 2 24 Tryz.underlying155 hi0 hz0 hz1 hz2 rfl (by decide) _ _ (qs.flatMap whQ) rfl hrow ⟨wr.heap.size, 0, none⟩ 1 1 [.int .i64 (q : Int), .string ⟨#[]⟩] rfl rfl ?c1 ?c2 ?c3 ?c4 ?c5 ?_
      case c1 => exact cells_new { wr with drawn := wr.drawn + 1 } [.int .i64 (q : Int), .string ⟨#[]⟩] 154
      case c2 => simp [Value.oneCell']
      case c3 => unfold maxLen; omega
      case c4 => omega
      case c5 => exact Nat.le_trans hkr.size hkd2.size
      intro v' w9 hown9 hgr9 _ hat9
      have hC9 : Kx (fun k => (Value.slice av qs.length cv).ownBlock = some k) wr w9 := hC1.trans ((Kx.of_grown hgr9).mono (fun k _ x => x.symm))
      refine ⟨rfl, hC9, ?_⟩
      refine ord_nil ?_
      simp only [Act.put, sI, sS, sZ]
      have hk9 : Kx (fun _ => False) w1 w9 := hkr.join hC9 (fun k hk x => hET k hk x)
      have hown10 : w9.ownsRow w1.heap.size 154 2 v' (qs ++ [q]).length ((qs ++ [q]).flatMap whQ) := by
        rw [List.length_append, List.flatMap_append]
        simpa [whQ] using hown9
      have hq10 : ∀ x ∈ qs ++ [q], x ≤ 1000000 := fun x hx => by
        rcases List.mem_append.1 hx with hx | hx
        · exact hq6 x hx
        · rw [List.mem_singleton.1 hx]; exact hq
      clear hown9 hgr9 hat9 hC9 hC1 hrow hkd hkd2 eR hmks
      go_wp2
      go_roundw
      case rel => exact ⟨qs ++ [q], by rw [List.length_append, List.length_singleton]; go_num, by rw [List.length_append, List.length_singleton]; omega, hq10, hown10, hk9⟩
      case measure => simp [intOf]; omega
    · have hlt2 : ¬ (qs.length : Int) < (ps.length : Int) := by omega
      have hq4 : qs.length ≤ 4 := by omega
      have hbr2 := hbr.kept hkr _root_.id
      have hkw := hA.trans hkr
      have hi154 : ∀ a b : Value, (Tryz.prog.info? 154).map (·.size) = some (#[a, b] : Array Value).size := fun a b => (show (Tryz.prog.info? 154).map (·.size) = some 2 by kernel_rfl)
      have hall : ∀ (a : Int) (b : ByteArray), (#[.int .i64 a, .string b] : Array Value).all (·.oneCell') = true := fun a b => by simp [Value.oneCell']
      have hk1s := hkr.size
      cases qs with
      | nil =>
        have hk2 := hkw.setRow (g := w.heap.size) (fun h => absurd h (by omega)) #[.int .i64 0, .string ⟨#[]⟩]
        have hb3 := hbr2.row #[.int .i64 0, .string ⟨#[]⟩]
        simp only [List.length_nil] at hlt2
        go_wp2_with (refine wpList_storeAll _ rfl 154 _ _ rfl rfl rfl hbr2 (hi154 (.int .i64 0) (.string ⟨#[]⟩)) rfl (hall 0 ⟨#[]⟩) ?_)
        refine bodyPost_ret (v := .tuple #[.agg #[.int .i64 0, .string ⟨#[]⟩], .slice none 0 0]) (results_ct (k := w.heap.size) rfl rfl rfl hb3 Tryz.underlying154 rfl (hi154 _ _)) rfl ?_
        exact ⟨0, [], none, 0, rfl, by decide, by decide, (fun q hq => by cases hq), ⟨none, 0, rfl, Nat.le_refl _, fun q => absurd rfl q⟩, (fun k q => by cases q), hk2⟩
      | cons q0 rest =>
        have hq0 := hq6 q0 (List.mem_cons_self ..)
        obtain ⟨g, cap, he, hcap, hgl9, hcell⟩ : ∃ g cap, Value.slice av (q0 :: rest).length cv = .slice (some ⟨g, 0, none⟩) (q0 :: rest).length cap ∧ (q0 :: rest).length ≤ cap ∧ w1.heap.size ≤ g ∧ ∀ k x, ((q0 :: rest).flatMap whQ)[k]? = some x → wr.cell? ⟨g, k, none⟩ = some x := by
          rcases hown.2 with ⟨_, h0⟩ | ⟨g, cap, cur, h1, hbg, hg, hc, hm, hs, ht⟩
          · simp at h0
          · refine ⟨g, cap, h1, hc, hbg, fun k x hx => ?_⟩
            have hkl := (List.getElem?_eq_some_iff.1 hx).1
            rw [← ht] at hkl
            rw [List.length_take] at hkl
            rw [← ht, List.getElem?_take_of_lt (by omega)] at hx
            unfold World.cell?
            rw [hg]
            simpa using hx
        cases he
        rw [List.length_cons] at hcap hlt2 hq4 ⊢
        have e0 := hcell 0 (.int .i64 (q0 : Int)) rfl
        have e1 := hcell 1 (.string ⟨#[]⟩) rfl
        have hgne : g ≠ w.heap.size := by omega
        obtain ⟨A, hA2, HA2⟩ : ∃ A : Addr, (if cv = 1 then some (⟨g, 0, none⟩ : Addr) else some ⟨g, 2, none⟩) = some A ∧ Hid (A.block = g ∧ (¬ cv = 1 → A = ⟨g, 2, none⟩)) := by
          by_cases h1 : cv = 1
          · exact ⟨⟨g, 0, none⟩, by simp [h1], rfl, fun x => absurd h1 x⟩
          · exact ⟨⟨g, 2, none⟩, by simp [h1], rfl, fun _ => rfl⟩
        go_wp2_with fail
        have hkd := (Kx.refl (fun _ => False) wr).drew
        have hb4 := hbr2.kept hkd _root_.id
        have hk4 : Kx (fun _ => False) w (World.setRow { wr with drawn := wr.drawn + 1 } w.heap.size #[.int .i64 (q0 : Int), .string ⟨#[]⟩]) := (hkw.trans hkd).setRow (fun h => absurd h (by omega)) _
        have hC4 : Kx (fun y => y = w.heap.size) wr (World.setRow { wr with drawn := wr.drawn + 1 } w.heap.size #[.int .i64 (q0 : Int), .string ⟨#[]⟩]) := Kx.setRow (X := fun y => y = w.heap.size) (g := w.heap.size) (hkd.mono (fun _ _ x => x.elim)) (fun _ => rfl) _
        have hb5 := hb4.row #[.int .i64 (q0 : Int), .string ⟨#[]⟩]
        refine wp_region_ord2 (C := fun w' => Kx (fun y => y = w.heap.size) wr w') [(0, true), (1, true), (2, true), (3, true), (4, true), (5, false)] 6 (by kernel_rfl) (by kernel_rfl) rfl (Kx.refl _ _).drew ?_
        refine ord_val rfl (.slice (some ⟨g, 0, none⟩) (rest.length + 1) cv) (fun w' hC => by go_simp) ?_
        refine ord_val rfl (.pointer (some ⟨g, 0, none⟩)) (fun w' hC => by go_simp) ?_
        refine ord_val rfl (.agg #[.int .i64 (q0 : Int), .string ⟨#[]⟩]) (fun w' hC => by
          have y0 := (hC.cell (p := ⟨g, 0, none⟩) (lt_of_cell (p := ⟨g, 0, none⟩) e0) hgne).trans e0
          have y1 := (hC.cell (p := ⟨g, 1, none⟩) (lt_of_cell (p := ⟨g, 1, none⟩) e1) hgne).trans e1
          go_simp) ?_
        refine ord_val rfl (.slice (some ⟨g, 0, none⟩) (rest.length + 1) cv) (fun w' hC => by go_simp) ?_
        refine ord_val rfl (.slice (some A) rest.length (cv - 1)) (fun w' hC => by go_simp; intro hbad; omega) ?_
        simp only [Act.put, sI, sS, sZ]
        refine ord_step ?_
        refine wpList_storeAll _ rfl 154 _ _ rfl rfl rfl hb4 (hi154 (.int .i64 (q0 : Int)) (.string ⟨#[]⟩)) rfl (hall (q0 : Int) ⟨#[]⟩) ?_
        refine ⟨rfl, hC4, ?_⟩
        simp only [Act.put]
        refine ord_nil ?_
        have HRd : Hid (Reads (World.setRow { wr with drawn := wr.drawn + 1 } w.heap.size #[.int .i64 (q0 : Int), .string ⟨#[]⟩]) (.slice (some A) rest.length (cv - 1)) rest.length (rest.flatMap whQ)) := by
          refine ⟨some A, cv - 1, rfl, by omega, fun hne => ?_⟩
          have hA3 := HA2.out.2 (by omega)
          refine ⟨g, 2, by rw [hA3], fun k x hx => ?_⟩
          have hx2 : ((q0 :: rest).flatMap whQ)[2 + k]? = some x := by
            rw [List.flatMap_cons, List.getElem?_append_right (by show (2 : Nat) ≤ 2 + k; omega)]
            show (rest.flatMap whQ)[2 + k - 2]? = some x
            rw [Nat.add_sub_cancel_left]
            exact hx
          have h3 := hcell (2 + k) x hx2
          exact (hC4.cell (p := ⟨g, 2 + k, none⟩) (lt_of_cell (p := ⟨g, 2 + k, none⟩) h3) hgne).trans h3
        have hob : ∀ k, (Value.slice (some A) rest.length (cv - 1)).ownBlock = some k → w.heap.size ≤ k ∧ k < (World.setRow { wr with drawn := wr.drawn + 1 } w.heap.size #[.int .i64 (q0 : Int), .string ⟨#[]⟩]).heap.size := fun k x => by
          have h1 : A.block = k := Option.some.inj x
          have h2 := HA2.out.1
          have h3 : g < wr.heap.size := lt_of_cell (p := ⟨g, 0, none⟩) e0
          have h4 := hC4.size
          rw [← h1, h2]
          exact ⟨by omega, Nat.lt_of_lt_of_le h3 h4⟩
        have HOb : Hid (∀ k, (Value.slice (some A) rest.length (cv - 1)).ownBlock = some k → w.heap.size ≤ k ∧ k < (World.setRow { wr with drawn := wr.drawn + 1 } w.heap.size #[.int .i64 (q0 : Int), .string ⟨#[]⟩]).heap.size) := hob
        clear hob
        go_wp2
        refine bodyPost_ret (v := .tuple #[.agg #[.int .i64 (q0 : Int), .string ⟨#[]⟩], .slice (some A) rest.length (cv - 1)]) (results_ct (k := w.heap.size) rfl rfl rfl hb5 Tryz.underlying154 rfl (hi154 _ _)) rfl ?_
        exact ⟨q0, rest, some A, cv - 1, rfl, hq0, by omega, (fun q hq => hq6 q (List.mem_cons_of_mem _ hq)), HRd.out, HOb.out, hk4⟩

theorem path_nil (p : List UInt8) (w : World) : Calls Tryz.prog 321 #[.slice none 0 0, .string ⟨p.toArray⟩] w fun e w' => e = .returned (.tuple #[.string ⟨p.toArray⟩, .bool true]) ∧ w' = w := by
  go_enter Tryz.func321, Tryz.ntmps321
  go_wp2_with fail
  go_loopw [11, 1] (fun iv pv wr => iv = .int .i64 0 ∧ pv = .string ⟨p.toArray⟩ ∧ wr = w) (fun _ _ _ => 0)
  case atStart => exact ⟨rfl, rfl, rfl⟩
  case round =>
    obtain ⟨rfl, rfl, hw⟩ := hrel
    subst hw
    go_wp2
    go_ret2
    exact ⟨rfl, rfl⟩

theorem put_lenF (f : Fi) (l : List Fi) : (Pf.put f l).length ≤ l.length + 1 := by
  unfold Pf.put
  rw [(sortF_perm _).length_eq, List.length_append, List.length_singleton]
  have := without_len (fun p => Pf.within p f.path || Pf.within f.path p) l
  unfold Pf.withoutAround
  omega
theorem put_mem {f g : Fi} {l : List Fi} (h : g ∈ Pf.put f l) : g ∈ l ∨ g = f := by
  unfold Pf.put at h
  have h2 := (sortF_perm _).mem_iff.1 h
  rcases List.mem_append.1 h2 with h3 | h3
  · exact .inl (List.mem_filter.1 h3).1
  · exact .inr (List.mem_singleton.1 h3)

structure Less (l' l : List Fi) (k : Nat) : Prop where
  own : Own1 l'
  len : l'.length ≤ k
  mem : ∀ g ∈ l', g ∈ l
  short : ∀ g ∈ l', g.path.length ≤ 60

theorem Less.put {l' l : List Fi} {k : Nat} {f : Fi} (h : Less l' l k) (hf : f ∈ l) (hs : f.path.length ≤ 60) : Less (Pf.put f l') l (k + 1) :=
  ⟨h.own.put, by have := put_lenF f l'; have := h.len; omega, fun g hg => (put_mem hg).elim (h.mem g) (fun e => by rw [e]; exact hf), fun g hg => (put_mem hg).elim (h.short g) (fun e => by rw [e]; exact hs)⟩

theorem short_of {p : List UInt8} (h : Pf.tooLong p = false) : p.length ≤ 60 := by
  unfold Pf.tooLong at h
  rw [Bool.or_eq_false_iff] at h
  have := of_decide_eq_false h.1
  omega

theorem remade_last (l' : List Fi) (fp fm fs : List UInt8) (base : Nat) (v3 xv : Value) (w W : World) (hk : Kx (fun _ => False) w W) (hl1 : (Pf.withoutAround fp l').length ≤ 400)
    (HN : Hid (((Pf.withoutAround fp l' ++ [(⟨fp, fm, fs⟩ : Fi)]).map Fi.path).Nodup)) (ho : W.ownsRow base 114 3 v3 (Pf.withoutAround fp l').length (cellsF (Pf.withoutAround fp l'))) (hx : Fs W xv [(⟨fp, fm, fs⟩ : Fi)]) :
    Calls Tryz.prog 360 #[v3, xv] W fun e w' => (∃ v', e = .returned v' ∧ w'.ownsRow w.heap.size 114 3 v' (Pf.sortF (Pf.withoutAround fp l' ++ [⟨fp, fm, fs⟩])).length (cellsF (Pf.sortF (Pf.withoutAround fp l' ++ [⟨fp, fm, fs⟩])))) ∧ Kx (fun _ => False) w w' := by
  refine (joined_any (Pf.withoutAround fp l') [(⟨fp, fm, fs⟩ : Fi)] v3 xv W (Fs.of_own ho) hx (by omega) (by simp) (by simp) HN.out).mono ?_
  rintro e w5 ⟨⟨v5, rfl, ho5⟩, hk5⟩
  exact ⟨⟨v5, rfl, own_mono ho5 hk.size⟩, hk.trans hk5⟩

set_option maxHeartbeats 3200000 in
set_option maxRecDepth 100000 in
theorem remade_nil (l : List Fi) (v : Value) (w : World) (hF : Fs w v l) (hl : l.length ≤ 400) :
    Calls Tryz.prog 320 #[v, .func (.func 321) #[.slice none 0 0] #[]] w fun e w' => (∃ v' l', e = .returned v' ∧ w'.ownsRow w.heap.size 114 3 v' l'.length (cellsF l') ∧ Less l' l l.length) ∧ Kx (fun _ => False) w w' := by
  obtain ⟨q, c, hv, hc, _⟩ := id hF
  subst hv
  have hent := enters_of (P := Tryz.prog) Tryz.func321 (by kernel_rfl) rfl
  go_enter Tryz.func320, Tryz.ntmps320
  go_wp2
  go_loopw [12, 5] (fun iv sv wr => ∃ (k : Nat) (l' : List Fi), iv = .int .i64 k ∧ k ≤ l.length ∧ Kx (fun _ => False) w wr ∧ wr.ownsRow w.heap.size 114 3 sv l'.length (cellsF l') ∧ Less l' l k) (fun iv _ _ => l.length - (intOf iv).toNat)
  case atStart => exact ⟨0, [], rfl, by omega, Kx.refl _ _, World.ownsRow_nil _ _ _ _, by simp [Own1], Nat.le_refl _, (fun g hg => by cases hg), fun g hg => by cases hg⟩
  case round =>
    obtain ⟨k, l', rfl, hk, hkx, hown, hless⟩ := hrel
    by_cases hlt : k < l.length
    · have hlt2 : (k : Int) < (l.length : Int) := by omega
      have hFr := hF.kept hkx (fun _ _ => id)
      obtain ⟨g, o, c', he, p0, p1, p2⟩ := hFr.file k hlt
      cases he
      have e0 : o + k * 3 = o + 3 * k := by omega
      have HM : Hid (l[k] ∈ l) := List.getElem_mem hlt
      generalize l[k] = f at *
      obtain ⟨fp, fm, fs⟩ := f
      simp only at p0 p1 p2
      have hLl : l'.length ≤ 400 := by have := hless.len; omega
      go_wp2_with fail
      refine (path_nil fp _).mono ?_
      rintro _ w2 ⟨rfl, hw2⟩
      rw [hw2]
      clear hw2 w2
      have hkA := hkx.alloc (.cells #[.string ⟨fp.toArray⟩, .string ⟨fm.toArray⟩, .string ⟨(Sh.hex fs).toArray⟩] 114)
      have hoA := hown.alloc (.cells #[.string ⟨fp.toArray⟩, .string ⟨fm.toArray⟩, .string ⟨(Sh.hex fs).toArray⟩] 114)
      go_wp2_with fail
      refine (isTooLong_any ⟨fp, fm, fs⟩ _).mono ?_
      rintro _ w3 ⟨rfl, hk3⟩
      have hk4 := hkA.trans hk3
      have hown4 := own_kept' hoA hk3 (fun _ _ _ => id)
      have hbx : Cb wr.heap.size #[.string ⟨fp.toArray⟩, .string ⟨fm.toArray⟩, .string ⟨(Sh.hex fs).toArray⟩] 114 w3 := (Cb.new #[.string ⟨fp.toArray⟩, .string ⟨fm.toArray⟩, .string ⟨(Sh.hex fs).toArray⟩] 114 wr).kept hk3 id
      simp only
      clear hoA hkA hk3 hown
      cases hp : Pf.tooLong fp
      · have hs60 : fp.length ≤ 60 := short_of hp
        clear hp
        go_wp2_with fail
        have HF1 := hless.put HM.out hs60
        have HF2 : Hid (Less (Pf.sortF (Pf.withoutAround fp l' ++ [⟨fp, fm, fs⟩])) l (k + 1)) := HF1
        have HN : Hid (((Pf.withoutAround fp l' ++ [(⟨fp, fm, fs⟩ : Fi)]).map Fi.path).Nodup) := own_put (f := ⟨fp, fm, fs⟩) hless.own
        have hwl : (Pf.withoutAround fp l').length ≤ 400 := Nat.le_trans (without_len _ _) hLl
        clear HF1
        obtain ⟨av, cv, hav⟩ := row_shape hown4
        subst hav
        have hF4 : Fs w3 (.slice av l'.length cv) l' := Fs.of_own hown4
        have hbl := hbx.lt
        have HK : ∀ W, Hid (Kx (fun _ => False) w3 W → Kx (fun _ => False) w W) := fun W h => hk4.trans h
        have HB : ∀ W, Hid (Kx (fun _ => False) w3 W → W.cell? ⟨wr.heap.size, 0, none⟩ = some (.string ⟨fp.toArray⟩) ∧ W.cell? ⟨wr.heap.size, 1, none⟩ = some (.string ⟨fm.toArray⟩) ∧ W.cell? ⟨wr.heap.size, 2, none⟩ = some (.string ⟨(Sh.hex fs).toArray⟩)) := fun W h => ⟨Cb.cell (hbx.kept h id) 0, Cb.cell (hbx.kept h id) 1, Cb.cell (hbx.kept h id) 2⟩
        obtain ⟨b0, b1, b2⟩ := (HB w3).out (Kx.refl _ _)
        clear hown4 hbx
        go_region_with (first
          | (go_at_call 359; refine (withoutAround_any l' fp _ _ (hF4.kept (by first | exact (Kx.refl _ _).drew | exact (Kx.refl _ _).drew.alloc _ | exact ((Kx.refl _ _).alloc _).drew) (fun _ _ => id)) (by omega)).mono ?_; rintro e w5 ⟨⟨v5, rfl, ho5⟩, hk5⟩; have hkk : Kx (fun _ => False) w3 w5 := Kx.trans (by first | exact (Kx.refl _ _).drew | exact (Kx.refl _ _).drew.alloc _ | exact ((Kx.refl _ _).alloc _).drew) hk5; obtain ⟨d0, d1, d2⟩ := (HB w5).out hkk)
          | (go_at_call 360; refine (remade_last l' fp fm fs _ _ _ w _ (by first | exact (HK _).out hkk | exact ((HK _).out hkk).alloc _) hwl HN (by first | exact ho5 | exact ho5.alloc _) (by first | exact one_fs _ _ _ _ | exact (one_fs w3 _ _ _).kept ((Kx.refl _ _).drew.trans hk5) (fun _ _ => id) | exact (one_fs2 _ _ _ _ _ (by rw [World.size_alloc])).kept hk5 (fun _ _ => id))).mono ?_; rintro e w6 ⟨⟨v6, rfl, ho6⟩, hk6⟩))
        all_goals go_wp2
        all_goals go_roundw
        all_goals first | exact ⟨k + 1, _, by go_num, hlt, hk6, ho6, HF2.out⟩ | (simp [intOf]; omega)
      · clear hp
        have hless2 : Less l' l (k + 1) := ⟨hless.own, by have := hless.len; omega, hless.mem, hless.short⟩
        go_wp2
        go_roundw
        case rel => exact ⟨k + 1, l', by go_num, hlt, hk4, hown4, hless2⟩
        case measure => simp [intOf]; omega
    · obtain rfl : k = l.length := by omega
      have hlt2 : ¬ (l.length : Int) < (l.length : Int) := by omega
      go_wp2
      go_ret
      exact ⟨⟨_, rfl, l', hown, hless⟩, hkx⟩

set_option maxHeartbeats 400000 in
theorem rfiles_nil (l : List Fi) (v : Value) (w : World) (hF : Fs w v l) (hl : l.length ≤ 400) :
    Calls Tryz.prog 264 #[.slice none 0 0, v] w fun e w' => (∃ v' l', e = .returned v' ∧ w'.ownsRow w.heap.size 114 3 v' l'.length (cellsF l') ∧ Less l' l l.length) ∧ Kx (fun _ => False) w w' := by
  have h := remade_nil l v w hF hl
  go_enter Tryz.func264, Tryz.ntmps264
  go_wp2_with fail
  refine h.mono ?_
  rintro _ w2 ⟨⟨v', l', rfl, h1, h2⟩, hk⟩
  go_wp2
  go_ret
  exact ⟨⟨_, l', rfl, h1, h2⟩, hk⟩

theorem eq114 (a1 a2 a3 b1 b2 b3 : ByteArray) : ∃ bo : Bool, ∀ w, (Op.equalIn 10000 114 (.agg #[.string a1, .string a2, .string a3]) (.agg #[.string b1, .string b2, .string b3])).run Tryz.prog w = .ok bo w := by
  have hf : (Tryz.prog.fieldsOf 114).toList.map (fun f => (f.name, f.type, f.offset)) = [("Path", 9, 0), ("Mode", 9, 1), ("Blob", 9, 2)] := by kernel_rfl
  have ht : Tryz.prog.underlying 114 = some (.struct (Tryz.prog.fieldsOf 114)) := by kernel_rfl
  have hp : Tryz.prog.stoodInHeld 114 = false := by kernel_rfl
  have h9 : Tryz.prog.underlying 9 = some .string := by kernel_rfl
  refine ⟨a1.toList == b1.toList && (a2.toList == b2.toList && (a3.toList == b3.toList)), fun w => ?_⟩
  rw [run_equalIn_agg w 9999 114 _ _ ht hp]
  generalize (Tryz.prog.fieldsOf 114).toList = L at hf
  rcases L with _ | ⟨⟨m1, t1, e1, o1⟩, L⟩
  · cases hf
  rcases L with _ | ⟨⟨m2, t2, e2, o2⟩, L⟩
  · cases hf
  rcases L with _ | ⟨⟨m3, t3, e3, o3⟩, L⟩
  · cases hf
  rcases L with _ | ⟨f4, L⟩
  · simp only [List.map_cons, List.map_nil, List.cons.injEq, Prod.mk.injEq, and_true] at hf
    obtain ⟨⟨rfl, rfl, rfl⟩, ⟨rfl, rfl, rfl⟩, rfl, rfl, rfl⟩ := hf
    have hpl : Tryz.prog.plainKey 9 = true := by kernel_rfl
    have hpt : ∀ (xs : Array Value) (off : Nat) (v : Value) (w : World), xs[off]? = some v → (part 9 xs off).run Tryz.prog w = .ok v w := fun xs off v w hx => run_part_plain w hpl hx
    simp only [Op.eqFields, Sem.run_bind, Sem.run_ite, ne_eq, Sem.run_pure]
    rw [if_pos (by decide)]
    rw [hpt _ 0 (.string a1) w rfl]
    simp only [Result.andThen_ok]
    rw [hpt _ 0 (.string b1) w rfl]
    simp only [Result.andThen_ok]
    rw [run_equalIn_string w 9998 9 a1 b1 h9]
    cases a1.toList == b1.toList
    · rfl
    simp only [Result.andThen_ok]
    rw [if_neg (by decide), if_pos (by decide)]
    rw [hpt _ 1 (.string a2) w rfl]
    simp only [Result.andThen_ok]
    rw [hpt _ 1 (.string b2) w rfl]
    simp only [Result.andThen_ok]
    rw [run_equalIn_string w 9998 9 a2 b2 h9]
    cases a2.toList == b2.toList
    · rfl
    simp only [Result.andThen_ok]
    rw [if_neg (by decide), if_pos (by decide)]
    rw [hpt _ 2 (.string a3) w rfl]
    simp only [Result.andThen_ok]
    rw [hpt _ 2 (.string b3) w rfl]
    simp only [Result.andThen_ok]
    rw [run_equalIn_string w 9998 9 a3 b3 h9]
    cases a3.toList == b3.toList <;> rfl
  · cases hf

theorem exec_eql {P : Program} {ev : Operand → Value} {o : Oper} {t t2 : TypeId} {x y : Operand} {xs ys : Array Value} {w : World} {bo : Bool} (hop : o.op = .binOp .eql t x y t2) (hx : ev x = .agg xs) (hy : ev y = .agg ys) (hm : P.eqGuardType P.depth t = false) (hb : (Op.equalIn 10000 t (.agg xs) (.agg ys)).run P w = .ok bo w) :
    (execOp ev o).run P w = .ok (.value (.bool bo)) w := by
  simp [execOp, hop, hx, hy, run_eqGuard_agg, hm, run_eql_struct, hb, Result.andThen]

theorem wpList_run {P : Program} {ops : Array Oper} {Q : Exit → Act → World → Prop} {a : Act} {w w1 : World} {o : Oper} {r : List Oper} (hg : o.guard = none) (v : Value) (hrun : (execOp a.eval o).run P w = .ok (.value v) w1) (h : wpList P ops Q r (a.put o.dst v) w1) : wpList P ops Q (o :: r) a w := by
  unfold wpList
  have hw : Region.wanted o (yielded ops a.tmps) = true := by simp [Region.wanted, hg]
  rw [if_pos hw]
  refine .inl ?_
  unfold Oper.wp
  rw [hrun]
  exact h

set_option maxHeartbeats 800000 in
set_option maxRecDepth 100000 in
theorem has1_any (f : Fi) (p : List UInt8) (b : Nat) (w : World) (hb : w.cell? ⟨b, 0, none⟩ = some (.string ⟨p.toArray⟩)) :
    Calls Tryz.prog 364 #[.agg f.cells.toArray, .pointer (some ⟨b, 0, none⟩)] w fun e w' => (∃ o : Bool, e = .returned (.bool o)) ∧ Kx (fun _ => False) w w' := by
  obtain ⟨fp, fm, fs⟩ := f
  have hkA := (Kx.refl (fun _ => False) w).alloc (.cells #[.string ⟨fp.toArray⟩, .string ⟨fm.toArray⟩, .string ⟨(Sh.hex fs).toArray⟩] 114)
  have hb2 := (hkA.cell (p := ⟨b, 0, none⟩) (lt_of_cell (p := ⟨b, 0, none⟩) hb) id).trans hb
  unfold Fi.cells
  simp only
  go_enter Tryz.func364, Tryz.ntmps364
  go_wp2
  go_ret
  exact ⟨⟨_, rfl⟩, hkA⟩

set_option maxHeartbeats 800000 in
set_option maxRecDepth 100000 in
theorem indexHas_any (l : List Fi) (p : List UInt8) (b : Nat) (v : Value) (w : World) (hF : Fs w v l) (hl : l.length ≤ 1000) (hb : w.cell? ⟨b, 0, none⟩ = some (.string ⟨p.toArray⟩)) :
    Calls Tryz.prog 387 #[v, .func (.func 364) #[] #[.pointer (some ⟨b, 0, none⟩)]] w fun e w' => (∃ i : Int, e = .returned (.int .i64 i)) ∧ Kx (fun _ => False) w w' := by
  obtain ⟨q, c, hv, hc, _⟩ := id hF
  subst hv
  have hent := enters_of (P := Tryz.prog) Tryz.func364 (by kernel_rfl) rfl
  go_enter Tryz.func387, Tryz.ntmps387
  go_wp2
  go_loopw [8] (fun iv w' => ∃ (k : Nat), iv = .int .i64 k ∧ k ≤ l.length ∧ Kx (fun _ => False) w w') (fun iv _ => l.length - (intOf iv).toNat)
  case atStart => exact ⟨0, rfl, by omega, Kx.refl _ _⟩
  case round =>
    obtain ⟨k, rfl, hk, hkx⟩ := hrel
    by_cases hlt : k < l.length
    · have hlt2 : (k : Int) < (l.length : Int) := by omega
      have hFr := hF.kept hkx (fun _ _ => id)
      obtain ⟨g, o, c', he, p0, p1, p2⟩ := hFr.file k hlt
      cases he
      have e0 : o + k * 3 = o + 3 * k := by omega
      generalize l[k] = f at *
      obtain ⟨fp, fm, fs⟩ := f
      simp only at p0 p1 p2
      have hbr := (hkx.cell (p := ⟨b, 0, none⟩) (lt_of_cell (p := ⟨b, 0, none⟩) hb) id).trans hb
      go_wp2_with fail
      refine (has1_any ⟨fp, fm, fs⟩ p b _ hbr).mono ?_
      rintro _ w2 ⟨⟨ob, rfl⟩, hk2⟩
      have hk3 := hkx.trans hk2
      clear hk2
      simp only
      cases ob
      · go_wp2
        go_roundw
        case rel => exact ⟨k + 1, by go_num, hlt, hk3⟩
        case measure => simp [intOf]; omega
      · go_wp2
        go_ret
        exact ⟨⟨k, rfl⟩, hk3⟩
    · obtain rfl : k = l.length := by omega
      have hlt2 : ¬ (l.length : Int) < (l.length : Int) := by omega
      go_wp2
      go_ret
      exact ⟨⟨-1, rfl⟩, hkx⟩

set_option maxHeartbeats 800000 in
set_option maxRecDepth 100000 in
theorem containsHas_any (l : List Fi) (p : List UInt8) (b : Nat) (v : Value) (w : World) (hF : Fs w v l) (hl : l.length ≤ 1000) (hb : w.cell? ⟨b, 0, none⟩ = some (.string ⟨p.toArray⟩)) :
    Calls Tryz.prog 363 #[v, .func (.func 364) #[] #[.pointer (some ⟨b, 0, none⟩)]] w fun e w' => (∃ o : Bool, e = .returned (.bool o)) ∧ Kx (fun _ => False) w w' := by
  go_enter Tryz.func363, Tryz.ntmps363
  go_wp2_with fail
  refine (indexHas_any l p b v _ hF hl hb).mono ?_
  rintro _ w2 ⟨⟨i, rfl⟩, hk2⟩
  go_wp2
  go_ret
  exact ⟨⟨_, rfl⟩, hk2⟩

set_option maxHeartbeats 800000 in
set_option maxRecDepth 100000 in
theorem has_any (l : List Fi) (p : List UInt8) (v : Value) (w : World) (hF : Fs w v l) (hl : l.length ≤ 1000) :
    Calls Tryz.prog 322 #[v, .string ⟨p.toArray⟩] w fun e w' => (∃ o : Bool, e = .returned (.bool o)) ∧ Kx (fun _ => False) w w' := by
  have hkA := (Kx.refl (fun _ => False) w).alloc (.cells #[.string ⟨p.toArray⟩] 9)
  have hF1 := hF.kept hkA (fun _ _ => id)
  have hc : (w.alloc (.cells #[.string ⟨p.toArray⟩] 9)).cell? ⟨w.heap.size, 0, none⟩ = some (.string ⟨p.toArray⟩) := cell_new1 _ _ _
  go_enter Tryz.func322, Tryz.ntmps322
  go_wp2_with fail
  refine (containsHas_any l p w.heap.size v _ hF1 hl hc).mono ?_
  rintro _ w2 ⟨⟨ob, rfl⟩, hk2⟩
  have hk3 := hkA.trans hk2
  go_wp2
  go_ret
  exact ⟨⟨_, rfl⟩, hk3⟩

set_option maxHeartbeats 800000 in
set_option maxRecDepth 100000 in
theorem sIndex_any (l : List Fi) (f : Fi) (v : Value) (w : World) (hF : Fs w v l) (hl : l.length ≤ 1000) :
    Calls Tryz.prog 365 #[v, .agg f.cells.toArray] w fun e w' => (∃ i : Int, e = .returned (.int .i64 i)) ∧ Kx (fun _ => False) w w' := by
  obtain ⟨xp, xm, xs⟩ := f
  obtain ⟨q, c, hv, hc, _⟩ := id hF
  subst hv
  have hkA := (Kx.refl (fun _ => False) w).alloc (.cells #[.string ⟨xp.toArray⟩, .string ⟨xm.toArray⟩, .string ⟨(Sh.hex xs).toArray⟩] 114)
  have hbx := Cb.new #[.string ⟨xp.toArray⟩, .string ⟨xm.toArray⟩, .string ⟨(Sh.hex xs).toArray⟩] 114 w
  have hFA := hF.kept hkA (fun _ _ => id)
  unfold Fi.cells
  simp only
  go_enter Tryz.func365, Tryz.ntmps365
  go_wp2_with fail
  generalize w.alloc (.cells #[.string ⟨xp.toArray⟩, .string ⟨xm.toArray⟩, .string ⟨(Sh.hex xs).toArray⟩] 114) = wA at *
  generalize w.heap.size = bb at *
  go_loopw [8] (fun iv w' => ∃ (k : Nat), iv = .int .i64 k ∧ k ≤ l.length ∧ Kx (fun _ => False) wA w') (fun iv _ => l.length - (intOf iv).toNat)
  case atStart => exact ⟨0, rfl, by omega, Kx.refl _ _⟩
  case round =>
    obtain ⟨k, rfl, hk, hkx⟩ := hrel
    by_cases hlt : k < l.length
    · have hlt2 : (k : Int) < (l.length : Int) := by omega
      have hFr := hFA.kept hkx (fun _ _ => id)
      obtain ⟨g, o, c', he, p0, p1, p2⟩ := hFr.file k hlt
      cases he
      have e0 : o + k * 3 = o + 3 * k := by omega
      generalize l[k] = f at *
      obtain ⟨fp, fm, fs⟩ := f
      simp only at p0 p1 p2
      have hbr := hbx.kept hkx id
      obtain ⟨bo, hbo⟩ := eq114 ⟨xp.toArray⟩ ⟨xm.toArray⟩ ⟨(Sh.hex xs).toArray⟩ ⟨fp.toArray⟩ ⟨fm.toArray⟩ ⟨(Sh.hex fs).toArray⟩
      have HBO : Hid (∀ w, (Op.equalIn 10000 114 (.agg #[.string ⟨xp.toArray⟩, .string ⟨xm.toArray⟩, .string ⟨(Sh.hex xs).toArray⟩]) (.agg #[.string ⟨fp.toArray⟩, .string ⟨fm.toArray⟩, .string ⟨(Sh.hex fs).toArray⟩])).run Tryz.prog w = .ok bo w) := hbo
      clear hbo
      have hK : ∀ {w' : World} {p : Addr} {v : Value}, Kx (fun _ => False) wr w' → wr.cell? p = some v → w'.cell? p = some v := fun hk hc => (hk.cell (lt_of_cell hc) id).trans hc
      go_wp2_with fail
      have hkd := (Kx.refl (fun _ => False) wr).drew
      refine wp_region_ord2 (C := fun w' => Kx (fun _ => False) wr w') [(0, true), (1, true), (2, true), (3, true), (4, true)] 5 (by kernel_rfl) (by kernel_rfl) rfl hkd ?_
      refine ord_val rfl (.agg #[.string ⟨xp.toArray⟩, .string ⟨xm.toArray⟩, .string ⟨(Sh.hex xs).toArray⟩]) (fun w' hC => by
        have y0 : w'.cell? ⟨bb, 0, none⟩ = some (.string ⟨xp.toArray⟩) := Cb.cell (hbr.kept hC id) 0
        have y1 : w'.cell? ⟨bb, 1, none⟩ = some (.string ⟨xm.toArray⟩) := Cb.cell (hbr.kept hC id) 1
        have y2 : w'.cell? ⟨bb, 2, none⟩ = some (.string ⟨(Sh.hex xs).toArray⟩) := Cb.cell (hbr.kept hC id) 2
        go_simp) ?_
      refine ord_val rfl (.slice (some ⟨g, o, none⟩) l.length c) (fun w' hC => by go_simp) ?_
      refine ord_val rfl (.int .i64 (k : Int)) (fun w' hC => by go_simp) ?_
      refine ord_val rfl (.pointer (some ⟨g, o + 3 * k, none⟩)) (fun w' hC => by go_simp) ?_
      refine ord_val rfl (.agg #[.string ⟨fp.toArray⟩, .string ⟨fm.toArray⟩, .string ⟨(Sh.hex fs).toArray⟩]) (fun w' hC => by
        have y0 := hK hC p0
        have y1 := hK hC p1
        have y2 := hK hC p2
        go_simp) ?_
      simp only [Act.put, sI, sS, sZ]
      refine ord_nil ?_
      refine wpList_run rfl (.bool bo) (w1 := { wr with drawn := wr.drawn + 1 }) ?hr ?_
      case hr => exact exec_eql rfl rfl rfl (by kernel_rfl) (HBO.out _)
      simp only [Act.put, sI, sS, sZ]
      have hk3 := hkx.trans hkd
      clear HBO
      cases bo
      · go_wp2
        go_roundw
        case rel => exact ⟨k + 1, by go_num, hlt, hk3⟩
        case measure => simp [intOf]; omega
      · go_wp2
        go_ret
        exact ⟨⟨k, rfl⟩, hkA.trans hk3⟩
    · obtain rfl : k = l.length := by omega
      have hlt2 : ¬ (l.length : Int) < (l.length : Int) := by omega
      go_wp2
      go_ret
      exact ⟨⟨-1, rfl⟩, hkA.trans hkx⟩

set_option maxHeartbeats 800000 in
set_option maxRecDepth 100000 in
theorem containsF_any (l : List Fi) (f : Fi) (v : Value) (w : World) (hF : Fs w v l) (hl : l.length ≤ 1000) :
    Calls Tryz.prog 323 #[v, .agg f.cells.toArray] w fun e w' => (∃ o : Bool, e = .returned (.bool o)) ∧ Kx (fun _ => False) w w' := by
  obtain ⟨xp, xm, xs⟩ := f
  have hkA := (Kx.refl (fun _ => False) w).alloc (.cells #[.string ⟨xp.toArray⟩, .string ⟨xm.toArray⟩, .string ⟨(Sh.hex xs).toArray⟩] 114)
  have hFA := hF.kept hkA (fun _ _ => id)
  have hcall := sIndex_any l ⟨xp, xm, xs⟩ v _ hFA hl
  unfold Fi.cells at *
  simp only at *
  go_enter Tryz.func323, Tryz.ntmps323
  go_wp2_with fail
  refine hcall.mono ?_
  rintro _ w2 ⟨⟨i, rfl⟩, hk2⟩
  have hk3 := hkA.trans hk2
  clear hcall
  go_wp2
  go_ret
  exact ⟨⟨_, rfl⟩, hk3⟩

end Go.Proofs.YtepgoppgblfjbaaGreatDoor
