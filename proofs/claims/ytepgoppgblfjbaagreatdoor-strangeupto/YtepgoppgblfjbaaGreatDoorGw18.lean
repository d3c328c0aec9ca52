import Derived.Test.YtepgoppgblfjbaaGreatDoorGw17
namespace Go.Proofs.YtepgoppgblfjbaaGreatDoor
open Go.RowKit

set_option maxHeartbeats 3200000 in
set_option maxRecDepth 100000 in
theorem doCommit_any {M : Nat → Prop} {w : World} {B : Bl} {n : Nat} {S : St} {W : Wk} (h : Wrk M w B n S W) (hn : n + 13000 ≤ maxLen) (c : Pu.Co) (hc : CoOk c) (am ac : Option Addr) (cm cc : Nat) (hrm : Reads w (.slice am c.merges.length cm) c.merges.length (whsC c.merges))
    (hrc : Reads w (.slice ac c.changes.length cc) c.changes.length (chsC c.changes)) (hcb : ∀ k, (Value.slice ac c.changes.length cc).ownBlock = some k → ¬ B.X k) :
    Calls Tryz.prog 168 #[.pointer (some ⟨B.q, 0, none⟩), .agg (coC c (.slice am c.merges.length cm) (.slice ac c.changes.length cc))] w fun e w' => DoR M w w' B (n + 13000) S (Pd.commit Sh.K W c) e := by
  obtain ⟨RR, hRR⟩ : ∃ RR, Pd.commit Sh.K W c = RR := ⟨_, rfl⟩
  rw [hRR]
  have HRR : Hid ((if Pd.isSet W c.mark then ((3 : Int), W) else match Pd.parents W c with | none => (4, W) | some (ps, l) => if (Pd.changes Sh.K W l c.changes).1 = 0 then (0, Pd.commitOf Sh.K (Pd.changes Sh.K W l c.changes).2.1 ps (Pd.changes Sh.K W l c.changes).2.2 c) else ((Pd.changes Sh.K W l c.changes).1, W)) = RR) := hRR
  clear hRR
  obtain ⟨word, ref, mark, ⟨an, ama, at'⟩, data, ⟨fm, fr⟩, ms, cs⟩ := c
  obtain ⟨m0, m1⟩ : 0 ≤ mark ∧ mark ≤ 999 := hc.mark
  have href : ref.length ≤ 1000 := hc.ref
  have hda : data.length ≤ 1000 := hc.data
  have hna : an.length ≤ 1000 := hc.name
  have hma : ama.length ≤ 1000 := hc.mail
  obtain ⟨ht0, ht1⟩ : 0 ≤ at' ∧ at' ≤ 9999999999 := hc.time
  have hchs : ∀ x ∈ cs, ChOk x := hc.changes.2
  have hcl : cs.length ≤ 30 := hc.changes.1
  have hmx : maxLen = 9223372036854775807 := rfl
  have hA := (Kx.refl (fun _ => False) w).alloc (.cells #[.string ⟨word.toArray⟩, .string ⟨ref.toArray⟩, .int .i64 mark, .string ⟨an.toArray⟩, .string ⟨ama.toArray⟩, .int .i64 at', .string ⟨data.toArray⟩, .int .i64 fm, .string ⟨fr.toArray⟩, .slice am ms.length cm, .slice ac cs.length cc] 158)
  have hbx := Cb.new #[.string ⟨word.toArray⟩, .string ⟨ref.toArray⟩, .int .i64 mark, .string ⟨an.toArray⟩, .string ⟨ama.toArray⟩, .int .i64 at', .string ⟨data.toArray⟩, .int .i64 fm, .string ⟨fr.toArray⟩, .slice am ms.length cm, .slice ac cs.length cc] 158 w
  have h1 := h.kept hA
  have his := isSet_any h1 mark m0 m1
  have hxb : ¬ B.X w.heap.size := fun e => by have := h.lowM _ (h.inM _ e); omega
  have hbM : ¬ M w.heap.size := fun e => by have := h.lowM _ e; omega
  have hlow := h.lowM
  have hXM := h.inM
  have b2A : (w.alloc (.cells #[.string ⟨word.toArray⟩, .string ⟨ref.toArray⟩, .int .i64 mark, .string ⟨an.toArray⟩, .string ⟨ama.toArray⟩, .int .i64 at', .string ⟨data.toArray⟩, .int .i64 fm, .string ⟨fr.toArray⟩, .slice am ms.length cm, .slice ac cs.length cc] 158)).cell? ⟨w.heap.size, 2, none⟩ = some (.int .i64 mark) := Cb.cell hbx 2
  have hPW := fun (w' : World) (h' : Wrk M w' B n S W) (hr' : Reads w' (.slice am ms.length cm) ms.length (whsC ms)) => parentsW_any h' ⟨word, ref, mark, ⟨an, ama, at'⟩, data, ⟨fm, fr⟩, ms, cs⟩ hc am ac cm cs.length cc hr'
  unfold coC at *
  simp only at *
  cases hset : Pd.isSet W mark with
  | true =>
    rw [hset] at his
    go_enter Tryz.func168, Tryz.ntmps168
    go_wp2_with fail
    refine his.mono ?_
    rintro _ w2 ⟨rfl, hk2⟩
    have hk3 : Kx B.X w w2 := (hA.trans hk2).mono (fun _ _ h => h.elim)
    clear his hA hbx h1 b2A hk2
    go_wp2
    go_ret
    rw [← HRR.out, hset]
    exact ⟨rfl, fun e => (by cases e), hk3⟩
  | false =>
    rw [hset] at his
    go_enter Tryz.func168, Tryz.ntmps168
    go_wp2_with fail
    refine his.mono ?_
    rintro _ w2 ⟨rfl, hk2⟩
    have h2 := h1.kept hk2
    have hbx2 := hbx.kept hk2 id
    have hk02 := hA.trans hk2
    have hrm2 := hrm.kept hk02 (fun _ _ => id)
    have hrc2 := hrc.kept hk02 (fun _ _ => id)
    have hpw := hPW w2 h2 hrm2
    have hs02 := hk02.size
    clear his hA hbx h1 b2A hk2 hPW hrm hrc
    generalize hb1 : w.heap.size = b1 at *
    have HB : Hid (w.heap.size = b1) := hb1
    clear hb1
    have e0 : w2.cell? ⟨b1, 0, none⟩ = some (.string ⟨word.toArray⟩) := Cb.cell hbx2 0
    have e1 : w2.cell? ⟨b1, 1, none⟩ = some (.string ⟨ref.toArray⟩) := Cb.cell hbx2 1
    have e2 : w2.cell? ⟨b1, 2, none⟩ = some (.int .i64 mark) := Cb.cell hbx2 2
    have e3 : w2.cell? ⟨b1, 3, none⟩ = some (.string ⟨an.toArray⟩) := Cb.cell hbx2 3
    have e4 : w2.cell? ⟨b1, 4, none⟩ = some (.string ⟨ama.toArray⟩) := Cb.cell hbx2 4
    have e5 : w2.cell? ⟨b1, 5, none⟩ = some (.int .i64 at') := Cb.cell hbx2 5
    have e6 : w2.cell? ⟨b1, 6, none⟩ = some (.string ⟨data.toArray⟩) := Cb.cell hbx2 6
    have e7 : w2.cell? ⟨b1, 7, none⟩ = some (.int .i64 fm) := Cb.cell hbx2 7
    have e8 : w2.cell? ⟨b1, 8, none⟩ = some (.string ⟨fr.toArray⟩) := Cb.cell hbx2 8
    have e9 : w2.cell? ⟨b1, 9, none⟩ = some (.slice am ms.length cm) := Cb.cell hbx2 9
    have e10 : w2.cell? ⟨b1, 10, none⟩ = some (.slice ac cs.length cc) := Cb.cell hbx2 10
    go_wp2_with fail
    refine hpw.mono ?_
    rintro e w3 ⟨hR3, hk3⟩
    have h3 := h2.kept hk3
    have hbx3 := hbx2.kept hk3 id
    have hk03 := hk02.trans hk3
    have hrc3 := hrc2.kept hk3 (fun _ _ => id)
    have hs03 := hk03.size
    clear e0 e1 e2 e3 e4 e5 e6 e7 e8 e9 e10 hpw h2 hbx2 hrm2 hrc2
    cases hpar : Pd.parents W ⟨word, ref, mark, ⟨an, ama, at'⟩, data, ⟨fm, fr⟩, ms, cs⟩ with
    | none =>
      rw [hpar] at hR3
      obtain rfl := hR3
      go_wp2
      go_ret
      rw [← HRR.out, hset, hpar]
      exact ⟨rfl, fun e => (by cases e), hk03.mono (fun _ _ h => h.elim)⟩
    | some pr =>
      obtain ⟨pcs, l⟩ := pr
      rw [hpar] at hR3
      obtain ⟨ps, ap, cp, al, cl, rfl, hrd, hcml, hpl, hlst, hpb⟩ := hR3
      have hcml3 := hcml.kept hk3 (fun _ _ h => h.elim)
      have hlst3 := hlst.kept hk3 (fun _ _ h => h.elim)
      have hcall := changedW_any h3 cs (by omega) hchs ac cc hrc3 (fun k e e2 => hcb k e (by rw [e2]; exact .inl rfl)) l al cl hlst3
      have HR2 : Hid (RR = if (Pd.changes Sh.K W l cs).1 = 0 then (0, Pd.commitOf Sh.K (Pd.changes Sh.K W l cs).2.1 pcs (Pd.changes Sh.K W l cs).2.2 ⟨word, ref, mark, ⟨an, ama, at'⟩, data, ⟨fm, fr⟩, ms, cs⟩) else ((Pd.changes Sh.K W l cs).1, W)) := by
        show RR = _
        rw [← HRR.out, hset, hpar]
        rfl
      have HPL : Hid (ps.length = pcs.length) := hcml.len
      clear HRR hcml hlst hpar hk3
      generalize Pd.changes Sh.K W l cs = CR at *
      obtain ⟨E, W1, l4⟩ := CR
      simp only at *
      have b10 : w3.cell? ⟨b1, 10, none⟩ = some (.slice ac cs.length cc) := Cb.cell hbx3 10
      go_wp2_with fail
      refine hcall.mono ?_
      rintro _ w4 ⟨⟨v4, rfl, hv4⟩, h4, hk4⟩
      simp only at hv4
      have hk04 : Kx B.X w w4 := (hk03.mono (fun _ _ h => h.elim)).trans (hk4.mono (fun _ _ e => .inl e))
      have hXk4 : ∀ k, k < w3.heap.size → Only B.mo k → M k := fun k _ e => hXM k (.inl e)
      have hbx4 := hbx3.kept hk4 (fun e => hxb (.inl e))
      have hcml4 := hcml3.kept hk4 hXk4
      have hrd4 := hrd.kept hk4 (fun k e e2 => by
        have h5 := hpb k e
        have h6 := hlow B.mo (hXM B.mo (.inl rfl))
        unfold Only at e2
        omega)
      have hs04 := hk04.size
      clear b10 hcall hcml3 hrd hk4 hbx3 h3
      by_cases hE : E = 0
      · subst hE
        obtain ⟨a4, c4, rfl, hl4⟩ := hv4 rfl
        have HR3 : Hid (RR = (0, Pd.commitOf Sh.K W1 pcs l4 ⟨word, ref, mark, ⟨an, ama, at'⟩, data, ⟨fm, fr⟩, ms, cs⟩)) := by
          have := HR2.out
          rw [if_pos rfl] at this
          exact this
        clear HR2 hv4
        have q1 : w4.cell? ⟨B.q, 1, none⟩ = some (.pointer (some ⟨B.mb, 0, none⟩)) := Cb.cell h4.wq 1
        have htree := tree_any Sh.K K72 B.mb 281 (Pf.weight l4 + 1) l4 _ w4 (Nat.lt_succ_self _) h4.gl h4.mkr hl4.fs hl4.ok.fine hl4.ok.len
        go_wp2_with fail
        refine htree.mono ?_
        rintro _ w5 ⟨tp, bs, rfl, hT, hbs, hk5⟩
        have h5 := h4.kept hk5
        have hl5 := hl4.kept hk5 (fun _ _ h => h.elim)
        have hbx5 := hbx4.kept hk5 id
        have hcml5 := hcml4.kept hk5 (fun _ _ h => h.elim)
        have hrd5 := hrd4.kept hk5 (fun _ _ => id)
        have hk05 : Kx B.X w w5 := hk04.trans (hk5.mono (fun _ _ h => h.elim))
        have hbsM : ∀ k ∈ bs, ¬ M k := fun k hk m => by have := hlow k m; have := (hbs k hk).1; have := HB.out; omega
        have hcnt := tree_count hl4.ok
        have HCO : Hid (Pd.commitOf Sh.K W1 pcs l4 ⟨word, ref, mark, ⟨an, ama, at'⟩, data, ⟨fm, fr⟩, ms, cs⟩ = ⟨⟨Pd.add Sh.K 3 (Pd.comText (Pd.sum Sh.K 2 (Pf.tree Sh.K l4).1) pcs ⟨an, ama, at'⟩ data) (Pd.addTr Sh.K (.mk (Pf.tree Sh.K l4).1 (Pf.tree Sh.K l4).2) W1.st.obj), upd W1.st.com (Sh.idK Sh.K 3 (Pd.comText (Pd.sum Sh.K 2 (Pf.tree Sh.K l4).1) pcs ⟨an, ama, at'⟩ data)) (some ⟨Pd.sum Sh.K 3 (Pd.comText (Pd.sum Sh.K 2 (Pf.tree Sh.K l4).1) pcs ⟨an, ama, at'⟩ data), l4⟩), upd W1.st.ref ref (some ⟨Pd.sum Sh.K 3 (Pd.comText (Pd.sum Sh.K 2 (Pf.tree Sh.K l4).1) pcs ⟨an, ama, at'⟩ data), l4⟩), W1.st.tag⟩, upd W1.ms mark (some (.com ⟨Pd.sum Sh.K 3 (Pd.comText (Pd.sum Sh.K 2 (Pf.tree Sh.K l4).1) pcs ⟨an, ama, at'⟩ data), l4⟩))⟩) := rfl
        have hT2 := hT
        unfold IsTr at hT2
        obtain ⟨tv, tps, hq5, _⟩ := hT2
        clear htree h4 hl4 hbx4 hcml4 hrd4 hk5 q1 hk04
        generalize (Pf.tree Sh.K l4).1 = tc at *
        generalize (Pf.tree Sh.K l4).2 = tws at *
        go_wp2_with fail
        refine wp_region_quiet_tail (C := fun w' => Kx (fun _ => False) w5 w') 11 (by kernel_rfl) (by kernel_rfl) (Kx.refl _ _).drew ?_
        refine quiet_val rfl (.pointer (some ⟨B.q, 0, none⟩)) (fun w' hC => by go_simp) ?_
        refine quiet_val rfl (.pointer (some ⟨B.q, 0, none⟩)) (fun w' hC => by go_simp) ?_
        refine quiet_val rfl (.pointer (some ⟨B.q, 1, none⟩)) (fun w' hC => by go_simp) ?_
        refine quiet_val rfl (.pointer (some ⟨B.mb, 0, none⟩)) (fun w' hC => by
          have hc0 : w'.cell? ⟨B.q, 1, none⟩ = some (.pointer (some ⟨B.mb, 0, none⟩)) := Cb.cell (h5.wq.kept hC id) 1
          go_simp) ?_
        refine quiet_val rfl (.slice a4 l4.length c4) (fun w' hC => by go_simp) ?_
        refine quiet_val rfl (.pointer (some ⟨tp, 0, none⟩)) (fun w' hC => by go_simp) ?_
        refine quiet_val rfl (.slice ap ps.length cp) (fun w' hC => by go_simp) ?_
        refine quiet_val rfl (.pointer (some ⟨b1, 3, none⟩)) (fun w' hC => by go_simp) ?_
        refine quiet_val rfl (.agg #[.string ⟨an.toArray⟩, .string ⟨ama.toArray⟩, .int .i64 at']) (fun w' hC => by
          have hc0 : w'.cell? ⟨b1, 3, none⟩ = some (.string ⟨an.toArray⟩) := Cb.cell (hbx5.kept hC id) 3
          have hc1 : w'.cell? ⟨b1, 4, none⟩ = some (.string ⟨ama.toArray⟩) := Cb.cell (hbx5.kept hC id) 4
          have hc2 : w'.cell? ⟨b1, 5, none⟩ = some (.int .i64 at') := Cb.cell (hbx5.kept hC id) 5
          go_simp) ?_
        refine quiet_val rfl (.pointer (some ⟨b1, 6, none⟩)) (fun w' hC => by go_simp) ?_
        refine quiet_val rfl (.string ⟨data.toArray⟩) (fun w' hC => by
          have hc0 : w'.cell? ⟨b1, 6, none⟩ = some (.string ⟨data.toArray⟩) := Cb.cell (hbx5.kept hC id) 6
          go_simp) ?_
        refine wpQuiet_nil (fun w' hC => ?_)
        simp only [Act.put, sI, sS, sZ, List.drop_succ_cons, List.drop_zero]
        have hC5 := hC
        have h5c := h5.kept hC
        have hcom := commitM_any Sh.K K72 B.mb 281 a4 l4.length c4 tp tc tv ps pcs ap cp ⟨an, ama, at'⟩ data M w' h5c.gl h5c.mkr (hq5.kept hC id) (hrd5.kept hC (fun _ _ => id)) (hcml5.kept hC (fun _ _ h => h.elim)) (by omega) hna hma ht0 ht1 hda
        obtain ⟨txt, htxt⟩ : ∃ txt, Pd.comText (Pd.sum Sh.K 2 tc) pcs ⟨an, ama, at'⟩ data = txt := ⟨_, rfl⟩
        rw [htxt] at hcom
        have HTX : Hid (Pd.comText (Pd.sum Sh.K 2 tc) pcs ⟨an, ama, at'⟩ data = txt) := htxt
        clear htxt
        unfold comC Au.cells at hcom
        simp only at hcom
        go_wp2_with fail
        refine hcom.mono ?_
        rintro _ w6 ⟨cb, rfl, hcbl, hcbc, hk6⟩
        have hk56 := hC5.trans hk6
        have h6 := h5.kept hk56
        have hl6 := hl5.kept hk56 (fun _ _ h => h.elim)
        have hbx6 := hbx5.kept hk56 id
        have hT6 := hT.kept hk56 (fun _ _ => id)
        have hk06 : Kx B.X w w6 := hk05.trans (hk56.mono (fun _ _ h => h.elim))
        have hcM : ¬ M cb := fun m => by have := hlow cb m; have := hk05.size; have := hC5.size; have := HB.out; omega
        have hrd6 := hrd5.kept hk56 (fun _ _ => id)
        have hcml6 := hcml5.kept hk56 (fun _ _ h => h.elim)
        have hpM : ps ≠ [] → ∃ g o, ap = some ⟨g, o, none⟩ ∧ ¬ M g ∧ g < w6.heap.size ∧ ∀ k x, (ps.map ptrV)[k]? = some x → w6.cell? ⟨g, o + k, none⟩ = some x := fun hn => by
          have hpl0 : ps.length ≠ 0 := fun e => hn (List.length_eq_zero_iff.1 e)
          obtain ⟨q0, c0, he0, _, hr0⟩ := hrd6
          obtain ⟨g, o, hq0, hcl⟩ := hr0 hpl0
          obtain ⟨rfl, _⟩ : ap = q0 ∧ True := ⟨(Value.slice.inj he0).1, trivial⟩
          subst hq0
          have h00 := hcl 0 _ (List.getElem?_eq_getElem (l := ps.map ptrV) (by rw [List.length_map]; exact Nat.pos_of_ne_zero hpl0))
          exact ⟨g, o, rfl, fun m => by have := hlow g m; have := hpb g rfl; have := HB.out; omega, lt_of_cell (p := ⟨g, o + 0, none⟩) h00, hcl⟩
        have hgd6 : Good M w6 cb := Good.mk ⟨⟨txt, _, _, l4, ap, cp, ps, ⟨an, ama, at'⟩, data, hcbc, hl6.fs, hl6.ok, hl6.still, hpM, by have := HPL.out; omega, hcml6.good, idK_len _ _ _, hna, hma, ⟨ht0, ht1⟩, hda⟩, hcM⟩
        have hcmt6 : Cmt M w6 cb ⟨Pd.sum Sh.K 3 txt, l4⟩ := ⟨⟨txt, _, _, hcbc, hl6.fs, hl6.still⟩, hcM, ofK_len _ _, hl6.ok, hgd6⟩
        have q0 : w6.cell? ⟨B.q, 0, none⟩ = some (.pointer (some ⟨B.d, 0, none⟩)) := Cb.cell h6.wq 0
        have hadd := addTreeW_any h6 (.mk tc tws) tp bs hT6 hbsM (by omega)
        clear hcom h5 h5c hl5 hbx5 hcml5 hrd5 hk05 hT hC hC5 hk6 hk56 hq5 hT6
        go_wp2_with fail
        refine hadd.mono ?_
        rintro _ w7 ⟨rfl, h7, hk7⟩
        have hk07 : Kx B.X w w7 := hk06.trans (hk7.mono (fun _ _ e => .inl e))
        have hXk7 : ∀ k, k < w6.heap.size → Only B.mo k → M k := fun k _ e => hXM k (.inl e)
        have hcmt7 := hcmt6.kept hk7 hXk7
        have hcbc7 := hcbc.kept hk7 (fun e => hcM (hXM _ (.inl e)))
        have hbx7 := hbx6.kept hk7 (fun e => hxb (.inl e))
        have q0' : w7.cell? ⟨B.q, 0, none⟩ = some (.pointer (some ⟨B.d, 0, none⟩)) := Cb.cell h7.wq 0
        have haddc := addCommitW_any h7 (by omega) cb txt l4 _ hcbc7 hcmt7
        clear hadd h6 hl6 hbx6 hk06 hcmt6 hcbc q0 hk7 hXk7
        go_wp2_with fail
        refine haddc.mono ?_
        rintro _ w8 ⟨rfl, h8, hk8⟩
        have hX8 : ∀ k, (k = B.mo ∨ k = B.mc) → B.X k := fun k e => by
          rcases e with e | e
          · exact .inl e
          · exact .inr (.inl e)
        have hk08 : Kx B.X w w8 := hk07.trans (hk8.mono (fun k _ e => hX8 k e))
        have hcmt8 := hcmt7.kept hk8 (fun k _ e => hXM k (hX8 k e))
        have hbx8 := hbx7.kept hk8 (fun e => hxb (hX8 _ e))
        clear haddc h7 hbx7 hk07 hcmt7 hcbc7 q0' hk8
        go_wp2_with fail
        refine wp_region_quiet_tail (C := fun w' => Kx (fun _ => False) w8 w') 7 (by kernel_rfl) (by kernel_rfl) (Kx.refl _ _).drew ?_
        refine quiet_val rfl (.pointer (some ⟨B.q, 0, none⟩)) (fun w' hC => by go_simp) ?_
        refine quiet_val rfl (.pointer (some ⟨B.q, 0, none⟩)) (fun w' hC => by go_simp) ?_
        refine quiet_val rfl (.pointer (some ⟨B.q, 0, none⟩)) (fun w' hC => by go_simp) ?_
        refine quiet_val rfl (.pointer (some ⟨B.d, 0, none⟩)) (fun w' hC => by
          have hc0 : w'.cell? ⟨B.q, 0, none⟩ = some (.pointer (some ⟨B.d, 0, none⟩)) := Cb.cell (h8.wq.kept hC id) 0
          go_simp) ?_
        refine quiet_val rfl (.pointer (some ⟨b1, 1, none⟩)) (fun w' hC => by go_simp) ?_
        refine quiet_val rfl (.string ⟨ref.toArray⟩) (fun w' hC => by
          have hc0 : w'.cell? ⟨b1, 1, none⟩ = some (.string ⟨ref.toArray⟩) := Cb.cell (hbx8.kept hC id) 1
          go_simp) ?_
        refine quiet_val rfl (.pointer (some ⟨cb, 0, none⟩)) (fun w' hC => by go_simp) ?_
        refine wpQuiet_nil (fun w' hC => ?_)
        simp only [Act.put, sI, sS, sZ, List.drop_succ_cons, List.drop_zero]
        have hset9 := setRefW_any (h8.kept hC) (by omega) ref href (some ⟨Pd.sum Sh.K 3 txt, l4⟩) (some ⟨cb, 0, none⟩) ⟨cb, rfl, hcmt8.kept hC (fun _ _ h => h.elim)⟩
        go_wp2_with fail
        refine hset9.mono ?_
        rintro _ w9 ⟨rfl, h9, hk9⟩
        have hk89 : Kx B.X w8 w9 := (hC.mono (fun _ _ h => h.elim)).trans (hk9.mono (fun _ _ e => .inr (.inr (.inl e))))
        have hk09 := hk08.trans hk89
        have hcmt9 := hcmt8.kept hk89 (fun k _ e => hXM k e)
        have hbx9 := hbx8.kept hk89 hxb
        clear hset9 h8 hbx8 hk08 hcmt8 hC hk9 hk89
        go_wp2_with fail
        refine wp_region_quiet_tail (C := fun w' => Kx (fun _ => False) w9 w') 8 (by kernel_rfl) (by kernel_rfl) (Kx.refl _ _).drew ?_
        refine quiet_val rfl (.pointer (some ⟨B.q, 0, none⟩)) (fun w' hC => by go_simp) ?_
        refine quiet_val rfl (.pointer (some ⟨B.q, 0, none⟩)) (fun w' hC => by go_simp) ?_
        refine quiet_val rfl (.pointer (some ⟨B.q, 2, none⟩)) (fun w' hC => by go_simp) ?_
        refine quiet_val rfl (.map (some B.kb)) (fun w' hC => by
          have hc0 : w'.cell? ⟨B.q, 2, none⟩ = some (.map (some B.kb)) := Cb.cell (h9.wq.kept hC id) 2
          go_simp) ?_
        refine quiet_val rfl (.pointer (some ⟨b1, 2, none⟩)) (fun w' hC => by go_simp) ?_
        refine quiet_val rfl (.int .i64 mark) (fun w' hC => by
          have hc0 : w'.cell? ⟨b1, 2, none⟩ = some (.int .i64 mark) := Cb.cell (hbx9.kept hC id) 2
          go_simp) ?_
        refine quiet_val rfl (.pointer (some ⟨cb, 0, none⟩)) (fun w' hC => by go_simp) ?_
        refine quiet_val rfl (.agg #[.pointer (some ⟨cb, 0, none⟩), .string ⟨#[]⟩]) (fun w' hC => by go_simp) ?_
        refine wpQuiet_nil (fun w' hC => ?_)
        simp only [Act.put, sI, sS, sZ, List.drop_succ_cons, List.drop_zero]
        have h9c := h9.kept hC
        have hk9c : Kx B.X w w' := hk09.trans (hC.mono (fun _ _ h => h.elim))
        have hcmt9c := hcmt9.kept hC (fun _ _ h => h.elim)
        obtain ⟨f, hf, hM⟩ := h9c.marks
        refine wpList_putI rfl _ _ _ 168 rfl 314 (by kernel_rfl) (by kernel_rfl) B.kb _ f rfl hf (by omega) mark rfl (by omega) (by omega) (.agg #[.pointer (some ⟨cb, 0, none⟩), .string ⟨#[]⟩]) rfl ?_
        intro wA hfA hkA
        have hXA : ∀ k, k < w'.heap.size → Only B.kb k → M k := fun k _ e => hXM k (.inr (.inr (.inr (.inr e))))
        have hwA := mark_wrk h9c hkA hfA ((hM.kept hkA hXA).updC mark (hcmt9c.kept hkA hXA))
        have hk0A : Kx B.X w wA := hk9c.trans (hkA.mono (fun _ _ e => .inr (.inr (.inr (.inr e)))))
        have hwF := hwA.mono (n' := n + 13000) (by omega)
        have HEQ : Hid (RR = (0, ⟨⟨Pd.add Sh.K 3 txt (Pd.addTr Sh.K (.mk tc tws) W1.st.obj), upd W1.st.com (Sh.idK Sh.K 3 txt) (some ⟨Pd.sum Sh.K 3 txt, l4⟩), upd W1.st.ref ref (some ⟨Pd.sum Sh.K 3 txt, l4⟩), W1.st.tag⟩, upd W1.ms mark (some (.com ⟨Pd.sum Sh.K 3 txt, l4⟩))⟩)) := by
          show RR = _
          rw [HR3.out, HCO.out, HTX.out]
        clear h9c hk9c hcmt9c hf hM hfA hkA hXA hwA h9 hbx9 hk09 hcmt9 hC HR3 HCO HTX
        go_wp2
        go_ret
        rw [HEQ.out]
        exact ⟨rfl, fun _ => hwF, hk0A⟩
      · have HR3 : Hid (RR = (E, W)) := by
          have := HR2.out
          rw [if_neg hE] at this
          exact this
        clear HR2 hv4
        go_wp2
        go_ret
        rw [HR3.out]
        exact ⟨rfl, fun e => absurd e hE, hk04⟩

structure Sto (M : Nat → Prop) (w : World) (h o c r t n : Nat) (S : St) : Prop where
  hi : Hi w h o c r t
  obj : MpS w o n (objF S.obj)
  com : ∃ f, MpS w c n f ∧ ComF M w f S.com
  ref : ∃ f, MpS w r n f ∧ ComF M w f S.ref
  tag : ∃ f, MpS w t n f ∧ TagF M w f S.tag
  inM : ∀ k, Fo o c r t k → M k
  outM : ¬ M h
  sep : o ≠ c ∧ o ≠ r ∧ o ≠ t ∧ c ≠ r ∧ c ≠ t ∧ r ≠ t
  lowM : ∀ k, M k → 7 ≤ k ∧ k < w.heap.size

theorem Sto.kept {M X : Nat → Prop} {w w' : World} {h o c r t n : Nat} {S : St} (hs : Sto M w h o c r t n S) (hk : Kx X w w') (hX : ∀ k, k < w.heap.size → X k → M k) (hF : ∀ k, Fo o c r t k → ¬ X k) : Sto M w' h o c r t n S := by
  obtain ⟨f1, a1, b1⟩ := hs.com
  obtain ⟨f2, a2, b2⟩ := hs.ref
  obtain ⟨f3, a3, b3⟩ := hs.tag
  exact ⟨hs.hi.kept hk (fun e => hs.outM (hX h hs.hi.lt e)), hs.obj.kept hk (hF o (.inl rfl)), ⟨f1, a1.kept hk (hF c (.inr (.inl rfl))), b1.kept hk hX⟩, ⟨f2, a2.kept hk (hF r (.inr (.inr (.inl rfl)))), b2.kept hk hX⟩,
    ⟨f3, a3.kept hk (hF t (.inr (.inr (.inr rfl)))), b3.kept hk hX⟩, hs.inM, hs.outM, hs.sep, fun k e => ⟨(hs.lowM k e).1, Nat.lt_of_lt_of_le (hs.lowM k e).2 hk.size⟩⟩

def Bl.Past (B : Bl) (h o c r t : Nat) : Prop := B.p = h ∧ B.po = o ∧ B.pc = c ∧ B.pr = r ∧ B.pt = t

theorem wrk_new {M : Nat → Prop} {w w1 w2 w4 : World} {h o c r t n d m mo mc mr mt mb kb q : Nat} {S : St} (hs : Sto M w h o c r t n S) (hgl : Gl w) (hdr : Dr w1 d h m) (hmd : m < d) (hN : HiNew w w1 m mo mc mr mt) (hmb : w1.heap.size ≤ mb) (hcm : Cb mb (A32 Sh.K) 281 w2) (hk2 : Kx (fun _ => False) w1 w2)
    (hkb : kb = w2.heap.size) (hq : q = kb + 1) (hm4 : MapI Tryz.prog 3 w4 kb 0 (fun _ => none)) (hc4 : Cb q #[ptrV d, ptrV mb, .map (some kb)] 170 w4) (hk4 : Kx (fun _ => False) w2 w4) :
    Wrk (fun k => M k ∨ (Bl.mk q d h m mb kb o c r t mo mc mr mt).X k) w4 ⟨q, d, h, m, mb, kb, o, c, r, t, mo, mc, mr, mt⟩ 0 S ⟨S, fun _ => none⟩ ∧ Kx (fun _ => False) w w4 ∧ ∀ k, (Bl.mk q d h m mb kb o c r t mo mc mr mt).X k → w.heap.size ≤ k := by
  obtain ⟨n1, n2, n3, n4, n5⟩ := hN.new
  have hdl := hdr.lt
  have hml := hcm.lt
  have hs1 := hN.kx.size
  have hs2 := hk2.size
  have hhl := hs.hi.lt
  have h7 := hs.lowM o (hs.inM o (.inl rfl))
  have hgs := hgl.size
  have hk24 := hk2.trans hk4
  have hk04 := hN.kx.trans hk24
  have hXlo : ∀ k, (Bl.mk q d h m mb kb o c r t mo mc mr mt).X k → w.heap.size ≤ k := by
    intro k e
    simp only [Bl.X] at e
    omega
  have hXhi : ∀ k, (Bl.mk q d h m mb kb o c r t mo mc mr mt).X k → k ≤ kb := by
    intro k e
    simp only [Bl.X] at e
    omega
  have hM' : ∀ k, k < w.heap.size → (M k ∨ (Bl.mk q d h m mb kb o c r t mo mc mr mt).X k) → M k := fun k hk e => e.elim id (fun x => absurd (hXlo k x) (by omega))
  obtain ⟨f2, a2, b2⟩ := hs.ref
  have hrl := a2.lt
  have hkl : kb < w4.heap.size := hm4.lt
  refine ⟨⟨hgl.kept hk04 (fun _ _ => id), hc4, hdr.kept hk24 id, hcm.kept hk4 id, hs.hi.kept hk04 id, hN.hi.kept hk24 id, ⟨n, f2, a2.kept hk04 id, (b2.mono hM').kept hk04 (fun _ _ h => h.elim)⟩, ⟨fun _ => none, hN.fo.kept hk24 id, rfl⟩,
    ⟨fun _ => none, none4, hN.fc.kept hk24 id, fun k => ⟨fun _ => rfl, fun c e => by cases e⟩, rfl⟩, ⟨fun _ => none, none4, hN.fr.kept hk24 id, fun k => ⟨fun _ => rfl, fun e => (by cases e), fun c e => by cases e⟩, rfl⟩,
    ⟨fun _ => none, none4, hN.ft.kept hk24 id, fun k => ⟨fun _ => rfl, fun c e => by cases e⟩, rfl⟩, ⟨_, hm4, fun k => ⟨fun _ => rfl, fun s e => (by cases e), fun c e => by cases e⟩⟩, ?_, fun k e => .inr e, ?_⟩, hk04, hXlo⟩
  · constructor <;> simp only [Bl.X] <;> omega
  · intro k e
    rcases e with e | e
    · have := (hs.lowM k e).2
      have := hk04.size
      omega
    · have := hXhi k e
      omega

set_option maxHeartbeats 800000 in
set_option maxRecDepth 100000 in
theorem newWork_any {M : Nat → Prop} {w : World} {h o c r t n : Nat} {S : St} (hs : Sto M w h o c r t n S) (hgl : Gl w) :
    Calls Tryz.prog 80 #[.pointer (some ⟨h, 0, none⟩)] w fun e w' => ∃ B : Bl, e = .returned (.pointer (some ⟨B.q, 0, none⟩)) ∧ B.Past h o c r t ∧ Wrk (fun k => M k ∨ B.X k) w' B 0 S ⟨S, fun _ => none⟩ ∧ Kx (fun _ => False) w w' ∧ ∀ k, B.X k → w.heap.size ≤ k := by
  have hmk : ∀ t w, Sem.run Tryz.prog (Instr.makeMap t none) w = .ok (.map (some w.heap.size)) (w.alloc (.map #[] 0)) := fun _ _ => rfl
  go_enter Tryz.func80, Tryz.ntmps80
  go_wp2_with fail
  refine (draft_any h w).mono ?_
  rintro _ w1 ⟨d, m, mo, mc, mr, mt, rfl, hdr, hmd, hN⟩
  have HS : Hid (Sto M w h o c r t n S) := hs
  clear hs
  go_wp2_with fail
  refine (newMaker_any w1).mono ?_
  rintro _ w2 ⟨mb, rfl, hmb, hcm, hk2⟩
  have k1 := (Kx.refl (fun _ => False) w2).alloc (.map #[] 0)
  have k2 := (Kx.refl (fun _ => False) (w2.alloc (.map #[] 0))).alloc (.cells #[.pointer (some ⟨d, 0, none⟩), .pointer (some ⟨mb, 0, none⟩), .map (some w2.heap.size)] 170)
  have hm4 := (MapI.made (P := Tryz.prog) (K := 3) w2).kept k2 id
  have hc4 := Cb.new #[.pointer (some ⟨d, 0, none⟩), .pointer (some ⟨mb, 0, none⟩), .map (some w2.heap.size)] 170 (w2.alloc (.map #[] 0))
  have hF := wrk_new HS.out hgl hdr hmd hN hmb hcm hk2 rfl rfl hm4 (by rw [World.size_alloc] at hc4; exact hc4) (k1.trans k2)
  clear k1 k2 hm4 hc4 hcm hk2
  go_wp2
  go_ret
  exact ⟨_, rfl, ⟨rfl, rfl, rfl, rfl, rfl⟩, hF⟩

theorem Tryz.info154 : (Tryz.prog.info? 154).map (fun i => (i.zero, i.size, i.bytes)) = some (some (.agg #[.int .i64 0, .string ⟨#[]⟩]), 2, 24) := by kernel_rfl

def left (b : Nat) (w : World) : Nat := match w.cell? ⟨b, 0, none⟩ with | some (.string x) => x.size | _ => 0

theorem Rd.left {b : Nat} {s : List UInt8} {bad : Bool} {w : World} (h : Rd b s bad w) : left b w = s.length := by
  unfold YtepgoppgblfjbaaGreatDoor.left; rw [h.c0]; simp [ByteArray.size]

theorem own_kept {b base : Nat} {e : TypeId} {size : Nat} {v : Value} {n : Nat} {xs : List Value} {w w' : World} (h : w.ownsRow base e size v n xs) (hk : Kx (Only b) w w') (hb : b < base) : w'.ownsRow base e size v n xs := by
  refine ⟨h.1, ?_⟩
  rcases h.2 with hn | ⟨g, cap, cur, rfl, hbg, hgg, rest⟩
  · exact .inl hn
  · refine .inr ⟨g, cap, cur, rfl, hbg, ?_, rest⟩
    rw [hk.block g (Array.getElem?_eq_some_iff.1 hgg).1 (by unfold Only; omega)]
    exact hgg

theorem Rd.grown {b : Nat} {s : List UInt8} {bad : Bool} {w w' : World} {row : Option Nat} (h : Rd b s bad w) (hg : w.grownBy w' row) (hr : ∀ k, row = some k → b < k) : Rd b s bad w' := by
  have hk : Kx (fun k => some k = row) w w' := ⟨hg.os, hg.tape, hg.output, hg.size, fun k hl hx => hg.block k hl hx⟩
  refine h.kept hk ?_ ?_
  · intro e; have := hr 1 e.symm; have := h.pos; omega
  · intro e; have := hr b e.symm; omega

set_option maxHeartbeats 800000 in
set_option maxRecDepth 100000 in
theorem merges_any (b : Nat) (s : List UInt8) (bad : Bool) (w : World) (h : Rd b s bad w) :
    Calls Tryz.prog 225 #[.pointer (some ⟨b, 0, none⟩)] w fun e w' => (∃ v, e = .returned v ∧ w'.ownsRow w.heap.size 154 2 v (Pu.mergesV s.length s bad).length (whsC (Pu.mergesV s.length s bad))) ∧ Rd b (Pu.merges s bad).1 (Pu.merges s bad).2 w' ∧ Kx (Only b) w w' := by
  have hb := h.lt
  have hs := h.short
  obtain ⟨i0, hi, hz0, hz1, hz2⟩ := info_parts Tryz.info154
  go_enter Tryz.func225, Tryz.ntmps225
  go_wp2
  go_loopw [3] (fun v w' => ∃ (n : Nat) (s' : List UInt8) (bad' : Bool) (xs : List Pu.Wh), n = xs.length ∧ n + s'.length ≤ s.length ∧ Rd b s' bad' w' ∧ Kx (Only b) w w' ∧ w'.ownsRow w.heap.size 154 2 v n (whsC xs) ∧ Pu.mergesF s.length s bad 0 = Pu.mergesF s'.length s' bad' n ∧ Pu.mergesV s.length s bad = xs ++ Pu.mergesV s'.length s' bad') (fun _ w' => left b w')
  case atStart => exact ⟨0, s, bad, [], rfl, by omega, h, Kx.refl _ _, World.ownsRow_nil _ _ _ _, rfl, rfl⟩
  case round =>
    obtain ⟨n, s1, bad1, xs, hxs, hn, hr, hk, hown, hE, hV⟩ := hrel
    have HE : Hid (Pu.mergesF s.length s bad 0 = Pu.mergesF s1.length s1 bad1 n) := hE
    have HV : Hid (Pu.mergesV s.length s bad = xs ++ Pu.mergesV s1.length s1 bad1) := hV
    have HX : Hid (n = xs.length) := hxs
    clear hE hV hxs
    have hr0 := hr
    obtain ⟨c0, c1, f0, f1, pos, ⟨m, hm⟩, short⟩ := hr
    have hsz := hk.size
    cases hp : Lib.hasPrefix s1 Pu.sMerge
    · have HE2 : Hid (Pu.mergesF s.length s bad 0 = (n, s1, bad1)) := by
        show _ = _
        rw [HE.out, Pu.mergesF_stop _ _ _ _ hp]
      have HV2 : Hid (Pu.mergesV s.length s bad = xs) := by
        show _ = _
        rw [HV.out, Pu.mergesV_stop _ _ _ hp, List.append_nil]
      have HP : Hid (Lib.hasPrefix s1 Pu.sMerge = false) := hp
      clear hp HE
      obtain ⟨av, nv, cv, hv, hnv⟩ : ∃ av nv cv, u3 = .slice av nv cv ∧ nv = n := by
        rcases hown.2 with ⟨rfl, rfl⟩ | ⟨g, cap, cur, rfl, _⟩
        · exact ⟨_, _, _, rfl, rfl⟩
        · exact ⟨_, _, _, rfl, rfl⟩
      subst hv hnv
      go_wp2_with fail
      refine (hasPrefix_any s1 Pu.sMerge _).mono ?_
      rintro e w1 ⟨rfl, rfl⟩
      rw [HP.out]
      go_wp2_with fail
      refine (need_any b s1 bad1 _ _ hr0).mono ?_
      rintro e w2 ⟨rfl, hr2, hk2⟩
      go_wp2
      go_ret
      refine ⟨⟨_, rfl, by rw [HV2.out, ← HX.out]; exact own_kept hown hk2 hb⟩, ?_, hk.trans hk2⟩
      have e4 : decide ((nv : Int) < 4) = decide (nv < 4) := by congr 1; simp only [eq_iff_iff]; omega
      rw [e4] at hr2
      unfold Pu.merges
      rw [HE2.out]
      exact hr2
    · have HE2 : Hid (Pu.mergesF s.length s bad 0 = Pu.mergesF (Pu.which Pu.sMerge s1 bad1).1.length (Pu.which Pu.sMerge s1 bad1).1 (Pu.which Pu.sMerge s1 bad1).2 (n + 1)) := by
        show _ = _
        rw [HE.out, Pu.mergesF_step _ _ _ hp]
      have HV2 : Hid (Pu.mergesV s.length s bad = (xs ++ [Pu.whichV Pu.sMerge s1 bad1]) ++ Pu.mergesV (Pu.which Pu.sMerge s1 bad1).1.length (Pu.which Pu.sMerge s1 bad1).1 (Pu.which Pu.sMerge s1 bad1).2) := by
        show _ = _
        rw [HV.out, Pu.mergesV_step _ _ hp, List.append_assoc, List.singleton_append]
      have hlt := Pu.which_lt Pu.sMerge s1 bad1 (Pu.hasPrefix_ne hp (by decide))
      have HP : Hid (Lib.hasPrefix s1 Pu.sMerge = true) := hp
      clear hp HE
      go_wp2_with fail
      refine (hasPrefix_any s1 Pu.sMerge _).mono ?_
      rintro e w1 ⟨rfl, rfl⟩
      rw [HP.out]
      go_wp2_with fail
      refine (which_any b s1 bad1 Pu.sMerge _ hr0).mono ?_
      rintro e w2 ⟨rfl, hr2, hk2⟩
      generalize Pu.which Pu.sMerge s1 bad1 = st at *
      generalize Pu.whichV Pu.sMerge s1 bad1 = wv at *
      obtain ⟨s2, bad2⟩ := st
      obtain ⟨q, x⟩ := wv
      have hown2 := own_kept hown hk2 hb
      go_wp2_with (at_builtin; refine wpList_append_own _ rfl (.tmp 9) (.tmp 12) 155 rfl w.heap.size 154 i0 _ 2 24 Tryz.underlying155 hi hz0 hz1 hz2 rfl (by decide) _ _ _ rfl (hown2.alloc _) ⟨w2.heap.size, 0, none⟩ 1 1 [.int .i64 q, .string ⟨x.toArray⟩] rfl rfl ?c1 ?c2 ?c3 ?c4 ?c5 ?_)
      case c1 => exact cells_new _ [_, _] _
      case c2 => simp [Value.oneCell']
      case c3 => unfold maxLen; omega
      case c4 => omega
      case c5 => have := hk2.size; simp; omega
      intro v4 w4 hown4 hgrow4 _
      have hk4 : Kx (Only b) w w4 := ((hk.trans hk2).alloc _).grown hgrow4 (fun k he => (hown2.lt k he).1)
      have hr4 : Rd b s2 bad2 w4 := (hr2.alloc _).grown hgrow4 (fun k he => by have := (hown2.lt k he).1; omega)
      go_wp2
      go_roundw
      case rel => exact ⟨n + 1, s2, bad2, xs ++ [⟨q, x⟩], by rw [HX.out]; simp, by omega, hr4, hk4, by unfold whsC; rw [List.flatMap_append]; exact hown4, HE2.out, HV2.out⟩
      case measure => rw [hr4.left, hr0.left]; exact hlt

theorem Tryz.info332 : (Tryz.prog.info? 332).map (fun i => (i.zero, i.size, i.bytes)) = some (some (.agg #[.string ⟨#[]⟩, .string ⟨#[]⟩, .int .i64 0, .string ⟨#[]⟩, .string ⟨#[]⟩, .string ⟨#[]⟩]), 6, 88) := by kernel_rfl

def more (v : Value) : Nat := match v with | .string x => if x.size = 0 then 0 else 1 | _ => 0

theorem more_nil : more (.string ⟨([] : List UInt8).toArray⟩) = 0 := rfl
theorem more_ne (l : List UInt8) (h : l ≠ []) : more (.string ⟨l.toArray⟩) = 1 := by
  unfold more
  have : ¬ (⟨l.toArray⟩ : ByteArray).size = 0 := by
    simp [ByteArray.size]; exact h
  simp only [this, if_false]
theorem more_le (v : Value) : more v ≤ 1 := by
  unfold more; split
  · split <;> omega
  · omega

theorem round_less (l s : List UInt8) (bad : Bool) :
    (Pu.line (Pu.change l s bad).1 (Pu.change l s bad).2).2.1.length + more (.string ⟨(Pu.line (Pu.change l s bad).1 (Pu.change l s bad).2).1.toArray⟩) ≤ s.length := by
  have h1 := Pu.round_lt l s bad
  have h2 := Pu.change_le l s bad
  have h3 := Pu.line_le (Pu.change l s bad).1 (Pu.change l s bad).2
  rcases h1 with e | e
  · rw [e, more_nil]; omega
  · have := more_le (.string ⟨(Pu.line (Pu.change l s bad).1 (Pu.change l s bad).2).1.toArray⟩); omega

set_option maxHeartbeats 800000 in
set_option maxRecDepth 100000 in
theorem changes_any (b : Nat) (s : List UInt8) (bad : Bool) (w : World) (h : Rd b s bad w) :
    Calls Tryz.prog 226 #[.pointer (some ⟨b, 0, none⟩)] w fun e w' => (∃ v, e = .returned v ∧ w'.ownsRow w.heap.size 332 6 v (Pu.changesAll s bad).length (chsC (Pu.changesAll s bad))) ∧ Rd b (Pu.changes s bad).1 (Pu.changes s bad).2 w' ∧ Kx (Only b) w w' := by
  have hb := h.lt
  have hs := h.short
  obtain ⟨i0, hi, hz0, hz1, hz2⟩ := info_parts Tryz.info332
  have HC : Hid (Pu.changes s bad = Pu.need (decide ((Pu.changesF (s.length + 2) (Pu.line s bad).1 (Pu.line s bad).2.1 (Pu.line s bad).2.2 0).1 ≤ 30))
    (Pu.changesF (s.length + 2) (Pu.line s bad).1 (Pu.line s bad).2.1 (Pu.line s bad).2.2 0).2.1 (Pu.changesF (s.length + 2) (Pu.line s bad).1 (Pu.line s bad).2.1 (Pu.line s bad).2.2 0).2.2) := rfl
  have hll := Pu.line_lens s bad
  have hFV := Pu.changesV_fuel (s.length + 2) ((Pu.line s bad).2.1.length + 1) (Pu.line s bad).1 (Pu.line s bad).2.1 (Pu.line s bad).2.2 (by omega) (by omega)
  have HA : Hid (Pu.changesAll s bad = Pu.changesV (s.length + 2) (Pu.line s bad).1 (Pu.line s bad).2.1 (Pu.line s bad).2.2) := rfl
  have hF := Pu.changesF_fuel (s.length + 2) ((Pu.line s bad).2.1.length + 1) (Pu.line s bad).1 (Pu.line s bad).2.1 (Pu.line s bad).2.2 0 (by omega) (by omega)
  go_enter Tryz.func226, Tryz.ntmps226
  go_wp2_with fail
  refine (line_any b s bad _ h).mono ?_
  rintro e w1 ⟨rfl, hr, hk⟩
  generalize Pu.changesF (s.length + 2) (Pu.line s bad).1 (Pu.line s bad).2.1 (Pu.line s bad).2.2 0 = R at *
  generalize Pu.changesV (s.length + 2) (Pu.line s bad).1 (Pu.line s bad).2.1 (Pu.line s bad).2.2 = RV at *
  generalize Pu.line s bad = x at *
  obtain ⟨x0, x1, x2⟩ := x
  have HF : Hid (R = Pu.changesF (x1.length + 1) x0 x1 x2 0) := hF
  have HFV : Hid (RV = Pu.changesV (x1.length + 1) x0 x1 x2) := hFV
  clear hF hFV
  have hml := more_le (.string ⟨x0.toArray⟩)
  go_wp2
  go_loopw [3, 4] (fun v lv w' => ∃ (n : Nat) (l s' : List UInt8) (bad' : Bool) (xs : List Pu.Ch), n = xs.length ∧ lv = .string ⟨l.toArray⟩ ∧ l.length ≤ 8000 ∧ n + s'.length + more (.string ⟨l.toArray⟩) ≤ s.length + 1 ∧ Rd b s' bad' w' ∧ Kx (Only b) w w' ∧ w'.ownsRow w.heap.size 332 6 v n (chsC xs) ∧ R = Pu.changesF (s'.length + 1) l s' bad' n ∧ RV = xs ++ Pu.changesV (s'.length + 1) l s' bad') (fun _ lv w' => left b w' + more lv)
  case atStart => exact ⟨0, x0, x1, x2, [], rfl, rfl, by omega, by omega, hr, hk, World.ownsRow_nil _ _ _ _, HF.out, HFV.out⟩
  case round =>
    clear HF HFV hr hk hml
    obtain ⟨n, l, s1, bad1, xs, hxs, rfl, hl, hn, hr, hk, hown, hE, hV⟩ := hrel
    have HX : Hid (n = xs.length) := hxs
    have HV : Hid (RV = xs ++ Pu.changesV (s1.length + 1) l s1 bad1) := hV
    clear hxs hV
    have HE : Hid (R = Pu.changesF (s1.length + 1) l s1 bad1 n) := hE
    clear hE
    have hsz := hk.size
    by_cases hp : l = []
    · subst hp
      have HE2 : Hid (R = (n, s1, bad1)) := by
        show _ = _
        rw [HE.out, Pu.changesF_nil]
      have HV2 : Hid (RV = xs) := by
        show _ = _
        rw [HV.out, Pu.changesV_nil, List.append_nil]
      clear HE HV
      obtain ⟨av, nv, cv, hv, hnv⟩ : ∃ av nv cv, u3 = .slice av nv cv ∧ nv = n := by
        rcases hown.2 with ⟨rfl, rfl⟩ | ⟨g, cap, cur, rfl, _⟩
        · exact ⟨_, _, _, rfl, rfl⟩
        · exact ⟨_, _, _, rfl, rfl⟩
      subst hv hnv
      go_wp2_with fail
      refine (need_any b s1 bad1 _ _ hr).mono ?_
      rintro e w2 ⟨rfl, hr2, hk2⟩
      go_wp2
      go_ret
      refine ⟨⟨_, rfl, by rw [HA.out, HV2.out, ← HX.out]; exact own_kept hown hk2 hb⟩, ?_, hk.trans hk2⟩
      have e4 : decide ((nv : Int) ≤ 30) = decide (nv ≤ 30) := by congr 1; simp only [eq_iff_iff]; omega
      rw [e4] at hr2
      rw [HC.out, HE2.out]
      exact hr2
    · have hp2 : (l == []) = false := by simpa using hp
      have hm1 := more_ne l hp
      rw [hm1] at hn
      have HM : Hid (more (.string ⟨l.toArray⟩) = 1) := hm1
      have HE2 : Hid (R = Pu.changesF ((Pu.line (Pu.change l s1 bad1).1 (Pu.change l s1 bad1).2).2.1.length + 1) (Pu.line (Pu.change l s1 bad1).1 (Pu.change l s1 bad1).2).1 (Pu.line (Pu.change l s1 bad1).1 (Pu.change l s1 bad1).2).2.1 (Pu.line (Pu.change l s1 bad1).1 (Pu.change l s1 bad1).2).2.2 (n + 1)) := by
        show _ = _
        rw [HE.out, Pu.changesF_step _ _ _ _ hp2]
      have HV2 : Hid (RV = (xs ++ [Pu.changeV l s1 bad1]) ++ Pu.changesV ((Pu.line (Pu.change l s1 bad1).1 (Pu.change l s1 bad1).2).2.1.length + 1) (Pu.line (Pu.change l s1 bad1).1 (Pu.change l s1 bad1).2).1 (Pu.line (Pu.change l s1 bad1).1 (Pu.change l s1 bad1).2).2.1 (Pu.line (Pu.change l s1 bad1).1 (Pu.change l s1 bad1).2).2.2) := by
        show _ = _
        rw [HV.out, Pu.changesV_step _ _ _ hp2, List.append_assoc, List.singleton_append]
      have hless := round_less l s1 bad1
      have hll2 := (Pu.line_lens (Pu.change l s1 bad1).1 (Pu.change l s1 bad1).2).1
      have hcl := Pu.change_le l s1 bad1
      have hsh := hr.short
      clear HE HV hm1 hp
      go_wp2_with fail
      refine (change_any b l s1 bad1 _ hr hl).mono ?_
      rintro e w2 ⟨rfl, hr2, hk2⟩
      generalize Pu.change l s1 bad1 = st at *
      generalize Pu.changeV l s1 bad1 = cv at *
      obtain ⟨s2, bad2⟩ := st
      obtain ⟨q1, q2, q3, q4, q5, q6⟩ := cv
      unfold chC
      have hown2 := own_kept hown hk2 hb
      go_wp2_with (at_builtin; refine wpList_append_own _ rfl (.tmp 11) (.tmp 15) 156 rfl w.heap.size 332 i0 _ 6 88 Tryz.underlying156 hi hz0 hz1 hz2 rfl (by decide) _ _ _ rfl (hown2.alloc _) ⟨w2.heap.size, 0, none⟩ 1 1 [.string ⟨q1.toArray⟩, .string ⟨q2.toArray⟩, .int .i64 q3, .string ⟨q4.toArray⟩, .string ⟨q5.toArray⟩, .string ⟨q6.toArray⟩] rfl rfl ?c1 ?c2 ?c3 ?c4 ?c5 ?_)
      case c1 => exact cells_new _ [_, _, _, _, _, _] _
      case c2 => simp [Value.oneCell']
      case c3 => unfold maxLen; omega
      case c4 => omega
      case c5 => have := hk2.size; simp; omega
      intro v4 w4 hown4 hgrow4 _
      have hk4 : Kx (Only b) w w4 := ((hk.trans hk2).alloc _).grown hgrow4 (fun k he => (hown2.lt k he).1)
      have hr4 : Rd b s2 bad2 w4 := (hr2.alloc _).grown hgrow4 (fun k he => by have := (hown2.lt k he).1; omega)
      go_wp2_with fail
      refine (line_any b s2 bad2 _ hr4).mono ?_
      rintro e w5 ⟨rfl, hr5, hk5⟩
      generalize Pu.line s2 bad2 = y at *
      obtain ⟨y0, y1, y2⟩ := y
      have hown5 := own_kept hown4 hk5 hb
      go_wp2
      go_roundw
      case rel => exact ⟨n + 1, y0, y1, y2, xs ++ [⟨q1, q2, q3, q4, q5, q6⟩], by rw [HX.out]; simp, rfl, by omega, by omega, hr5, hk4.trans hk5, by unfold chsC; rw [List.flatMap_append]; exact hown5, HE2.out, HV2.out⟩
      case measure => rw [hr5.left, hr.left, HM.out]; omega

end Go.Proofs.YtepgoppgblfjbaaGreatDoor
