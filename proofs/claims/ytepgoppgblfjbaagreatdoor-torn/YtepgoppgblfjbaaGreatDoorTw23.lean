import Derived.Test.YtepgoppgblfjbaaGreatDoorTw22
import Derived.Test.YtepgoppgblfjbaaGreatDoorTw06
/- Package command: what a commit adds. -/
namespace Go.Proofs.YtepgoppgblfjbaaGreatDoor
open Go.RowKit

mutual
theorem addTr_or (K : List Int) (s : Objs) : ∀ (x : Tr) (g : Objs), orE (Pd.addTr K x g) s = Pd.addTr K x (orE g s)
  | .mk c ws, g => by
    unfold Pd.addTr
    rw [addTrs_or K s ws, show orE (Pd.add K 2 c g) s = Pd.add K 2 c (orE g s) from orE_upd _ _ _ _]
theorem addTrs_or (K : List Int) (s : Objs) : ∀ (x : Trs) (g : Objs), orE (Pd.addTrs K x g) s = Pd.addTrs K x (orE g s)
  | .nil, g => rfl
  | .cons t r, g => by
    unfold Pd.addTrs
    rw [addTrs_or K s r, addTr_or K s t]
end

theorem addTreeW_any {M : Nat → Prop} {w : World} {B : Bl} {n : Nat} {S : St} {W : Wk} (h : Wrk M w B n S W) (x : Tr) (q : Nat) (bs : List Nat) (hT : IsTr Sh.K w x q bs) (hbs : ∀ k ∈ bs, ¬ M k) (hn : n + x.count ≤ maxLen) :
    Calls Tryz.prog 231 #[.pointer (some ⟨B.d, 0, none⟩), .pointer (some ⟨q, 0, none⟩)] w fun e w' => e = .returned (.tuple #[]) ∧ Wrk M w' B (n + x.count) S { W with st := { W.st with obj := Pd.addTr Sh.K x W.st.obj } } ∧ Kx (Only B.mo) w w' := by
  obtain ⟨g, h1, h2⟩ := h.objs
  have hX : ∀ k, k < w.heap.size → Only B.mo k → M k := fun k _ e => h.inM k (.inl e)
  refine (at_all Sh.K x B.d B.p B.m B.mo B.mc B.mr B.mt n q bs g w h.dr h.hm h1 hT (fun k hk e => hbs k hk (by rw [e]; exact h.inM _ (.inl rfl))) (fun e => h.sep.d (.inl e)) (fun e => h.sep.m (.inl e)) hn).mono ?_
  rintro _ w' ⟨rfl, hm, hk⟩
  have hle := Nat.le_add_right n x.count
  refine ⟨rfl, h.turn (hk.mono (fun k _ e => .inl e)) ⟨_, hm, ?_⟩ (h.kcoms hk hX (fun e => h.sep.oc e.symm) hle) (h.krefs hk hX (fun e => h.sep.or e.symm) hle) (h.ktags hk hX (fun e => h.sep.ot e.symm) hle) (h.kmarks hk hX (fun e => h.sep.ok e.symm) hle), hk⟩
  show Pd.addTr Sh.K x W.st.obj = _
  rw [addTr_or, h2]

theorem addCommitW_any {M : Nat → Prop} {w : World} {B : Bl} {n : Nat} {S : St} {W : Wk} (h : Wrk M w B n S W) (hn : n < maxLen) (b : Nat) (x : List UInt8) (l : List Fi) (rest : List Value) (hb : Cb b (.int .i64 3 :: .string ⟨x.toArray⟩ :: .string ⟨(Sh.idK Sh.K 3 x).toArray⟩ :: rest).toArray 112 w) (hc : Cmt M w b ⟨Pd.sum Sh.K 3 x, l⟩) :
    Calls Tryz.prog 232 #[.pointer (some ⟨B.d, 0, none⟩), .pointer (some ⟨b, 0, none⟩)] w fun e w' => e = .returned (.tuple #[]) ∧
      Wrk M w' B (n + 1) S ⟨⟨Pd.add Sh.K 3 x W.st.obj, upd W.st.com (Sh.idK Sh.K 3 x) (some ⟨Pd.sum Sh.K 3 x, l⟩), W.st.ref, W.st.tag⟩, W.ms⟩ ∧ Kx (fun k => k = B.mo ∨ k = B.mc) w w' := by
  obtain ⟨g, h1, h2⟩ := h.objs
  obtain ⟨gc, f, h3, h4, h5⟩ := h.coms
  have hX : ∀ k, k < w.heap.size → (k = B.mo ∨ k = B.mc) → M k := fun k _ e => by
    rcases e with e | e
    · exact h.inM k (.inl e)
    · exact h.inM k (.inr (.inl e))
  refine (addCommit_any B.d B.p B.m B.mo B.mc B.mr B.mt n n (objF g) f b x (Sh.idK Sh.K 3 x) rest w h.dr h.hm h1 h3 hn hn (by rw [idK_len]; decide) hb h.sep.oc (fun e => h.sep.d (.inl e)) (fun e => h.sep.m (.inl e)) (fun e => hc.still (by rw [e]; exact h.inM _ (.inl rfl)))).mono ?_
  rintro _ w' ⟨rfl, hm, ht, hk⟩
  refine ⟨rfl, h.turn (hk.mono (fun k _ e => ?_)) ⟨Pd.add Sh.K 3 x g, by unfold Pd.add; rw [objF_upd]; exact hm, ?_⟩ ⟨upd gc (Sh.idK Sh.K 3 x) (some ⟨Pd.sum Sh.K 3 x, l⟩), _, ht, (h4.kept hk hX).upd (hc.kept hk hX), ?_⟩ (h.krefs hk hX (fun e => ?_) (Nat.le_succ n)) (h.ktags hk hX (fun e => ?_) (Nat.le_succ n)) (h.kmarks hk hX (fun e => ?_) (Nat.le_succ n)), hk⟩
  · rcases e with e | e
    · exact .inl e
    · exact .inr (.inl e)
  · show Pd.add Sh.K 3 x W.st.obj = _
    unfold Pd.add
    rw [orE_upd, h2]
  · show upd W.st.com _ _ = _
    rw [orE_upd, h5]
  · rcases e with e | e
    · exact h.sep.or e.symm
    · exact h.sep.cr e.symm
  · rcases e with e | e
    · exact h.sep.ot e.symm
    · exact h.sep.ct e.symm
  · rcases e with e | e
    · exact h.sep.ok e.symm
    · exact h.sep.ck e.symm

theorem below_weight2 (head : List UInt8) (hh : head ≠ []) : ∀ l : List Fi, Pf.weight (Pf.below head l) + (Pf.below head l).length + Pf.weight (l.drop (Pf.below head l).length) ≤ Pf.weight l
  | [] => by simp [Pf.below, Pf.weight]
  | f :: r => by
    have ih := below_weight2 head hh r
    unfold Pf.below
    split
    · rename_i hp
      have hl : head.length ≤ f.path.length := by
        unfold Lib.hasPrefix at hp
        rw [List.isPrefixOf_iff_prefix] at hp
        exact hp.length_le
      have h0 : 0 < head.length := List.length_pos_iff.2 hh
      simp only [Pf.weight, Lib.trimPrefix, hp, if_true, List.length_drop, List.length_cons, List.drop_succ_cons]
      omega
    · simp [Pf.weight]

theorem treeF_count (K : List Int) : ∀ (n : Nat) (l : List Fi), Trs.count (Pf.treeF K n l).2 ≤ Pf.weight l
  | 0, _ => by simp [Pf.treeF, Trs.count]
  | n + 1, [] => by simp [Pf.treeF, Trs.count]
  | n + 1, f :: r => by
    cases hc : (Lib.cut f.path [47]).2.2
    · rw [treeF_file K n f r hc]
      have := treeF_count K n r
      simp only [Pf.weight] at *
      omega
    · have hb := below_cons f r hc
      have hw := below_weight2 ((Lib.cut f.path [47]).1 ++ [47]) (by simp) (f :: r)
      rw [treeF_dir K n f r hc]
      have h1 := treeF_count K n (Pf.below ((Lib.cut f.path [47]).1 ++ [47]) (f :: r))
      have h2 := treeF_count K n ((f :: r).drop (Pf.below ((Lib.cut f.path [47]).1 ++ [47]) (f :: r)).length)
      show (1 + Trs.count _) + Trs.count _ ≤ _
      omega

theorem weight_le (l : List Fi) (h : Fine l) : Pf.weight l ≤ 201 * l.length := by
  induction l with
  | nil => simp [Pf.weight]
  | cons f r ih =>
    have h1 := h f (by simp)
    have h2 := ih (fun x hx => h x (by simp [hx]))
    simp only [Pf.weight, List.length_cons]
    omega

theorem tree_count {l : List Fi} (h : FOk l) : Tr.count (.mk (Pf.tree Sh.K l).1 (Pf.tree Sh.K l).2) ≤ 12061 := by
  have h1 := treeF_count Sh.K (Pf.weight l) l
  have h2 := weight_le l h.fine
  have h3 := h.len
  show 1 + Trs.count (Pf.treeF Sh.K (Pf.weight l) l).2 ≤ 12061
  omega

end Go.Proofs.YtepgoppgblfjbaaGreatDoor

/- Package command: doCommit. -/
namespace Go.Proofs.YtepgoppgblfjbaaGreatDoor
open Go.RowKit

set_option maxHeartbeats 3200000 in
set_option maxRecDepth 100000 in
theorem doCommit_any {M : Nat → Prop} {w : World} {B : Bl} {n : Nat} {S : St} {W : Wk} (h : Wrk M w B n S W) (hn : n + 13000 ≤ maxLen) (c : Pu.Co) (hc : CoOk c) (am ac : Option Addr) (cm cc : Nat) (hrm : Reads w (.slice am c.merges.length cm) c.merges.length (whsC c.merges))
    (hrc : Reads w (.slice ac c.changes.length cc) c.changes.length (chsC c.changes)) (hcb : ∀ k, (Value.slice ac c.changes.length cc).ownBlock = some k → ¬ B.X k) :
    Calls Tryz.prog 168 #[.pointer (some ⟨B.q, 0, none⟩), .agg (coC c (.slice am c.merges.length cm) (.slice ac c.changes.length cc))] w fun e w' => DoR M w w' B (n + 13000) S (Pd.commit Sh.K W c) e := by
  obtain ⟨RR, hRR⟩ : ∃ RR, Pd.commit Sh.K W c = RR := ⟨_, rfl⟩
  rw [hRR]
  have HRR : Hid ((if Pd.isSet W c.mark then ((3 : Int), W) else match Pd.parents W c with | none => (4, W) | some (ps, l) => if (Pd.changes Sh.K W l c.changes).1 = 0 then (0, Pd.commitOf Sh.K (Pd.changes Sh.K W l c.changes).2.1 ps (Pd.changes Sh.K W l c.changes).2.2 c) else ((Pd.changes Sh.K W l c.changes).1, W)) = RR) := hRR
  clear hRR
  obtain ⟨word, ref, mark, ⟨an, ama, at'⟩, data, ⟨fm, fr⟩, ms, cs⟩ := c
  obtain ⟨m0, m1⟩ : 0 ≤ mark ∧ mark ≤ 999 := hc.mark
  have href : ref.length ≤ 1000 := hc.ref
  have hda : data.length ≤ 1000 := hc.data
  have hna : an.length ≤ 1000 := hc.name
  have hma : ama.length ≤ 1000 := hc.mail
  obtain ⟨ht0, ht1⟩ : 0 ≤ at' ∧ at' ≤ 9999999999 := hc.time
  have hchs : ∀ x ∈ cs, ChOk x := hc.changes.2
  have hcl : cs.length ≤ 30 := hc.changes.1
  have hmx : maxLen = 9223372036854775807 := rfl
  have hA := (Kx.refl (fun _ => False) w).alloc (.cells #[.string ⟨word.toArray⟩, .string ⟨ref.toArray⟩, .int .i64 mark, .string ⟨an.toArray⟩, .string ⟨ama.toArray⟩, .int .i64 at', .string ⟨data.toArray⟩, .int .i64 fm, .string ⟨fr.toArray⟩, .slice am ms.length cm, .slice ac cs.length cc] 158)
  have hbx := Cb.new #[.string ⟨word.toArray⟩, .string ⟨ref.toArray⟩, .int .i64 mark, .string ⟨an.toArray⟩, .string ⟨ama.toArray⟩, .int .i64 at', .string ⟨data.toArray⟩, .int .i64 fm, .string ⟨fr.toArray⟩, .slice am ms.length cm, .slice ac cs.length cc] 158 w
  have h1 := h.kept hA
  have his := isSet_any h1 mark m0 m1
  have hxb : ¬ B.X w.heap.size := fun e => by have := h.lowM _ (h.inM _ e); omega
  have hbM : ¬ M w.heap.size := fun e => by have := h.lowM _ e; omega
  have hlow := h.lowM
  have hXM := h.inM
  have b2A : (w.alloc (.cells #[.string ⟨word.toArray⟩, .string ⟨ref.toArray⟩, .int .i64 mark, .string ⟨an.toArray⟩, .string ⟨ama.toArray⟩, .int .i64 at', .string ⟨data.toArray⟩, .int .i64 fm, .string ⟨fr.toArray⟩, .slice am ms.length cm, .slice ac cs.length cc] 158)).cell? ⟨w.heap.size, 2, none⟩ = some (.int .i64 mark) := Cb.cell hbx 2
  have hPW := fun (w' : World) (h' : Wrk M w' B n S W) (hr' : Reads w' (.slice am ms.length cm) ms.length (whsC ms)) => parentsW_any h' ⟨word, ref, mark, ⟨an, ama, at'⟩, data, ⟨fm, fr⟩, ms, cs⟩ hc am ac cm cs.length cc hr'
  unfold coC at *
  simp only at *
  cases hset : Pd.isSet W mark with
  | true =>
    rw [hset] at his
    go_enter Tryz.func168, Tryz.ntmps168
    go_wp2_with fail
    refine his.mono ?_
    rintro _ w2 ⟨rfl, hk2⟩
    have hk3 : Kx B.X w w2 := (hA.trans hk2).mono (fun _ _ h => h.elim)
    clear his hA hbx h1 b2A hk2
    go_wp2
    go_ret
    rw [← HRR.out, hset]
    exact ⟨rfl, fun e => (by cases e), hk3⟩
  | false =>
    rw [hset] at his
    go_enter Tryz.func168, Tryz.ntmps168
    go_wp2_with fail
    refine his.mono ?_
    rintro _ w2 ⟨rfl, hk2⟩
    have h2 := h1.kept hk2
    have hbx2 := hbx.kept hk2 id
    have hk02 := hA.trans hk2
    have hrm2 := hrm.kept hk02 (fun _ _ => id)
    have hrc2 := hrc.kept hk02 (fun _ _ => id)
    have hpw := hPW w2 h2 hrm2
    have hs02 := hk02.size
    clear his hA hbx h1 b2A hk2 hPW hrm hrc
    generalize hb1 : w.heap.size = b1 at *
    have HB : Hid (w.heap.size = b1) := hb1
    clear hb1
    have e0 : w2.cell? ⟨b1, 0, none⟩ = some (.string ⟨word.toArray⟩) := Cb.cell hbx2 0
    have e1 : w2.cell? ⟨b1, 1, none⟩ = some (.string ⟨ref.toArray⟩) := Cb.cell hbx2 1
    have e2 : w2.cell? ⟨b1, 2, none⟩ = some (.int .i64 mark) := Cb.cell hbx2 2
    have e3 : w2.cell? ⟨b1, 3, none⟩ = some (.string ⟨an.toArray⟩) := Cb.cell hbx2 3
    have e4 : w2.cell? ⟨b1, 4, none⟩ = some (.string ⟨ama.toArray⟩) := Cb.cell hbx2 4
    have e5 : w2.cell? ⟨b1, 5, none⟩ = some (.int .i64 at') := Cb.cell hbx2 5
    have e6 : w2.cell? ⟨b1, 6, none⟩ = some (.string ⟨data.toArray⟩) := Cb.cell hbx2 6
    have e7 : w2.cell? ⟨b1, 7, none⟩ = some (.int .i64 fm) := Cb.cell hbx2 7
    have e8 : w2.cell? ⟨b1, 8, none⟩ = some (.string ⟨fr.toArray⟩) := Cb.cell hbx2 8
    have e9 : w2.cell? ⟨b1, 9, none⟩ = some (.slice am ms.length cm) := Cb.cell hbx2 9
    have e10 : w2.cell? ⟨b1, 10, none⟩ = some (.slice ac cs.length cc) := Cb.cell hbx2 10
    go_wp2_with fail
    refine hpw.mono ?_
    rintro e w3 ⟨hR3, hk3⟩
    have h3 := h2.kept hk3
    have hbx3 := hbx2.kept hk3 id
    have hk03 := hk02.trans hk3
    have hrc3 := hrc2.kept hk3 (fun _ _ => id)
    have hs03 := hk03.size
    clear e0 e1 e2 e3 e4 e5 e6 e7 e8 e9 e10 hpw h2 hbx2 hrm2 hrc2
    cases hpar : Pd.parents W ⟨word, ref, mark, ⟨an, ama, at'⟩, data, ⟨fm, fr⟩, ms, cs⟩ with
    | none =>
      rw [hpar] at hR3
      obtain rfl := hR3
      go_wp2
      go_ret
      rw [← HRR.out, hset, hpar]
      exact ⟨rfl, fun e => (by cases e), hk03.mono (fun _ _ h => h.elim)⟩
    | some pr =>
      obtain ⟨pcs, l⟩ := pr
      rw [hpar] at hR3
      obtain ⟨ps, ap, cp, al, cl, rfl, hrd, hcml, hpl, hlst, hpb⟩ := hR3
      have hcml3 := hcml.kept hk3 (fun _ _ h => h.elim)
      have hlst3 := hlst.kept hk3 (fun _ _ h => h.elim)
      have hcall := changedW_any h3 cs (by omega) hchs ac cc hrc3 (fun k e e2 => hcb k e (by rw [e2]; exact .inl rfl)) l al cl hlst3
      have HR2 : Hid (RR = if (Pd.changes Sh.K W l cs).1 = 0 then (0, Pd.commitOf Sh.K (Pd.changes Sh.K W l cs).2.1 pcs (Pd.changes Sh.K W l cs).2.2 ⟨word, ref, mark, ⟨an, ama, at'⟩, data, ⟨fm, fr⟩, ms, cs⟩) else ((Pd.changes Sh.K W l cs).1, W)) := by
        show RR = _
        rw [← HRR.out, hset, hpar]
        rfl
      have HPL : Hid (ps.length = pcs.length) := hcml.len
      clear HRR hcml hlst hpar hk3
      generalize Pd.changes Sh.K W l cs = CR at *
      obtain ⟨E, W1, l4⟩ := CR
      simp only at *
      have b10 : w3.cell? ⟨b1, 10, none⟩ = some (.slice ac cs.length cc) := Cb.cell hbx3 10
      go_wp2_with fail
      refine hcall.mono ?_
      rintro _ w4 ⟨⟨v4, rfl, hv4⟩, h4, hk4⟩
      simp only at hv4
      have hk04 : Kx B.X w w4 := (hk03.mono (fun _ _ h => h.elim)).trans (hk4.mono (fun _ _ e => .inl e))
      have hXk4 : ∀ k, k < w3.heap.size → Only B.mo k → M k := fun k _ e => hXM k (.inl e)
      have hbx4 := hbx3.kept hk4 (fun e => hxb (.inl e))
      have hcml4 := hcml3.kept hk4 hXk4
      have hrd4 := hrd.kept hk4 (fun k e e2 => by
        have h5 := hpb k e
        have h6 := hlow B.mo (hXM B.mo (.inl rfl))
        unfold Only at e2
        omega)
      have hs04 := hk04.size
      clear b10 hcall hcml3 hrd hk4 hbx3 h3
      by_cases hE : E = 0
      · subst hE
        obtain ⟨a4, c4, rfl, hl4⟩ := hv4 rfl
        have HR3 : Hid (RR = (0, Pd.commitOf Sh.K W1 pcs l4 ⟨word, ref, mark, ⟨an, ama, at'⟩, data, ⟨fm, fr⟩, ms, cs⟩)) := by
          have := HR2.out
          rw [if_pos rfl] at this
          exact this
        clear HR2 hv4
        have q1 : w4.cell? ⟨B.q, 1, none⟩ = some (.pointer (some ⟨B.mb, 0, none⟩)) := Cb.cell h4.wq 1
        have htree := tree_any Sh.K K72 B.mb 281 (Pf.weight l4 + 1) l4 _ w4 (Nat.lt_succ_self _) h4.gl h4.mkr hl4.fs hl4.ok.fine hl4.ok.len
        go_wp2_with fail
        refine htree.mono ?_
        rintro _ w5 ⟨tp, bs, rfl, hT, hbs, hk5⟩
        have h5 := h4.kept hk5
        have hl5 := hl4.kept hk5 (fun _ _ h => h.elim)
        have hbx5 := hbx4.kept hk5 id
        have hcml5 := hcml4.kept hk5 (fun _ _ h => h.elim)
        have hrd5 := hrd4.kept hk5 (fun _ _ => id)
        have hk05 : Kx B.X w w5 := hk04.trans (hk5.mono (fun _ _ h => h.elim))
        have hbsM : ∀ k ∈ bs, ¬ M k := fun k hk m => by have := hlow k m; have := (hbs k hk).1; have := HB.out; omega
        have hcnt := tree_count hl4.ok
        have HCO : Hid (Pd.commitOf Sh.K W1 pcs l4 ⟨word, ref, mark, ⟨an, ama, at'⟩, data, ⟨fm, fr⟩, ms, cs⟩ = ⟨⟨Pd.add Sh.K 3 (Pd.comText (Pd.sum Sh.K 2 (Pf.tree Sh.K l4).1) pcs ⟨an, ama, at'⟩ data) (Pd.addTr Sh.K (.mk (Pf.tree Sh.K l4).1 (Pf.tree Sh.K l4).2) W1.st.obj), upd W1.st.com (Sh.idK Sh.K 3 (Pd.comText (Pd.sum Sh.K 2 (Pf.tree Sh.K l4).1) pcs ⟨an, ama, at'⟩ data)) (some ⟨Pd.sum Sh.K 3 (Pd.comText (Pd.sum Sh.K 2 (Pf.tree Sh.K l4).1) pcs ⟨an, ama, at'⟩ data), l4⟩), upd W1.st.ref ref (some ⟨Pd.sum Sh.K 3 (Pd.comText (Pd.sum Sh.K 2 (Pf.tree Sh.K l4).1) pcs ⟨an, ama, at'⟩ data), l4⟩), W1.st.tag⟩, upd W1.ms mark (some (.com ⟨Pd.sum Sh.K 3 (Pd.comText (Pd.sum Sh.K 2 (Pf.tree Sh.K l4).1) pcs ⟨an, ama, at'⟩ data), l4⟩))⟩) := rfl
        have hT2 := hT
        unfold IsTr at hT2
        obtain ⟨tv, tps, hq5, _⟩ := hT2
        clear htree h4 hl4 hbx4 hcml4 hrd4 hk5 q1 hk04
        generalize (Pf.tree Sh.K l4).1 = tc at *
        generalize (Pf.tree Sh.K l4).2 = tws at *
        go_wp2_with fail
        refine wp_region_quiet_tail (C := fun w' => Kx (fun _ => False) w5 w') 11 (by kernel_rfl) (by kernel_rfl) (Kx.refl _ _).drew ?_
        refine quiet_val rfl (.pointer (some ⟨B.q, 0, none⟩)) (fun w' hC => by go_simp) ?_
        refine quiet_val rfl (.pointer (some ⟨B.q, 0, none⟩)) (fun w' hC => by go_simp) ?_
        refine quiet_val rfl (.pointer (some ⟨B.q, 1, none⟩)) (fun w' hC => by go_simp) ?_
        refine quiet_val rfl (.pointer (some ⟨B.mb, 0, none⟩)) (fun w' hC => by
          have hc0 : w'.cell? ⟨B.q, 1, none⟩ = some (.pointer (some ⟨B.mb, 0, none⟩)) := Cb.cell (h5.wq.kept hC id) 1
          go_simp) ?_
        refine quiet_val rfl (.slice a4 l4.length c4) (fun w' hC => by go_simp) ?_
        refine quiet_val rfl (.pointer (some ⟨tp, 0, none⟩)) (fun w' hC => by go_simp) ?_
        refine quiet_val rfl (.slice ap ps.length cp) (fun w' hC => by go_simp) ?_
        refine quiet_val rfl (.pointer (some ⟨b1, 3, none⟩)) (fun w' hC => by go_simp) ?_
        refine quiet_val rfl (.agg #[.string ⟨an.toArray⟩, .string ⟨ama.toArray⟩, .int .i64 at']) (fun w' hC => by
          have hc0 : w'.cell? ⟨b1, 3, none⟩ = some (.string ⟨an.toArray⟩) := Cb.cell (hbx5.kept hC id) 3
          have hc1 : w'.cell? ⟨b1, 4, none⟩ = some (.string ⟨ama.toArray⟩) := Cb.cell (hbx5.kept hC id) 4
          have hc2 : w'.cell? ⟨b1, 5, none⟩ = some (.int .i64 at') := Cb.cell (hbx5.kept hC id) 5
          go_simp) ?_
        refine quiet_val rfl (.pointer (some ⟨b1, 6, none⟩)) (fun w' hC => by go_simp) ?_
        refine quiet_val rfl (.string ⟨data.toArray⟩) (fun w' hC => by
          have hc0 : w'.cell? ⟨b1, 6, none⟩ = some (.string ⟨data.toArray⟩) := Cb.cell (hbx5.kept hC id) 6
          go_simp) ?_
        refine wpQuiet_nil (fun w' hC => ?_)
        simp only [Act.put, List.setIfInBounds_toArray, List.set_cons_succ, List.set_cons_zero, List.drop_succ_cons, List.drop_zero]
        have hC5 := hC
        have h5c := h5.kept hC
        have hcom := commitM_any Sh.K K72 B.mb 281 a4 l4.length c4 tp tc tv ps pcs ap cp ⟨an, ama, at'⟩ data M w' h5c.gl h5c.mkr (hq5.kept hC id) (hrd5.kept hC (fun _ _ => id)) (hcml5.kept hC (fun _ _ h => h.elim)) (by omega) hna hma ht0 ht1 hda
        obtain ⟨txt, htxt⟩ : ∃ txt, Pd.comText (Pd.sum Sh.K 2 tc) pcs ⟨an, ama, at'⟩ data = txt := ⟨_, rfl⟩
        rw [htxt] at hcom
        have HTX : Hid (Pd.comText (Pd.sum Sh.K 2 tc) pcs ⟨an, ama, at'⟩ data = txt) := htxt
        clear htxt
        unfold comC Au.cells at hcom
        simp only at hcom
        go_wp2_with fail
        refine hcom.mono ?_
        rintro _ w6 ⟨cb, rfl, hcbl, hcbc, hk6⟩
        have hk56 := hC5.trans hk6
        have h6 := h5.kept hk56
        have hl6 := hl5.kept hk56 (fun _ _ h => h.elim)
        have hbx6 := hbx5.kept hk56 id
        have hT6 := hT.kept hk56 (fun _ _ => id)
        have hk06 : Kx B.X w w6 := hk05.trans (hk56.mono (fun _ _ h => h.elim))
        have hcM : ¬ M cb := fun m => by have := hlow cb m; have := hk05.size; have := hC5.size; have := HB.out; omega
        have hcmt6 : Cmt M w6 cb ⟨Pd.sum Sh.K 3 txt, l4⟩ := ⟨⟨txt, _, _, hcbc, hl6.fs, hl6.still⟩, hcM, ofK_len _ _, hl6.ok⟩
        have q0 : w6.cell? ⟨B.q, 0, none⟩ = some (.pointer (some ⟨B.d, 0, none⟩)) := Cb.cell h6.wq 0
        have hadd := addTreeW_any h6 (.mk tc tws) tp bs hT6 hbsM (by omega)
        clear hcom h5 h5c hl5 hbx5 hcml5 hrd5 hk05 hT hC hC5 hk6 hk56 hq5 hT6
        go_wp2_with fail
        refine hadd.mono ?_
        rintro _ w7 ⟨rfl, h7, hk7⟩
        have hk07 : Kx B.X w w7 := hk06.trans (hk7.mono (fun _ _ e => .inl e))
        have hXk7 : ∀ k, k < w6.heap.size → Only B.mo k → M k := fun k _ e => hXM k (.inl e)
        have hcmt7 := hcmt6.kept hk7 hXk7
        have hcbc7 := hcbc.kept hk7 (fun e => hcM (hXM _ (.inl e)))
        have hbx7 := hbx6.kept hk7 (fun e => hxb (.inl e))
        have q0' : w7.cell? ⟨B.q, 0, none⟩ = some (.pointer (some ⟨B.d, 0, none⟩)) := Cb.cell h7.wq 0
        have haddc := addCommitW_any h7 (by omega) cb txt l4 _ hcbc7 hcmt7
        clear hadd h6 hl6 hbx6 hk06 hcmt6 hcbc q0 hk7 hXk7
        go_wp2_with fail
        refine haddc.mono ?_
        rintro _ w8 ⟨rfl, h8, hk8⟩
        have hX8 : ∀ k, (k = B.mo ∨ k = B.mc) → B.X k := fun k e => by
          rcases e with e | e
          · exact .inl e
          · exact .inr (.inl e)
        have hk08 : Kx B.X w w8 := hk07.trans (hk8.mono (fun k _ e => hX8 k e))
        have hcmt8 := hcmt7.kept hk8 (fun k _ e => hXM k (hX8 k e))
        have hbx8 := hbx7.kept hk8 (fun e => hxb (hX8 _ e))
        clear haddc h7 hbx7 hk07 hcmt7 hcbc7 q0' hk8
        go_wp2_with fail
        refine wp_region_quiet_tail (C := fun w' => Kx (fun _ => False) w8 w') 7 (by kernel_rfl) (by kernel_rfl) (Kx.refl _ _).drew ?_
        refine quiet_val rfl (.pointer (some ⟨B.q, 0, none⟩)) (fun w' hC => by go_simp) ?_
        refine quiet_val rfl (.pointer (some ⟨B.q, 0, none⟩)) (fun w' hC => by go_simp) ?_
        refine quiet_val rfl (.pointer (some ⟨B.q, 0, none⟩)) (fun w' hC => by go_simp) ?_
        refine quiet_val rfl (.pointer (some ⟨B.d, 0, none⟩)) (fun w' hC => by
          have hc0 : w'.cell? ⟨B.q, 0, none⟩ = some (.pointer (some ⟨B.d, 0, none⟩)) := Cb.cell (h8.wq.kept hC id) 0
          go_simp) ?_
        refine quiet_val rfl (.pointer (some ⟨b1, 1, none⟩)) (fun w' hC => by go_simp) ?_
        refine quiet_val rfl (.string ⟨ref.toArray⟩) (fun w' hC => by
          have hc0 : w'.cell? ⟨b1, 1, none⟩ = some (.string ⟨ref.toArray⟩) := Cb.cell (hbx8.kept hC id) 1
          go_simp) ?_
        refine quiet_val rfl (.pointer (some ⟨cb, 0, none⟩)) (fun w' hC => by go_simp) ?_
        refine wpQuiet_nil (fun w' hC => ?_)
        simp only [Act.put, List.setIfInBounds_toArray, List.set_cons_succ, List.set_cons_zero, List.drop_succ_cons, List.drop_zero]
        have hset9 := setRefW_any (h8.kept hC) (by omega) ref href (some ⟨Pd.sum Sh.K 3 txt, l4⟩) (some ⟨cb, 0, none⟩) ⟨cb, rfl, hcmt8.kept hC (fun _ _ h => h.elim)⟩
        go_wp2_with fail
        refine hset9.mono ?_
        rintro _ w9 ⟨rfl, h9, hk9⟩
        have hk89 : Kx B.X w8 w9 := (hC.mono (fun _ _ h => h.elim)).trans (hk9.mono (fun _ _ e => .inr (.inr (.inl e))))
        have hk09 := hk08.trans hk89
        have hcmt9 := hcmt8.kept hk89 (fun k _ e => hXM k e)
        have hbx9 := hbx8.kept hk89 hxb
        clear hset9 h8 hbx8 hk08 hcmt8 hC hk9 hk89
        go_wp2_with fail
        refine wp_region_quiet_tail (C := fun w' => Kx (fun _ => False) w9 w') 8 (by kernel_rfl) (by kernel_rfl) (Kx.refl _ _).drew ?_
        refine quiet_val rfl (.pointer (some ⟨B.q, 0, none⟩)) (fun w' hC => by go_simp) ?_
        refine quiet_val rfl (.pointer (some ⟨B.q, 0, none⟩)) (fun w' hC => by go_simp) ?_
        refine quiet_val rfl (.pointer (some ⟨B.q, 2, none⟩)) (fun w' hC => by go_simp) ?_
        refine quiet_val rfl (.map (some B.kb)) (fun w' hC => by
          have hc0 : w'.cell? ⟨B.q, 2, none⟩ = some (.map (some B.kb)) := Cb.cell (h9.wq.kept hC id) 2
          go_simp) ?_
        refine quiet_val rfl (.pointer (some ⟨b1, 2, none⟩)) (fun w' hC => by go_simp) ?_
        refine quiet_val rfl (.int .i64 mark) (fun w' hC => by
          have hc0 : w'.cell? ⟨b1, 2, none⟩ = some (.int .i64 mark) := Cb.cell (hbx9.kept hC id) 2
          go_simp) ?_
        refine quiet_val rfl (.pointer (some ⟨cb, 0, none⟩)) (fun w' hC => by go_simp) ?_
        refine quiet_val rfl (.agg #[.pointer (some ⟨cb, 0, none⟩), .string ⟨#[]⟩]) (fun w' hC => by go_simp) ?_
        refine wpQuiet_nil (fun w' hC => ?_)
        simp only [Act.put, List.setIfInBounds_toArray, List.set_cons_succ, List.set_cons_zero, List.drop_succ_cons, List.drop_zero]
        have h9c := h9.kept hC
        have hk9c : Kx B.X w w' := hk09.trans (hC.mono (fun _ _ h => h.elim))
        have hcmt9c := hcmt9.kept hC (fun _ _ h => h.elim)
        obtain ⟨f, hf, hM⟩ := h9c.marks
        refine wpList_putI rfl _ _ _ 168 rfl 314 (by kernel_rfl) (by kernel_rfl) B.kb _ f rfl hf (by omega) mark rfl (by omega) (by omega) (.agg #[.pointer (some ⟨cb, 0, none⟩), .string ⟨#[]⟩]) rfl ?_
        intro wA hfA hkA
        have hXA : ∀ k, k < w'.heap.size → Only B.kb k → M k := fun k _ e => hXM k (.inr (.inr (.inr (.inr e))))
        have hwA := mark_wrk h9c hkA hfA ((hM.kept hkA hXA).updC mark (hcmt9c.kept hkA hXA))
        have hk0A : Kx B.X w wA := hk9c.trans (hkA.mono (fun _ _ e => .inr (.inr (.inr (.inr e)))))
        have hwF := hwA.mono (n' := n + 13000) (by omega)
        have HEQ : Hid (RR = (0, ⟨⟨Pd.add Sh.K 3 txt (Pd.addTr Sh.K (.mk tc tws) W1.st.obj), upd W1.st.com (Sh.idK Sh.K 3 txt) (some ⟨Pd.sum Sh.K 3 txt, l4⟩), upd W1.st.ref ref (some ⟨Pd.sum Sh.K 3 txt, l4⟩), W1.st.tag⟩, upd W1.ms mark (some (.com ⟨Pd.sum Sh.K 3 txt, l4⟩))⟩)) := by
          show RR = _
          rw [HR3.out, HCO.out, HTX.out]
        clear h9c hk9c hcmt9c hf hM hfA hkA hXA hwA h9 hbx9 hk09 hcmt9 hC HR3 HCO HTX
        go_wp2
        go_ret
        rw [HEQ.out]
        exact ⟨rfl, fun _ => hwF, hk0A⟩
      · have HR3 : Hid (RR = (E, W)) := by
          have := HR2.out
          rw [if_neg hE] at this
          exact this
        clear HR2 hv4
        go_wp2
        go_ret
        rw [HR3.out]
        exact ⟨rfl, fun e => absurd e hE, hk04⟩

end Go.Proofs.YtepgoppgblfjbaaGreatDoor

/- Package command: newWork. A store, as it lies in memory. -/
namespace Go.Proofs.YtepgoppgblfjbaaGreatDoor
open Go.RowKit

/-- A history in memory: what it has. -/
structure Sto (M : Nat → Prop) (w : World) (h o c r t n : Nat) (S : St) : Prop where
  hi : Hi w h o c r t
  obj : MpS w o n (objF S.obj)
  com : ∃ f, MpS w c n f ∧ ComF M w f S.com
  ref : ∃ f, MpS w r n f ∧ ComF M w f S.ref
  tag : ∃ f, MpS w t n f ∧ TagF M w f S.tag
  inM : ∀ k, Fo o c r t k → M k
  outM : ¬ M h
  sep : o ≠ c ∧ o ≠ r ∧ o ≠ t ∧ c ≠ r ∧ c ≠ t ∧ r ≠ t
  lowM : ∀ k, M k → 7 ≤ k ∧ k < w.heap.size

theorem Sto.kept {M X : Nat → Prop} {w w' : World} {h o c r t n : Nat} {S : St} (hs : Sto M w h o c r t n S) (hk : Kx X w w') (hX : ∀ k, k < w.heap.size → X k → M k) (hF : ∀ k, Fo o c r t k → ¬ X k) : Sto M w' h o c r t n S := by
  obtain ⟨f1, a1, b1⟩ := hs.com
  obtain ⟨f2, a2, b2⟩ := hs.ref
  obtain ⟨f3, a3, b3⟩ := hs.tag
  exact ⟨hs.hi.kept hk (fun e => hs.outM (hX h hs.hi.lt e)), hs.obj.kept hk (hF o (.inl rfl)), ⟨f1, a1.kept hk (hF c (.inr (.inl rfl))), b1.kept hk hX⟩, ⟨f2, a2.kept hk (hF r (.inr (.inr (.inl rfl)))), b2.kept hk hX⟩,
    ⟨f3, a3.kept hk (hF t (.inr (.inr (.inr rfl)))), b3.kept hk hX⟩, hs.inM, hs.outM, hs.sep, fun k e => ⟨(hs.lowM k e).1, Nat.lt_of_lt_of_le (hs.lowM k e).2 hk.size⟩⟩

theorem Sto.mono {M M' : Nat → Prop} {w : World} {h o c r t n : Nat} {S : St} (hs : Sto M w h o c r t n S) (h1 : ∀ k, k < w.heap.size → M' k → M k) (h2 : ∀ k, Fo o c r t k → M' k) (h3 : ∀ k, M' k → 7 ≤ k ∧ k < w.heap.size) : Sto M' w h o c r t n S := by
  obtain ⟨f1, a1, b1⟩ := hs.com
  obtain ⟨f2, a2, b2⟩ := hs.ref
  obtain ⟨f3, a3, b3⟩ := hs.tag
  exact ⟨hs.hi, hs.obj, ⟨f1, a1, b1.mono h1⟩, ⟨f2, a2, b2.mono h1⟩, ⟨f3, a3, b3.mono h1⟩, h2, fun e => hs.outM (h1 h hs.hi.lt e), hs.sep, h3⟩

theorem orE_none {α β : Type} (s : α → Option β) : orE (fun _ => none) s = s := rfl
theorem refO_none (s : List UInt8 → Option Com) : refO (fun _ => none) s = s := rfl
theorem objF_none : objF (fun _ => none) = none4 := rfl

/-- The history's blocks are the draft's past. -/
def Bl.Past (B : Bl) (h o c r t : Nat) : Prop := B.p = h ∧ B.po = o ∧ B.pc = c ∧ B.pr = r ∧ B.pt = t

theorem wrk_new {M : Nat → Prop} {w w1 w2 w4 : World} {h o c r t n d m mo mc mr mt mb kb q : Nat} {S : St} (hs : Sto M w h o c r t n S) (hgl : Gl w) (hdr : Dr w1 d h m) (hmd : m < d) (hN : HiNew w w1 m mo mc mr mt) (hmb : w1.heap.size ≤ mb) (hcm : Cb mb (A32 Sh.K) 281 w2) (hk2 : Kx (fun _ => False) w1 w2)
    (hkb : kb = w2.heap.size) (hq : q = kb + 1) (hm4 : MapI Tryz.prog 3 w4 kb 0 (fun _ => none)) (hc4 : Cb q #[ptrV d, ptrV mb, .map (some kb)] 170 w4) (hk4 : Kx (fun _ => False) w2 w4) :
    Wrk (fun k => M k ∨ (Bl.mk q d h m mb kb o c r t mo mc mr mt).X k) w4 ⟨q, d, h, m, mb, kb, o, c, r, t, mo, mc, mr, mt⟩ 0 S ⟨S, fun _ => none⟩ ∧ Kx (fun _ => False) w w4 ∧ ∀ k, (Bl.mk q d h m mb kb o c r t mo mc mr mt).X k → w.heap.size ≤ k := by
  obtain ⟨n1, n2, n3, n4, n5⟩ := hN.new
  have hdl := hdr.lt
  have hml := hcm.lt
  have hs1 := hN.kx.size
  have hs2 := hk2.size
  have hhl := hs.hi.lt
  have h7 := hs.lowM o (hs.inM o (.inl rfl))
  have hgs := hgl.size
  have hk24 := hk2.trans hk4
  have hk04 := hN.kx.trans hk24
  have hXlo : ∀ k, (Bl.mk q d h m mb kb o c r t mo mc mr mt).X k → w.heap.size ≤ k := by
    intro k e
    simp only [Bl.X] at e
    omega
  have hXhi : ∀ k, (Bl.mk q d h m mb kb o c r t mo mc mr mt).X k → k ≤ kb := by
    intro k e
    simp only [Bl.X] at e
    omega
  have hM' : ∀ k, k < w.heap.size → (M k ∨ (Bl.mk q d h m mb kb o c r t mo mc mr mt).X k) → M k := fun k hk e => e.elim id (fun x => absurd (hXlo k x) (by omega))
  obtain ⟨f2, a2, b2⟩ := hs.ref
  have hrl := a2.lt
  have hkl : kb < w4.heap.size := hm4.lt
  refine ⟨⟨hgl.kept hk04 (fun _ _ => id), hc4, hdr.kept hk24 id, hcm.kept hk4 id, hs.hi.kept hk04 id, hN.hi.kept hk24 id, ⟨n, f2, a2.kept hk04 id, (b2.mono hM').kept hk04 (fun _ _ h => h.elim)⟩, ⟨fun _ => none, hN.fo.kept hk24 id, rfl⟩,
    ⟨fun _ => none, none4, hN.fc.kept hk24 id, fun k => ⟨fun _ => rfl, fun c e => by cases e⟩, rfl⟩, ⟨fun _ => none, none4, hN.fr.kept hk24 id, fun k => ⟨fun _ => rfl, fun e => (by cases e), fun c e => by cases e⟩, rfl⟩,
    ⟨fun _ => none, none4, hN.ft.kept hk24 id, fun k => ⟨fun _ => rfl, fun c e => by cases e⟩, rfl⟩, ⟨_, hm4, fun k => ⟨fun _ => rfl, fun s e => (by cases e), fun c e => by cases e⟩⟩, ?_, fun k e => .inr e, ?_⟩, hk04, hXlo⟩
  · constructor <;> simp only [Bl.X] <;> omega
  · intro k e
    rcases e with e | e
    · have := (hs.lowM k e).2
      have := hk04.size
      omega
    · have := hXhi k e
      omega

set_option maxHeartbeats 800000 in
set_option maxRecDepth 100000 in
theorem newWork_any {M : Nat → Prop} {w : World} {h o c r t n : Nat} {S : St} (hs : Sto M w h o c r t n S) (hgl : Gl w) :
    Calls Tryz.prog 80 #[.pointer (some ⟨h, 0, none⟩)] w fun e w' => ∃ B : Bl, e = .returned (.pointer (some ⟨B.q, 0, none⟩)) ∧ B.Past h o c r t ∧ Wrk (fun k => M k ∨ B.X k) w' B 0 S ⟨S, fun _ => none⟩ ∧ Kx (fun _ => False) w w' ∧ ∀ k, B.X k → w.heap.size ≤ k := by
  have hmk : ∀ t w, Sem.run Tryz.prog (Instr.makeMap t none) w = .ok (.map (some w.heap.size)) (w.alloc (.map #[] 0)) := fun _ _ => rfl
  go_enter Tryz.func80, Tryz.ntmps80
  go_wp2_with fail
  refine (draft_any h w).mono ?_
  rintro _ w1 ⟨d, m, mo, mc, mr, mt, rfl, hdr, hmd, hN⟩
  have HS : Hid (Sto M w h o c r t n S) := hs
  clear hs
  go_wp2_with fail
  refine (newMaker_any w1).mono ?_
  rintro _ w2 ⟨mb, rfl, hmb, hcm, hk2⟩
  have k1 := (Kx.refl (fun _ => False) w2).alloc (.map #[] 0)
  have k2 := (Kx.refl (fun _ => False) (w2.alloc (.map #[] 0))).alloc (.cells #[.pointer (some ⟨d, 0, none⟩), .pointer (some ⟨mb, 0, none⟩), .map (some w2.heap.size)] 170)
  have hm4 := (MapI.made (P := Tryz.prog) (K := 3) w2).kept k2 id
  have hc4 := Cb.new #[.pointer (some ⟨d, 0, none⟩), .pointer (some ⟨mb, 0, none⟩), .map (some w2.heap.size)] 170 (w2.alloc (.map #[] 0))
  have hF := wrk_new HS.out hgl hdr hmd hN hmb hcm hk2 rfl rfl hm4 (by rw [World.size_alloc] at hc4; exact hc4) (k1.trans k2)
  clear k1 k2 hm4 hc4 hcm hk2
  go_wp2
  go_ret
  exact ⟨_, rfl, ⟨rfl, rfl, rfl, rfl, rfl⟩, hF⟩

end Go.Proofs.YtepgoppgblfjbaaGreatDoor

/- Package command: Do. -/
namespace Go.Proofs.YtepgoppgblfjbaaGreatDoor
open Go.RowKit

theorem map_ne {w : World} {b n k : Nat} {f : List UInt8 → Option Value} {cs : Array Value} {t : TypeId} (h : MpS w b n f) (hc : Cb k cs t w) : k ≠ b := by
  intro e
  subst e
  obtain ⟨D, ⟨es, clock, hb, _⟩, _⟩ := h
  unfold Cb at hc
  rw [hc] at hb
  cases hb

theorem objF_or (g s : Objs) : orE (objF g) (objF s) = objF (orE g s) := by
  funext k
  unfold orE objF
  dsimp only
  cases g k <;> rfl

theorem ComF.or {M : Nat → Prop} {w : World} {f f' : List UInt8 → Option Value} {g s : List UInt8 → Option Com} (h : ComF M w f g) (h' : ComF M w f' s) : ComF M w (orE f f') (orE g s) := by
  intro k
  unfold orE
  cases hg : g k with
  | none =>
    rw [(h k).1 hg]
    exact h' k
  | some c =>
    obtain ⟨b, h1, h2⟩ := (h k).2 c hg
    rw [h1]
    exact ⟨fun e => (by cases e), fun c' e => by cases e; exact ⟨b, rfl, h2⟩⟩

theorem TagF.or {M : Nat → Prop} {w : World} {f f' : List UInt8 → Option Value} {g s : List UInt8 → Option (List UInt8)} (h : TagF M w f g) (h' : TagF M w f' s) : TagF M w (orE f f') (orE g s) := by
  intro k
  unfold orE
  cases hg : g k with
  | none =>
    rw [(h k).1 hg]
    exact h' k
  | some c =>
    obtain ⟨b, h1, h2⟩ := (h k).2 c hg
    rw [h1]
    exact ⟨fun e => (by cases e), fun c' e => by cases e; exact ⟨b, rfl, h2⟩⟩

theorem RefF.over {M : Nat → Prop} {w : World} {f f' : List UInt8 → Option Value} {g : List UInt8 → Option (Option Com)} {s : List UInt8 → Option Com} (h : RefF M w f g) (h' : ComF M w f' s) : ComF M w (refE f f') (refO g s) := by
  intro k
  unfold refE refO
  cases hg : g k with
  | none =>
    rw [(h k).1 hg]
    exact h' k
  | some x =>
    cases x with
    | none =>
      rw [(h k).2.1 hg]
      exact ⟨fun _ => rfl, fun c e => by cases e⟩
    | some c =>
      obtain ⟨b, h1, h2⟩ := (h k).2.2 c hg
      rw [h1]
      exact ⟨fun e => (by cases e), fun c' e => by cases e; exact ⟨b, rfl, h2⟩⟩

theorem RefF.ptr {M : Nat → Prop} {w : World} {f : List UInt8 → Option Value} {g : List UInt8 → Option (Option Com)} (h : RefF M w f g) : ∀ k v, f k = some v → v = .pointer none ∨ ∃ a, v = .pointer (some a) := by
  intro k v hv
  cases hg : g k with
  | none => rw [(h k).1 hg] at hv; cases hv
  | some x =>
    cases x with
    | none =>
      rw [(h k).2.1 hg] at hv
      cases hv
      exact .inl rfl
    | some c =>
      obtain ⟨b, h1, _⟩ := (h k).2.2 c hg
      rw [h1] at hv
      cases hv
      exact .inr ⟨_, rfl⟩

theorem RefF.mono' {M M' : Nat → Prop} {w : World} {f : List UInt8 → Option Value} {g : List UInt8 → Option (Option Com)} (h : RefF M w f g) (hM : ∀ k, k < w.heap.size → M' k → M k) : RefF M' w f g :=
  fun k => ⟨(h k).1, (h k).2.1, fun c e => let ⟨b, h1, h2⟩ := (h k).2.2 c e; ⟨b, h1, h2.mono hM⟩⟩

/-- Keep, of a work's draft. -/
theorem keepW_any {M M' : Nat → Prop} {w : World} {B : Bl} {h o c r t n n' : Nat} {S : St} {W : Wk} (hw : Wrk M' w B n' S W) (hp : B.Past h o c r t) (hs : Sto M w h o c r t n S) (hM : ∀ k, M k → M' k) (hX : ∀ k, B.X k → ¬ M k) (hn : n + n' ≤ maxLen) :
    Calls Tryz.prog 82 #[.pointer (some ⟨B.d, 0, none⟩)] w fun e w' => e = .returned (.tuple #[]) ∧ Sto M w' h o c r t (n + n') W.st ∧ Kx (Fo o c r t) w w' := by
  obtain ⟨q, d, p, m, mb, kb, po, pc, pr, pt, mo, mc, mr, mt⟩ := B
  obtain ⟨rfl, rfl, rfl, rfl, rfl⟩ := hp
  simp only at *
  obtain ⟨g1, k1, e1⟩ := hw.objs
  obtain ⟨g2, f2, k2, c2, e2⟩ := hw.coms
  obtain ⟨g3, f3, k3, c3, e3⟩ := hw.refs
  obtain ⟨g4, f4, k4, c4, e4⟩ := hw.tags
  obtain ⟨s2, a2, b2⟩ := hs.com
  obtain ⟨s3, a3, b3⟩ := hs.ref
  obtain ⟨s4, a4, b4⟩ := hs.tag
  have hx := hw.sep
  have nF : ∀ k, ¬ M k → ¬ Fo po pc pr pt k := fun k hk e => hk (hs.inM k e)
  have cF : ∀ {k : Nat} {cs : Array Value} {ty : TypeId}, Cb k cs ty w → ¬ Fo po pc pr pt k := fun hc e => by
    rcases e with e | e | e | e
    · exact map_ne hs.obj hc e
    · exact map_ne a2 hc e
    · exact map_ne a3 hc e
    · exact map_ne a4 hc e
  have ha : Apart d p m po pc pr pt mo mc mr mt := ⟨cF hw.dr, nF _ hs.outM, cF hw.hm, nF _ (hX _ (.inl rfl)), nF _ (hX _ (.inr (.inl rfl))), nF _ (hX _ (.inr (.inr (.inl rfl)))), nF _ (hX _ (.inr (.inr (.inr (.inl rfl))))), hs.sep⟩
  refine (keep_any d p m po pc pr pt mo mc mr mt n n' (objF S.obj) s2 s3 s4 f2 f3 f4 g1 w hw.dr hs.hi hw.hm hs.obj k1 a2 k2 a3 k3 a4 k4 c3.ptr hn ha).mono ?_
  rintro _ w' ⟨rfl, r1, r2, r3, r4, hk⟩
  have hFM : ∀ k, k < w.heap.size → Fo po pc pr pt k → M k := fun k _ e => hs.inM k e
  have hMM : ∀ k, k < w.heap.size → M k → M' k := fun k _ e => hM k e
  refine ⟨rfl, ⟨hs.hi.kept hk (nF _ hs.outM), by rw [e1, ← objF_or]; exact r1, ⟨_, r2, by rw [e2]; exact ((c2.mono hMM).or b2).kept hk hFM⟩, ⟨_, r3, by rw [e3]; exact RefF.over ((RefF.mono' c3 hMM).kept hk hFM) (b3.kept hk hFM)⟩, ⟨_, r4, by rw [e4]; exact ((c4.mono hMM).or b4).kept hk hFM⟩, hs.inM, hs.outM, hs.sep, fun k e => ⟨(hs.lowM k e).1, Nat.lt_of_lt_of_le (hs.lowM k e).2 hk.size⟩⟩, hk⟩

end Go.Proofs.YtepgoppgblfjbaaGreatDoor
