import Derived.Test.YtepgoppgblfjbaaGreatDoorGw16
namespace Go.Proofs.YtepgoppgblfjbaaGreatDoor
open Go.RowKit

theorem tag_wrk {M : Nat → Prop} {w w' : World} {B : Bl} {n : Nat} {S : St} {W : Wk} (h : Wrk M w B n S W) {x name : List UInt8} {g : Objs} {gt : List UInt8 → Option (List UInt8)} {f' : List UInt8 → Option Value} (hg : W.st.obj = orE g S.obj) (hgt : W.st.tag = orE gt S.tag)
    (hk : Kx (fun k => k = B.mo ∨ k = B.mt) w w') (hm : MpS w' B.mo (n + 1) (objF (Pd.add Sh.K 4 x g))) (ht : MpS w' B.mt (n + 1) f') (hf : TagF M w' f' (upd gt name (some (Pd.sum Sh.K 4 x)))) :
    Wrk M w' B (n + 1) S ⟨⟨Pd.add Sh.K 4 x W.st.obj, W.st.com, W.st.ref, upd W.st.tag name (some (Pd.sum Sh.K 4 x))⟩, W.ms⟩ := by
  have hX : ∀ k, k < w.heap.size → (k = B.mo ∨ k = B.mt) → M k := fun k _ e => by
    rcases e with e | e
    · exact h.inM k (.inl e)
    · exact h.inM k (.inr (.inr (.inr (.inl e))))
  refine h.turn (hk.mono (fun k _ e => ?_)) ⟨_, hm, ?_⟩ (h.kcoms hk hX (fun e => ?_) (Nat.le_succ n)) (h.krefs hk hX (fun e => ?_) (Nat.le_succ n)) ⟨_, f', ht, hf, ?_⟩ (h.kmarks hk hX (fun e => ?_) (Nat.le_succ n))
  · rcases e with e | e
    · exact .inl e
    · exact .inr (.inr (.inr (.inl e)))
  · show Pd.add Sh.K 4 x W.st.obj = _
    unfold Pd.add
    rw [orE_upd, hg]
  · rcases e with e | e
    · exact h.sep.oc e.symm
    · exact h.sep.ct e
  · rcases e with e | e
    · exact h.sep.or e.symm
    · exact h.sep.rt e
  · show upd W.st.tag name _ = _
    rw [orE_upd, hgt]
  · rcases e with e | e
    · exact h.sep.ok e.symm
    · exact h.sep.tk e.symm

theorem addTagW_any {M : Nat → Prop} {w : World} {B : Bl} {n : Nat} {S : St} {W : Wk} (h : Wrk M w B n S W) (hn : n < maxLen) (x name : List UInt8) (hna : name.length ≤ 1000) (t cb : Nat) (msg : List UInt8) (hgd : Good M w cb) (hms : msg.length ≤ 1000) (htM : ¬ M t)
    (hb : Cb t #[.int .i64 4, .string ⟨x.toArray⟩, .string ⟨(Sh.idK Sh.K 4 x).toArray⟩, .string ⟨name.toArray⟩, .pointer (some ⟨cb, 0, none⟩), .string ⟨msg.toArray⟩] 187 w) :
    Calls Tryz.prog 240 #[.pointer (some ⟨B.d, 0, none⟩), .pointer (some ⟨t, 0, none⟩)] w fun e w' => e = .returned (.tuple #[]) ∧
      Wrk M w' B (n + 1) S ⟨⟨Pd.add Sh.K 4 x W.st.obj, W.st.com, W.st.ref, upd W.st.tag name (some (Pd.sum Sh.K 4 x))⟩, W.ms⟩ ∧ Kx (fun k => k = B.mo ∨ k = B.mt) w w' := by
  obtain ⟨g, h1, h2⟩ := h.objs
  obtain ⟨gt, f, h3, h4, h5⟩ := h.tags
  have hmx : maxLen = 9223372036854775807 := rfl
  have hX : ∀ k, k < w.heap.size → (k = B.mo ∨ k = B.mt) → M k := fun k _ e => by
    rcases e with e | e
    · exact h.inM k (.inl e)
    · exact h.inM k (.inr (.inr (.inr (.inl e))))
  refine (addTag_any B.d B.p B.m B.mo B.mc B.mr B.mt n n (objF g) f t x (Sh.idK Sh.K 4 x) name [.pointer (some ⟨cb, 0, none⟩), .string ⟨msg.toArray⟩] w h.dr h.hm h1 h3 hn hn (by rw [idK_len]; decide) (by omega) hb h.sep.ot (fun e => h.sep.d (.inl e)) (fun e => h.sep.m (.inl e)) (fun e => htM (by rw [e]; exact h.inM _ (.inl rfl)))).mono ?_
  rintro _ w' ⟨rfl, hm, ht, hk⟩
  have htg : Tg M w' t (Pd.sum Sh.K 4 x) := ⟨x, name, cb, msg, hb.kept hk (fun e => htM (hX t hb.lt e)), htM, ofK_len _ _, hgd.kept hk hX, hna, hms⟩
  refine ⟨rfl, tag_wrk h h2 h5 hk (by unfold Pd.add; rw [objF_upd]; exact hm) ht ?_, hk⟩
  exact (h4.kept hk hX).upd htg

set_option maxHeartbeats 1600000 in
set_option maxRecDepth 100000 in
theorem doTag_any {M : Nat → Prop} {w : World} {B : Bl} {n : Nat} {S : St} {W : Wk} (h : Wrk M w B n S W) (hn : n < maxLen) (c : Pu.Co) (hc : CoOk c) (am ac : Option Addr) (nm cm nc cc : Nat) :
    Calls Tryz.prog 171 #[.pointer (some ⟨B.q, 0, none⟩), .agg (coC c (.slice am nm cm) (.slice ac nc cc))] w fun e w' => DoR M w w' B (n + 1) S (Pd.tag Sh.K W c) e := by
  obtain ⟨word, ref, mark, ⟨an, ama, at'⟩, data, ⟨fm, fr⟩, ms, cs⟩ := c
  have hwh : WhOk ⟨fm, fr⟩ := hc.frm
  have href : ref.length ≤ 1000 := hc.ref
  have hda : data.length ≤ 1000 := hc.data
  clear hc
  unfold coC
  simp only
  obtain ⟨RR, hRR⟩ : ∃ RR, Pd.tag Sh.K W ⟨word, ref, mark, ⟨an, ama, at'⟩, data, ⟨fm, fr⟩, ms, cs⟩ = RR := ⟨_, rfl⟩
  rw [hRR]
  have HRR : Hid ((match Pd.comOf W ⟨fm, fr⟩ with | none => ((4 : Int), W) | some x => (0, ⟨⟨Pd.add Sh.K 4 (Pd.tagText x ref data) W.st.obj, W.st.com, W.st.ref, upd W.st.tag ref (some (Pd.sum Sh.K 4 (Pd.tagText x ref data)))⟩, W.ms⟩)) = RR) := hRR
  clear hRR
  have hA := (Kx.refl (fun _ => False) w).alloc (.cells #[.string ⟨word.toArray⟩, .string ⟨ref.toArray⟩, .int .i64 mark, .string ⟨an.toArray⟩, .string ⟨ama.toArray⟩, .int .i64 at', .string ⟨data.toArray⟩, .int .i64 fm, .string ⟨fr.toArray⟩, .slice am nm cm, .slice ac nc cc] 158)
  have hbx := Cb.new #[.string ⟨word.toArray⟩, .string ⟨ref.toArray⟩, .int .i64 mark, .string ⟨an.toArray⟩, .string ⟨ama.toArray⟩, .int .i64 at', .string ⟨data.toArray⟩, .int .i64 fm, .string ⟨fr.toArray⟩, .slice am nm cm, .slice ac nc cc] 158 w
  have h1 := h.kept hA
  have hcom := commitW_any h1 (Kx.refl _ _) ⟨fm, fr⟩ hwh
  simp only at hcom
  have hxb : ¬ B.X w.heap.size := fun e => by have := h.lowM _ (h.inM _ e); omega
  have hlow := h.lowM
  go_enter Tryz.func171, Tryz.ntmps171
  go_wp2_with fail
  refine hcom.mono ?_
  rintro e w2 ⟨hR, hk2⟩
  have hk3 := hA.trans hk2
  have hw2 := h1.kept hk2
  have hbx2 := hbx.kept hk2 id
  clear hcom hA hbx
  cases hr : Pd.comOf W ⟨fm, fr⟩ with
  | none =>
    rw [hr] at hR
    obtain rfl := hR
    go_wp2
    go_ret
    have hq := HRR.out
    rw [hr] at hq
    rw [← hq]
    exact ⟨rfl, fun e => (by cases e), hk3.mono (fun _ _ h => h.elim)⟩
  | some c =>
    rw [hr] at hR
    obtain ⟨b, rfl, hcm⟩ := hR
    have hcm2 := hcm.kept hk2 (fun _ _ h => h.elim)
    have hsz3 := hk3.size
    clear hk2 hcm h1
    go_wp2_with fail
    generalize w.heap.size = b1 at *
    refine wp_region_mid (C := fun w' => Kx B.X w2 w') 13 (by kernel_rfl) (by kernel_rfl) (Kx.refl _ _).drew ?_
    refine headC_val rfl (.pointer (some ⟨B.q, 0, none⟩)) (fun w' hC => by go_simp) ?_
    refine headC_val rfl (.pointer (some ⟨B.q, 0, none⟩)) (fun w' hC => by go_simp) ?_
    refine headC_val rfl (.pointer (some ⟨B.q, 0, none⟩)) (fun w' hC => by go_simp) ?_
    refine headC_val rfl (.pointer (some ⟨B.d, 0, none⟩)) (fun w' hC => by
      have hc0 : w'.cell? ⟨B.q, 0, none⟩ = some (.pointer (some ⟨B.d, 0, none⟩)) := Cb.cell (hw2.wq.kept hC hw2.sep.q) 0
      go_simp) ?_
    refine headC_val rfl (.pointer (some ⟨B.q, 0, none⟩)) (fun w' hC => by go_simp) ?_
    refine headC_val rfl (.pointer (some ⟨B.q, 0, none⟩)) (fun w' hC => by go_simp) ?_
    refine headC_val rfl (.pointer (some ⟨B.q, 1, none⟩)) (fun w' hC => by go_simp) ?_
    refine headC_val rfl (.pointer (some ⟨B.mb, 0, none⟩)) (fun w' hC => by
      have hc0 : w'.cell? ⟨B.q, 1, none⟩ = some (.pointer (some ⟨B.mb, 0, none⟩)) := Cb.cell (hw2.wq.kept hC hw2.sep.q) 1
      go_simp) ?_
    refine headC_val rfl (.pointer (some ⟨b1, 1, none⟩)) (fun w' hC => by go_simp) ?_
    refine headC_val rfl (.string ⟨ref.toArray⟩) (fun w' hC => by
      have hc0 : w'.cell? ⟨b1, 1, none⟩ = some (.string ⟨ref.toArray⟩) := Cb.cell (hbx2.kept hC hxb) 1
      go_simp) ?_
    refine headC_val rfl (.pointer (some ⟨b, 0, none⟩)) (fun w' hC => by go_simp) ?_
    refine headC_val rfl (.pointer (some ⟨b1, 6, none⟩)) (fun w' hC => by go_simp) ?_
    refine headC_val rfl (.string ⟨data.toArray⟩) (fun w' hC => by
      have hc0 : w'.cell? ⟨b1, 6, none⟩ = some (.string ⟨data.toArray⟩) := Cb.cell (hbx2.kept hC hxb) 6
      go_simp) ?_
    refine headC_nil ?_
    simp only [Act.put, sI, sS, sZ, List.drop_succ_cons, List.drop_zero]
    have hkd := (Kx.refl (fun _ => False) w2).drew
    have h3 := hw2.kept hkd
    refine seqC_enter rfl 241 #[.pointer (some ⟨B.mb, 0, none⟩), .string ⟨ref.toArray⟩, .pointer (some ⟨b, 0, none⟩), .string ⟨data.toArray⟩] (by go_simp) ?_
    refine (tagM_any B.mb ref data b c M w2 _ hkd h3.gl h3.mkr hcm2 href hda).mono ?_
    rintro _ w4 ⟨tt, rfl, htt, hcb, hk4⟩
    have hk5 : Kx B.X w2 w4 := (hkd.trans hk4).mono (fun _ _ h => h.elim)
    refine ⟨_, rfl, hk5, ?_⟩
    have h4 := h3.kept hk4
    have htM : ¬ M tt := fun m => by
      have := hlow tt m
      have : w2.heap.size ≤ tt := htt
      omega
    simp only [Act.put, sI, sS, sZ]
    refine seqC_enter rfl 240 #[.pointer (some ⟨B.d, 0, none⟩), .pointer (some ⟨tt, 0, none⟩)] (by go_simp) ?_
    refine (addTagW_any h4 hn (Pd.tagText c ref data) ref href tt b data ((hcm2.kept (hkd.trans hk4) (fun _ _ h => h.elim)).good) hda htM hcb).mono ?_
    rintro _ w6 ⟨rfl, hw6, hk6⟩
    have hX6 : Kx B.X w2 w6 := hk5.trans (hk6.mono (fun _ _ e => by
      rcases e with e | e
      · exact .inl e
      · exact .inr (.inr (.inr (.inl e)))))
    have hk7 : Kx B.X w w6 := (hk3.mono (fun _ _ h => h.elim)).trans hX6
    refine ⟨_, rfl, hX6, ?_⟩
    unfold SeqC
    simp only [Act.put, sI, sS, sZ]
    have hq := HRR.out
    rw [hr] at hq
    have HQ2 : Hid ((0, ⟨⟨Pd.add Sh.K 4 (Pd.tagText c ref data) W.st.obj, W.st.com, W.st.ref, upd W.st.tag ref (some (Pd.sum Sh.K 4 (Pd.tagText c ref data)))⟩, W.ms⟩) = RR) := hq
    clear hq HRR hcb hk4 hk5 hk6 hX6 h4 h3 hw2 hbx2
    generalize Pd.sum Sh.K 4 (Pd.tagText c ref data) = sm at *
    generalize Pd.tagText c ref data = tx at *
    go_wp2
    go_ret
    rw [← HQ2.out]
    exact ⟨rfl, fun _ => hw6, hk7⟩

def Bdw (b : Nat) (l : List UInt8) (g : Option Nat) (w : World) : Prop :=
  (∃ p, w.heap[b]? = some (.cells #[p, .slice none 0 0] 246 (0, 0)) ∧ l = []) ∨
  ∃ p r cap cur fz, w.heap[b]? = some (.cells #[p, .slice (some ⟨r, 0, none⟩) l.length cap] 246 (0, 0)) ∧ l ≠ [] ∧ g = some r ∧ r ≠ b ∧ w.heap[r]? = some (.cells cur 5 fz) ∧ l.length ≤ cap ∧ cap ≤ maxLen ∧ cur.size = cap ∧ cur.toList.take l.length = A8 l

theorem Bd.weak {b : Nat} {l : List UInt8} {g : Option Nat} {w : World} (h : Bd b l g w) : Bdw b l g w := by
  obtain ⟨⟨p, v, hb, hp, hown, hg, hl⟩, hne⟩ := h
  rcases hown with ⟨rfl, hnil⟩ | ⟨r, cap, cur, fz, rfl, hbg, hgr, hfz, hnc, hcm, hcs, htake⟩
  · refine .inl ⟨p, hb, ?_⟩
    cases l with
    | nil => rfl
    | cons x t => simp [A8] at hnil
  · have hlen : (A8 l).length = l.length := A8_len l
    rw [hlen] at hnc htake hb
    refine .inr ⟨p, r, cap, cur, fz, hb, fun e => ?_, hg.symm, fun e => ?_, hgr, hnc, hcm, hcs, htake⟩
    · have := hl e
      cases this
    · subst e
      exact hne hg.symm

theorem Bdw.kept {b : Nat} {l : List UInt8} {g : Option Nat} {w w' : World} {X : Nat → Prop} (h : Bdw b l g w) (hk : Kx X w w') (hb : ¬ X b) (hg : ∀ k, g = some k → ¬ X k) : Bdw b l g w' := by
  rcases h with ⟨p, h1, h2⟩ | ⟨p, r, cap, cur, fz, h1, h2, h3, h4, h5, h6⟩
  · exact .inl ⟨p, (hk.block b (Array.getElem?_eq_some_iff.1 h1).1 hb).trans h1, h2⟩
  · exact .inr ⟨p, r, cap, cur, fz, (hk.block b (Array.getElem?_eq_some_iff.1 h1).1 hb).trans h1, h2, h3, h4, (hk.block r (Array.getElem?_eq_some_iff.1 h5).1 (hg r h3)).trans h5, h6⟩

theorem freeze_other {w : World} {r k n : Nat} (h : r ≠ k) : (w.freeze ⟨r, 0, none⟩ n).heap[k]? = w.heap[k]? := by
  unfold World.freeze
  split
  · rfl
  · simp [Array.getElem?_modify, h]

theorem freeze_same {w : World} {r n : Nat} {cur : Array Value} {e : TypeId} {fz : Nat × Nat} (h : w.heap[r]? = some (.cells cur e fz)) : ∃ fz', (w.freeze ⟨r, 0, none⟩ n).heap[r]? = some (.cells cur e fz') := by
  unfold World.freeze
  split
  · exact ⟨fz, h⟩
  · obtain ⟨lo, hi⟩ := fz
    refine ⟨if lo == hi then (0, 0 + n) else (min lo 0, max hi (0 + n)), ?_⟩
    simp only [Array.getElem?_modify, h, if_true]
    rfl

set_option maxHeartbeats 800000 in
set_option maxRecDepth 100000 in
theorem stringw_any (b : Nat) (l : List UInt8) (g : Option Nat) (w : World) (h : Bdw b l g w) :
    Calls Tryz.prog 146 #[.pointer (some ⟨b, 0, none⟩)] w fun e w' => e = .returned (.string ⟨l.toArray⟩) ∧ Bdw b l g w' ∧ Kx (BdX b g) w w' := by
  have hdr := h.kept ((Kx.refl (fun _ => False) w).drew) id (fun _ _ => id)
  rcases h with ⟨p, hb, rfl⟩ | ⟨p, r, cap, cur, fz, hb, hl0, hg, hrb, hgr, hnc, hcm, hcs, htake⟩
  · have hcb : Cb b #[p, .slice none 0 0] 246 w.drew := hb
    have c1 : w.drew.cell? ⟨b, 1, none⟩ = some (.slice none 0 0) := hcb.cell 1
    have hSD : (Builtin.unsafeSliceData_ #[58] 277 #[.slice none 0 0]).run Tryz.prog w.drew = .ok (.pointer none) w.drew := Lib.run_unsafeSliceData_nil _ _ _ _ _
    have hUS : (Builtin.unsafeString_ #[277, 3] 9 #[.pointer none, .int .i64 0]).run Tryz.prog w.drew = .ok (.string .empty) w.drew := Lib.run_unsafeString_none _ _ _ _ _
    go_enter Tryz.func146, Tryz.ntmps146
    go_wp2
    go_region
    go_wp2
    go_ret
    exact ⟨rfl, hdr, (Kx.refl _ _).drew⟩
  · have hcb : Cb b #[p, .slice (some ⟨r, 0, none⟩) l.length cap] 246 w.drew := hb
    have c1 : w.drew.cell? ⟨b, 1, none⟩ = some (.slice (some ⟨r, 0, none⟩) l.length cap) := hcb.cell 1
    have hpos : 0 < l.length := List.length_pos_iff.2 hl0
    have hSD : (Builtin.unsafeSliceData_ #[58] 277 #[.slice (some ⟨r, 0, none⟩) l.length cap]).run Tryz.prog w.drew = .ok (.pointer (some ⟨r, 0, none⟩)) w.drew :=
      Lib.run_unsafeSliceData_row _ _ _ _ _ _ (by omega)
    have hUS : (Builtin.unsafeString_ #[277, 3] 9 #[.pointer (some ⟨r, 0, none⟩), .int .i64 l.length]).run Tryz.prog w.drew = .ok (.string ⟨l.toArray⟩) (w.drew.freeze ⟨r, 0, none⟩ l.length) := by
      refine Lib.run_unsafeString_row w.drew 277 3 9 5 Tryz.underlying277 (by kernel_rfl) r cur.size (by have hg' : w.drew.heap[r]? = some (.cells cur 5 fz) := hgr; simp [World.shape?, hg']) l hl0 (by omega) (by unfold maxLen at hcm; omega) ?_
      intro j x hx
      have hj : j < l.length := (List.getElem?_eq_some_iff.1 hx).1
      have hadd : (⟨r, 0, none⟩ : Addr).add j = ⟨r, j, none⟩ := by unfold Addr.add; split <;> simp_all
      have h2 : (A8 l)[j]? = some (.int .u8 (x.toNat : Int)) := by simp [A8, hx]
      rw [← htake, List.getElem?_take_of_lt hj] at h2
      rw [hadd]
      have hg' : w.drew.heap[r]? = some (.cells cur 5 fz) := hgr
      unfold World.cell?
      rw [hg']
      simpa using h2
    have hgX : BdX b g r := .inr hg.symm
    obtain ⟨fz', hz'⟩ := freeze_same (w := w.drew) (n := l.length) (show w.drew.heap[r]? = _ from hgr)
    have hW : Bdw b l g (w.drew.freeze ⟨r, 0, none⟩ l.length) := .inr ⟨p, r, cap, cur, fz', (freeze_other hrb).trans hb, hl0, hg, hrb, hz', hnc, hcm, hcs, htake⟩
    clear hnc hcm hcs htake hz' hdr
    go_enter Tryz.func146, Tryz.ntmps146
    go_wp2
    go_region
    all_goals (go_wp2; go_ret; exact ⟨rfl, hW, (Kx.refl _ _).drew.freeze (p := ⟨r, 0, none⟩) hgX _⟩)

theorem flat_succ {α β : Type} (f : α → List β) (l : List α) (k : Nat) (h : k < l.length) : (l.take (k + 1)).flatMap f = (l.take k).flatMap f ++ f l[k] := by
  rw [List.take_succ_eq_append_getElem h, List.flatMap_append]
  simp

theorem parentL_len (l : List Com) (h : ∀ c ∈ l, c.sum.length = 32) (k : Nat) : ((l.take k).flatMap Pd.parentL).length ≤ 72 * l.length := by
  induction l generalizing k with
  | nil => simp
  | cons a r ih =>
    cases k with
    | zero => simp
    | succ k =>
      have h1 := h a (by simp)
      have h2 := ih (fun c hc => h c (by simp [hc])) k
      rw [List.take_succ_cons, List.flatMap_cons, List.length_append]
      have h3 : (Pd.parentL a).length = 72 := by
        unfold Pd.parentL
        simp only [List.length_append, List.length_cons, List.length_nil, hex_len, h1]
      rw [h3, List.length_cons]
      omega

def comC (KK : List Int) (x : List UInt8) (vl vp : Value) (au : Au) (msg : List UInt8) : Array Value :=
  #[.int .i64 3, .string ⟨x.toArray⟩, .string ⟨(Sh.idK KK 3 x).toArray⟩, vl, vp, .string ⟨au.name.toArray⟩, .string ⟨au.mail.toArray⟩, .int .i64 au.time, .string ⟨msg.toArray⟩]

set_option maxHeartbeats 1600000 in
set_option maxRecDepth 100000 in
theorem commitM_any (KK : List Int) (hKK : KK.length = 72) (mb : Nat) (mt : TypeId) (a0 : Option Addr) (n0 c0 : Nat) (tp : Nat) (tc : List UInt8) (tv : Value) (ps : List Nat) (cs : List Com) (ap : Option Addr) (cp : Nat) (au : Au) (msg : List UInt8) (M : Nat → Prop) (w : World)
    (hgl : Gl w) (hK : Cb mb (A32 KK) mt w) (ht : Cb tp #[.int .i64 2, .string ⟨tc.toArray⟩, .string ⟨(Sh.idK KK 2 tc).toArray⟩, tv] 391 w) (hr : Reads w (.slice ap ps.length cp) ps.length (ps.map ptrV)) (hcs : CmtL M w ps cs)
    (hn : cs.length ≤ 10) (h1 : au.name.length ≤ 1000) (h2 : au.mail.length ≤ 1000) (h3 : 0 ≤ au.time) (h4 : au.time ≤ 9999999999) (h5 : msg.length ≤ 1000) :
    Calls Tryz.prog 230 #[.pointer (some ⟨mb, 0, none⟩), .slice a0 n0 c0, .pointer (some ⟨tp, 0, none⟩), .slice ap ps.length cp, .agg au.cells.toArray, .string ⟨msg.toArray⟩] w fun e w' =>
      ∃ b, e = .returned (.pointer (some ⟨b, 0, none⟩)) ∧ w.heap.size ≤ b ∧ Cb b (comC KK (Pd.comText (Pd.sum KK 2 tc) cs au msg) (.slice a0 n0 c0) (.slice ap ps.length cp) au msg) 112 w' ∧ Kx (fun _ => False) w w' := by
  have hlen := hcs.len
  have hpl := parentL_len cs (fun c hc => by
    obtain ⟨i, hi, rfl⟩ := List.getElem_of_mem hc
    exact (hcs.at i (by omega) hi).sum)
  have hid2 : Sh.idK KK 2 tc = Sh.hex (Pd.sum KK 2 tc) := rfl
  rw [hid2] at ht
  have hsl : (Sh.hex (Pd.sum KK 2 tc)).length = 64 := by rw [hex_len, show (Pd.sum KK 2 tc).length = 32 from ofK_len _ _]
  have htx : Pd.comText (Pd.sum KK 2 tc) cs au msg = ([116, 114, 101, 101, 32] ++ Sh.hex (Pd.sum KK 2 tc) ++ [10]) ++ cs.flatMap Pd.parentL ++ (Pf.line au ++ [10] ++ msg) := rfl
  have HTX : Hid (Pd.comText (Pd.sum KK 2 tc) cs au msg = ([116, 114, 101, 101, 32] ++ Sh.hex (Pd.sum KK 2 tc) ++ [10]) ++ cs.flatMap Pd.parentL ++ (Pf.line au ++ [10] ++ msg)) := htx
  clear htx hid2
  generalize Pd.comText (Pd.sum KK 2 tc) cs au msg = txt at *
  generalize Sh.hex (Pd.sum KK 2 tc) = tid at *
  have hlL : (Pf.line au).length ≤ 2100 := by
    unfold Pf.line
    simp only [List.length_append, List.length_cons, List.length_nil]
    have := Lib.itoa_length_le au.time (by omega) (by omega)
    omega
  have hline := auline_any au
  generalize Pf.line au = ln at *
  have hmx : maxLen = 9223372036854775807 := rfl
  obtain ⟨an, am, at'⟩ := au
  simp only [Au.cells, comC] at *
  have hcat : ∀ a b : List UInt8, (⟨a.toArray⟩ : ByteArray) ++ ⟨b.toArray⟩ = ⟨(a ++ b).toArray⟩ := fun a b => by
    apply ByteArray.ext; simp
  have hkA := (Kx.refl (fun _ => False) w).alloc (.cells #[.string ⟨an.toArray⟩, .string ⟨am.toArray⟩, .int .i64 at'] 110)
  have hbx := Cb.new #[.string ⟨an.toArray⟩, .string ⟨am.toArray⟩, .int .i64 at'] 110 w
  have hbd := Bd.new (w.alloc (.cells #[.string ⟨an.toArray⟩, .string ⟨am.toArray⟩, .int .i64 at'] 110))
  rw [World.size_alloc] at hbd
  have hkB := (Kx.refl (fun _ => False) (w.alloc (.cells #[.string ⟨an.toArray⟩, .string ⟨am.toArray⟩, .int .i64 at'] 110))).alloc (.cells #[.pointer none, .slice none 0 0] 246)
  have hk0 := hkA.trans hkB
  have hbx0 := hbx.kept hkB id
  have ct := Cb.cell (ht.kept hk0 id) 2
  simp only [List.getElem?_toArray, List.getElem?_cons_succ, List.getElem?_cons_zero] at ct
  clear hbx hkA hkB
  obtain ⟨B, hB⟩ : ∃ B, w.heap.size = B := ⟨_, rfl⟩
  go_enter Tryz.func230, Tryz.ntmps230
  go_wp2_with fail
  revert hbd hk0 hbx0 ct
  generalize (w.alloc (.cells #[.string ⟨an.toArray⟩, .string ⟨am.toArray⟩, .int .i64 at'] 110)).alloc (.cells #[.pointer none, .slice none 0 0] 246) = W0
  intro hbd hk0 hbx0 ct
  have HB : Hid (w.heap.size = B) := hB
  rw [hB] at hbd hbx0
  clear hB
  refine (writeString_any (B + 1) [] (116 :: 114 :: 101 :: 101 :: 32 :: (tid ++ [10])) none W0 hbd (by simp) (by simp; omega)).mono ?_
  rintro _ w1 ⟨rfl, g1, hb1, hg1, hk1⟩
  have hXw : ∀ g j, (∀ k, g = some k → B + 1 < k) → j < B + 1 → ¬ BdX (B + 1) g j := by
    intro g j hg hj e
    rcases e with e | e
    · omega
    · have := hg j e.symm; omega
  have hg1' : ∀ k, g1 = some k → B + 1 < k := by
    intro k e
    rcases hg1 with rfl | ⟨j, rfl, hj⟩
    · cases e
    · have := Option.some.inj e
      have := hbd.lt
      omega
  have hK1 : Kx (fun _ => False) w w1 := hk0.andThen hk1 (fun j hj e => hXw none j (fun k e => by cases e) (by have := HB.out; omega) e)
  have hbx1 := hbx0.kept hk1 (hXw none B (fun k e => by cases e) (by omega))
  have hrl : Reads w1 (.slice ap ps.length cp) ps.length (ps.map ptrV) := hr.kept hK1 (fun _ _ => id)
  obtain ⟨qq, cc, hqq, hcc, hrow⟩ := hr
  cases hqq
  clear hk0 hk1 hbx0 hbd hg1 ct hrl
  go_wp2
  go_loopw [26] (fun iv wr => ∃ (k : Nat) (c : List UInt8) (g : Option Nat), iv = .int .i64 k ∧ k ≤ ps.length ∧ Kx (fun _ => False) w wr ∧ Bd (B + 1) c g wr ∧ (∀ j, g = some j → B + 1 < j) ∧ Cb B #[.string ⟨an.toArray⟩, .string ⟨am.toArray⟩, .int .i64 at'] 110 wr ∧ Hid (c = (116 :: 114 :: 101 :: 101 :: 32 :: (tid ++ [10])) ++ (cs.take k).flatMap Pd.parentL)) (fun iv _ => ps.length - (intOf iv).toNat)
  case atStart => exact ⟨0, _, g1, rfl, by omega, hK1, hb1, hg1', hbx1, by show _ = _; simp⟩
  case round =>
    obtain ⟨k, c, g, rfl, hk, hkx, hbd, hg, hbx, HC⟩ := hrel
    have hcl : c.length ≤ 800 := by
      have := hpl k
      rw [HC.out]
      simp only [List.length_append, List.length_cons, List.length_nil]
      omega
    by_cases hlt : k < ps.length
    · have hlt2 : (k : Int) < (ps.length : Int) := by omega
      obtain ⟨gb, o, rfl, hcell⟩ := hrow (by omega)
      have hck := hcell k (ptrV ps[k]) (by simp [hlt])
      have hckr := (hkx.cell (p := ⟨gb, o + k, none⟩) (lt_of_cell (p := ⟨gb, o + k, none⟩) hck) id).trans hck
      have hcm := hcs.at k hlt (by omega)
      have hidr := (hkx.cell (p := ⟨ps[k], 2, none⟩) (lt_of_cell (p := ⟨ps[k], 2, none⟩) hcm.id) id).trans hcm.id
      have hsl2 : (Sh.hex (cs[k]'(by omega)).sum).length = 64 := by rw [hex_len, hcm.sum]
      have HC2 : Hid (c ++ (112 :: 97 :: 114 :: 101 :: 110 :: 116 :: 32 :: (Sh.hex (cs[k]'(by omega)).sum ++ [10])) = (116 :: 114 :: 101 :: 101 :: 32 :: (tid ++ [10])) ++ (cs.take (k + 1)).flatMap Pd.parentL) := by
        show _ = _
        rw [flat_succ _ _ _ (by omega), HC.out, List.append_assoc]
        unfold Pd.parentL
        simp
      unfold ptrV at hckr
      generalize Sh.hex (cs[k]'(by omega)).sum = pid at *
      generalize ps[k] = pk at *
      clear hcell hck hcm
      go_wp2_with fail
      refine (writeString_any (B + 1) c (112 :: 97 :: 114 :: 101 :: 110 :: 116 :: 32 :: (pid ++ [10])) g _ hbd (by simp) (by simp; omega)).mono ?_
      rintro _ w2 ⟨rfl, g2, hb2, hg2, hk2⟩
      have hg2' : ∀ j, g2 = some j → B + 1 < j := by
        intro j e
        rcases hg2 with rfl | ⟨i, rfl, hi⟩
        · exact hg j e
        · have := Option.some.inj e
          have := hbd.lt
          omega
      have hkx2 : Kx (fun _ => False) w w2 := hkx.andThen hk2 (fun j hj e => hXw g j hg (by have := HB.out; omega) e)
      have hbx2 := hbx.kept hk2 (hXw g B hg (by omega))
      clear hbd hk2 hbx hg2 hckr hidr
      go_wp2
      go_roundw
      case rel => exact ⟨k + 1, _, g2, by go_num, hlt, hkx2, hb2, hg2', hbx2, HC2⟩
      case measure => simp [intOf]; omega
    · obtain rfl : k = ps.length := by omega
      have hlt2 : ¬ (ps.length : Int) < (ps.length : Int) := by omega
      have HC2 : Hid (c ++ (ln ++ 10 :: msg) = txt) := by
        show _ = _
        rw [HTX.out, HC.out, hlen, List.take_length]
        simp
      clear HTX HC
      have b0 := Cb.cell hbx 0
      have b1 := Cb.cell hbx 1
      have b2 := Cb.cell hbx 2
      simp only [List.getElem?_toArray, List.getElem?_cons_succ, List.getElem?_cons_zero] at b0 b1 b2
      have hgr := hgl.kept hkx (fun _ _ => id)
      go_wp2_with fail
      refine (hline _ hgr (by omega) (by omega) (by omega) (by omega)).mono ?_
      rintro _ w2 ⟨rfl, hk2⟩
      have hbd2 := hbd.kept hk2 id (fun _ _ => id)
      have hbx2 := hbx.kept hk2 id
      have hkx2 := hkx.trans hk2
      clear hbd hbx hk2 hkx hgr b0 b1 b2
      go_wp2_with fail
      refine (writeString_any (B + 1) c (ln ++ 10 :: msg) g _ hbd2 (by rw [List.length_append, List.length_cons]; omega) (by rw [List.length_append, List.length_cons]; omega)).mono ?_
      rintro _ w3 ⟨rfl, g3, hb3, hg3, hk3⟩
      have hg3' : ∀ j, g3 = some j → B + 1 < j := by
        intro j e
        rcases hg3 with rfl | ⟨i, rfl, hi⟩
        · exact hg j e
        · have := Option.some.inj e
          have := hbd2.lt
          omega
      have hkx3 : Kx (fun _ => False) w w3 := hkx2.andThen hk3 (fun j hj e => hXw g j hg (by have := HB.out; omega) e)
      have hbx3 := hbx2.kept hk3 (hXw g B hg (by omega))
      rw [HC2.out] at hb3
      have htl : txt.length ≤ 45000 := by
        rw [← HC2.out]
        simp only [List.length_append, List.length_cons]
        omega
      have hw3 := hb3.weak
      have hgl3 := hgl.kept hkx3 (fun _ _ => id)
      have hK3 := hK.kept hkx3 id
      have hmbl : mb < B + 1 := by have := HB.out; have := hK.lt; omega
      clear hbd2 hbx2 hkx2 hk3 hg3 hb3 hline HC2
      go_wp2_with fail
      have hXC : ∀ w', Kx (BdX (B + 1) g3) w3 w' → Gl w' ∧ Cb mb (A32 KK) mt w' ∧ Cb B #[.string ⟨an.toArray⟩, .string ⟨am.toArray⟩, .int .i64 at'] 110 w' := by
        intro w' h
        have h6 := hgl.size
        have h7 := HB.out
        exact ⟨hgl3.kept h (fun j hj => hXw g3 j hg3' (by omega)), hK3.kept h (hXw g3 mb hg3' hmbl), hbx3.kept h (hXw g3 B hg3' (by omega))⟩
      refine wp_region_quiet_tail (C := fun w' => Bdw (B + 1) txt g3 w' ∧ Kx (BdX (B + 1) g3) w3 w') 8 (by kernel_rfl) (by kernel_rfl) ⟨hw3.kept ((Kx.refl (fun _ => False) w3).drew) id (fun _ _ => id), (Kx.refl _ _).drew⟩ ?_
      refine quiet_val rfl (.pointer (some ⟨mb, 0, none⟩)) (fun w' hC => by go_simp) ?_
      refine quiet_enter rfl 146 #[.pointer (some ⟨B + 1, 0, none⟩)] (.string ⟨txt.toArray⟩) (fun w' => by go_simp) (fun w' hC => (stringw_any (B + 1) txt g3 w' hC.1).mono (fun e w'' h => ⟨h.1, h.2.1, hC.2.trans h.2.2⟩)) ?_
      simp only [Act.put, sI, sS, sZ]
      refine quiet_enter rfl 299 #[.pointer (some ⟨mb, 0, none⟩), .int .i64 3, .string ⟨txt.toArray⟩] (.agg #[.int .i64 3, .string ⟨txt.toArray⟩, .string ⟨(Sh.idK KK 3 txt).toArray⟩]) (fun w' => by go_simp) (fun w' hC => (object_any KK hKK mb mt 3 txt w' (hXC w' hC.2).1 (hXC w' hC.2).2.1 (by omega) htl).mono (fun e w'' h => ⟨h.1, hC.1.kept h.2 id (fun _ _ => id), hC.2.trans (h.2.mono (fun _ _ h => h.elim))⟩)) ?_
      simp only [Act.put, sI, sS, sZ]
      refine quiet_val rfl (.slice a0 n0 c0) (fun w' hC => by go_simp) ?_
      refine quiet_val rfl (.slice ap ps.length cp) (fun w' hC => by go_simp) ?_
      refine quiet_val rfl (.agg #[.string ⟨an.toArray⟩, .string ⟨am.toArray⟩, .int .i64 at']) (fun w' hC => by
        have hc0 : w'.cell? ⟨B, 0, none⟩ = some (.string ⟨an.toArray⟩) := Cb.cell (hXC w' hC.2).2.2 0
        have hc1 : w'.cell? ⟨B, 1, none⟩ = some (.string ⟨am.toArray⟩) := Cb.cell (hXC w' hC.2).2.2 1
        have hc2 : w'.cell? ⟨B, 2, none⟩ = some (.int .i64 at') := Cb.cell (hXC w' hC.2).2.2 2
        go_simp) ?_
      refine quiet_val rfl (.string ⟨msg.toArray⟩) (fun w' hC => by go_simp) ?_
      simp only [Act.put, sI, sS, sZ]
      refine quiet_val rfl (.agg #[.int .i64 3, .string ⟨txt.toArray⟩, .string ⟨(Sh.idK KK 3 txt).toArray⟩, .slice a0 n0 c0, .slice ap ps.length cp, .string ⟨an.toArray⟩, .string ⟨am.toArray⟩, .int .i64 at', .string ⟨msg.toArray⟩]) (fun w' hC => by go_simp) ?_
      refine wpQuiet_nil (fun w' hC => ?_)
      simp only [Act.put, sI, sS, sZ, List.drop_succ_cons, List.drop_zero]
      have hkE : Kx (fun _ => False) w w' := hkx3.andThen hC.2 (fun j hj e => hXw g3 j hg3' (by have := HB.out; omega) e)
      have hkF := hkE.alloc (.cells #[.int .i64 3, .string ⟨txt.toArray⟩, .string ⟨(Sh.idK KK 3 txt).toArray⟩, .slice a0 n0 c0, .slice ap ps.length cp, .string ⟨an.toArray⟩, .string ⟨am.toArray⟩, .int .i64 at', .string ⟨msg.toArray⟩] 112)
      have hcb := Cb.new #[.int .i64 3, .string ⟨txt.toArray⟩, .string ⟨(Sh.idK KK 3 txt).toArray⟩, .slice a0 n0 c0, .slice ap ps.length cp, .string ⟨an.toArray⟩, .string ⟨am.toArray⟩, .int .i64 at', .string ⟨msg.toArray⟩] 112 w'
      have hsz := hkE.size
      clear hXC hgl3 hK3 hbx3 hw3 hlen
      go_wp2
      go_ret
      exact ⟨_, rfl, hsz, hcb, hkF⟩

mutual
theorem addTr_or (K : List Int) (s : Objs) : ∀ (x : Tr) (g : Objs), orE (Pd.addTr K x g) s = Pd.addTr K x (orE g s)
  | .mk c ws, g => by
    unfold Pd.addTr
    rw [addTrs_or K s ws, show orE (Pd.add K 2 c g) s = Pd.add K 2 c (orE g s) from orE_upd _ _ _ _]
theorem addTrs_or (K : List Int) (s : Objs) : ∀ (x : Trs) (g : Objs), orE (Pd.addTrs K x g) s = Pd.addTrs K x (orE g s)
  | .nil, g => rfl
  | .cons t r, g => by
    unfold Pd.addTrs
    rw [addTrs_or K s r, addTr_or K s t]
end

theorem addTreeW_any {M : Nat → Prop} {w : World} {B : Bl} {n : Nat} {S : St} {W : Wk} (h : Wrk M w B n S W) (x : Tr) (q : Nat) (bs : List Nat) (hT : IsTr Sh.K w x q bs) (hbs : ∀ k ∈ bs, ¬ M k) (hn : n + x.count ≤ maxLen) :
    Calls Tryz.prog 231 #[.pointer (some ⟨B.d, 0, none⟩), .pointer (some ⟨q, 0, none⟩)] w fun e w' => e = .returned (.tuple #[]) ∧ Wrk M w' B (n + x.count) S { W with st := { W.st with obj := Pd.addTr Sh.K x W.st.obj } } ∧ Kx (Only B.mo) w w' := by
  obtain ⟨g, h1, h2⟩ := h.objs
  have hX : ∀ k, k < w.heap.size → Only B.mo k → M k := fun k _ e => h.inM k (.inl e)
  refine (at_all Sh.K x B.d B.p B.m B.mo B.mc B.mr B.mt n q bs g w h.dr h.hm h1 hT (fun k hk e => hbs k hk (by rw [e]; exact h.inM _ (.inl rfl))) (fun e => h.sep.d (.inl e)) (fun e => h.sep.m (.inl e)) hn).mono ?_
  rintro _ w' ⟨rfl, hm, hk⟩
  have hle := Nat.le_add_right n x.count
  refine ⟨rfl, h.turn (hk.mono (fun k _ e => .inl e)) ⟨_, hm, ?_⟩ (h.kcoms hk hX (fun e => h.sep.oc e.symm) hle) (h.krefs hk hX (fun e => h.sep.or e.symm) hle) (h.ktags hk hX (fun e => h.sep.ot e.symm) hle) (h.kmarks hk hX (fun e => h.sep.ok e.symm) hle), hk⟩
  show Pd.addTr Sh.K x W.st.obj = _
  rw [addTr_or, h2]

theorem addCommitW_any {M : Nat → Prop} {w : World} {B : Bl} {n : Nat} {S : St} {W : Wk} (h : Wrk M w B n S W) (hn : n < maxLen) (b : Nat) (x : List UInt8) (l : List Fi) (rest : List Value) (hb : Cb b (.int .i64 3 :: .string ⟨x.toArray⟩ :: .string ⟨(Sh.idK Sh.K 3 x).toArray⟩ :: rest).toArray 112 w) (hc : Cmt M w b ⟨Pd.sum Sh.K 3 x, l⟩) :
    Calls Tryz.prog 232 #[.pointer (some ⟨B.d, 0, none⟩), .pointer (some ⟨b, 0, none⟩)] w fun e w' => e = .returned (.tuple #[]) ∧
      Wrk M w' B (n + 1) S ⟨⟨Pd.add Sh.K 3 x W.st.obj, upd W.st.com (Sh.idK Sh.K 3 x) (some ⟨Pd.sum Sh.K 3 x, l⟩), W.st.ref, W.st.tag⟩, W.ms⟩ ∧ Kx (fun k => k = B.mo ∨ k = B.mc) w w' := by
  obtain ⟨g, h1, h2⟩ := h.objs
  obtain ⟨gc, f, h3, h4, h5⟩ := h.coms
  have hX : ∀ k, k < w.heap.size → (k = B.mo ∨ k = B.mc) → M k := fun k _ e => by
    rcases e with e | e
    · exact h.inM k (.inl e)
    · exact h.inM k (.inr (.inl e))
  refine (addCommit_any B.d B.p B.m B.mo B.mc B.mr B.mt n n (objF g) f b x (Sh.idK Sh.K 3 x) rest w h.dr h.hm h1 h3 hn hn (by rw [idK_len]; decide) hb h.sep.oc (fun e => h.sep.d (.inl e)) (fun e => h.sep.m (.inl e)) (fun e => hc.still (by rw [e]; exact h.inM _ (.inl rfl)))).mono ?_
  rintro _ w' ⟨rfl, hm, ht, hk⟩
  refine ⟨rfl, h.turn (hk.mono (fun k _ e => ?_)) ⟨Pd.add Sh.K 3 x g, by unfold Pd.add; rw [objF_upd]; exact hm, ?_⟩ ⟨upd gc (Sh.idK Sh.K 3 x) (some ⟨Pd.sum Sh.K 3 x, l⟩), _, ht, (h4.kept hk hX).upd (hc.kept hk hX), ?_⟩ (h.krefs hk hX (fun e => ?_) (Nat.le_succ n)) (h.ktags hk hX (fun e => ?_) (Nat.le_succ n)) (h.kmarks hk hX (fun e => ?_) (Nat.le_succ n)), hk⟩
  · rcases e with e | e
    · exact .inl e
    · exact .inr (.inl e)
  · show Pd.add Sh.K 3 x W.st.obj = _
    unfold Pd.add
    rw [orE_upd, h2]
  · show upd W.st.com _ _ = _
    rw [orE_upd, h5]
  · rcases e with e | e
    · exact h.sep.or e.symm
    · exact h.sep.cr e.symm
  · rcases e with e | e
    · exact h.sep.ot e.symm
    · exact h.sep.ct e.symm
  · rcases e with e | e
    · exact h.sep.ok e.symm
    · exact h.sep.ck e.symm

theorem below_weight2 (head : List UInt8) (hh : head ≠ []) : ∀ l : List Fi, Pf.weight (Pf.below head l) + (Pf.below head l).length + Pf.weight (l.drop (Pf.below head l).length) ≤ Pf.weight l
  | [] => by simp [Pf.below, Pf.weight]
  | f :: r => by
    have ih := below_weight2 head hh r
    unfold Pf.below
    split
    · rename_i hp
      have hl : head.length ≤ f.path.length := by
        unfold Lib.hasPrefix at hp
        rw [List.isPrefixOf_iff_prefix] at hp
        exact hp.length_le
      have h0 : 0 < head.length := List.length_pos_iff.2 hh
      simp only [Pf.weight, Lib.trimPrefix, hp, if_true, List.length_drop, List.length_cons, List.drop_succ_cons]
      omega
    · simp [Pf.weight]

theorem treeF_count (K : List Int) : ∀ (n : Nat) (l : List Fi), Trs.count (Pf.treeF K n l).2 ≤ Pf.weight l
  | 0, _ => by simp [Pf.treeF, Trs.count]
  | n + 1, [] => by simp [Pf.treeF, Trs.count]
  | n + 1, f :: r => by
    cases hc : (Lib.cut f.path [47]).2.2
    · rw [treeF_file K n f r hc]
      have := treeF_count K n r
      simp only [Pf.weight] at *
      omega
    · have hb := below_cons f r hc
      have hw := below_weight2 ((Lib.cut f.path [47]).1 ++ [47]) (by simp) (f :: r)
      rw [treeF_dir K n f r hc]
      have h1 := treeF_count K n (Pf.below ((Lib.cut f.path [47]).1 ++ [47]) (f :: r))
      have h2 := treeF_count K n ((f :: r).drop (Pf.below ((Lib.cut f.path [47]).1 ++ [47]) (f :: r)).length)
      show (1 + Trs.count _) + Trs.count _ ≤ _
      omega

theorem weight_le (l : List Fi) (h : Fine l) : Pf.weight l ≤ 201 * l.length := by
  induction l with
  | nil => simp [Pf.weight]
  | cons f r ih =>
    have h1 := h f (by simp)
    have h2 := ih (fun x hx => h x (by simp [hx]))
    simp only [Pf.weight, List.length_cons]
    omega

theorem tree_count {l : List Fi} (h : FOk l) : Tr.count (.mk (Pf.tree Sh.K l).1 (Pf.tree Sh.K l).2) ≤ 12061 := by
  have h1 := treeF_count Sh.K (Pf.weight l) l
  have h2 := weight_le l h.fine
  have h3 := h.len
  show 1 + Trs.count (Pf.treeF Sh.K (Pf.weight l) l).2 ≤ 12061
  omega

end Go.Proofs.YtepgoppgblfjbaaGreatDoor
