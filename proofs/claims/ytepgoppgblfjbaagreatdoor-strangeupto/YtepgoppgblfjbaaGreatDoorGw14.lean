import Derived.Test.YtepgoppgblfjbaaGreatDoorGw13
namespace Go.Proofs.YtepgoppgblfjbaaGreatDoor
open Go.RowKit

section
variable {P : Program} {md : Region.Mode} {ops : Array Oper} {C : World → Prop}

def NoQ : Exit → Act → World → Prop := fun _ _ _ => False

theorem noQ_lets : ¬ LetsOut NoQ := fun ⟨_, _, h⟩ => h

def AnyC (P : Program) (md : Region.Mode) (ops : Array Oper) (C : World → Prop) (R : Act → World → Prop) : Nat → Array Bool → Act → World → Prop
  | 0, listed, a, w => Region.ready md ops listed = [] ∧ R a w
  | f + 1, listed, a, w => Region.ready md ops listed ≠ [] ∧ ∀ i ∈ Region.ready md ops listed, wpOp P ops NoQ i (fun a' w' => C w' ∧ AnyC P md ops C R f (listed.setIfInBounds i true) a' w') a w

theorem upon_noQ {Q : Exit → Act → World → Prop} {o : Oper} {a : Act} {K K' : Act → World → Prop} (h : ∀ a w, K a w → K' a w) {r : Result Next} (hh : o.upon P a K NoQ r) : o.upon P a K' Q r := by
  cases r with
  | ok n w' =>
    cases n <;> simp only [Oper.upon] at hh ⊢
    case value u => exact h _ _ hh
    case skip => exact h _ _ hh
    case defer d => exact h _ _ hh
    case enter f args =>
      refine Calls.mono hh fun e w'' he => ?_
      cases e with
      | returned u => exact h _ _ he
      | panicked c => exact False.elim he
      | outgrown => exact (noQ_lets he).elim
    case row row args => exact Rows.mono hh fun u w'' he => h _ _ he
  | halt x w' =>
    cases x <;> simp only [Oper.upon] at hh ⊢
    case panic u => exact False.elim hh

theorem wpOp_noQ {Q : Exit → Act → World → Prop} {i : Nat} {a : Act} {w : World} {K K' : Act → World → Prop} (h : ∀ a w, K a w → K' a w) (hh : wpOp P ops NoQ i K a w) : wpOp P ops Q i K' a w := by
  unfold wpOp at *
  split
  · exact h _ _ (by simpa [*] using hh)
  · rename_i o ho
    simp only [ho] at hh
    split
    · rename_i hw
      simp only [hw, if_true] at hh
      rcases hh with hh | ⟨_, hl⟩
      · exact .inl (upon_noQ h hh)
      · exact (noQ_lets hl).elim
    · rename_i hw
      simp only [hw] at hh
      exact h _ _ hh

theorem AnyC.any {R : Act → World → Prop} {Q : Exit → Act → World → Prop} (hR : ∀ a w, R a w → Q .normal a w) : ∀ (f : Nat) (listed : Array Bool) (a : Act) (w : World), AnyC P md ops C R f listed a w → wpAny P md ops Q f listed a w
  | 0, _, _, _, h => ⟨h.1, hR _ _ h.2⟩
  | f + 1, _, _, _, h => ⟨fun e => absurd e h.1, fun i hi => wpOp_noQ (fun a' w' hk => AnyC.any hR f _ a' w' hk.2) (h.2 i hi)⟩

def ValIn (P : Program) (ops : Array Oper) (C : World → Prop) (o : Oper) (v : Value) (a : Act) : Prop :=
  Region.wanted o (yielded ops a.tmps) = true ∧ ∀ w, C w → (execOp a.eval o).run P w = .ok (.value v) w

theorem ValIn.of_same {o : Oper} {v : Value} {a a' : Act} (hy : ValIn P ops C o v a) (he : execOp a'.eval o = execOp a.eval o)
    (hw : Region.wanted o (yielded ops a'.tmps) = Region.wanted o (yielded ops a.tmps)) : ValIn P ops C o v a' := by
  unfold ValIn at *
  rw [he, hw]
  exact hy

theorem ValIn.op {i : Nat} {o : Oper} {v : Value} {a : Act} {w : World} {Q : Exit → Act → World → Prop} {K : Act → World → Prop} (hi : ops[i]? = some o) (hy : ValIn P ops C o v a) (hC : C w) (h : K (a.put o.dst v) w) : wpOp P ops Q i K a w := by
  unfold wpOp
  simp only [hi, hy.1, if_true]
  refine .inl ?_
  unfold Oper.wp
  rw [hy.2 w hC]
  exact h

theorem putC {j : Nat} {oi oj : Oper} {v : Value} (hj : ops[j]? = some oj) (hap : oi.apart ops oj = true)
    (hsi : ∀ cs b, oi.op ≠ .select cs b) (hsj : ∀ cs b, oj.op ≠ .select cs b) {K : Act → World → Prop} {a : Act} {w : World}
    (hy : ValIn P ops C oi v a) (h : wpOp P ops NoQ j K (a.put oi.dst v) w) :
    wpOp P ops NoQ j (fun a' w' => ValIn P ops C oi v a' ∧ K (a'.put oi.dst v) w') a w := by
  obtain ⟨h1, h2, h3⟩ := Oper.apart_spec hap
  have keep : ∀ (a : Act), ValIn P ops C oi v a → ∀ u, ValIn P ops C oi v (a.put oj.dst u) := fun a hy u =>
    hy.of_same (execOp_put oi hsi a oj.dst u h3) (wanted_put oi a oj.dst u h3)
  have keepD : ∀ d, ValIn P ops C oi v { a with defers := d :: a.defers } := fun d => hy.of_same rfl rfl
  unfold wpOp at *
  simp only [hj] at *
  rw [wanted_put oj a oi.dst v h1] at h
  split
  · rename_i hw
    simp only [hw, if_true] at h
    rcases h with h | ⟨_, hl⟩
    case inr => exact (noQ_lets hl).elim
    refine .inl ?_
    unfold Oper.wp at *
    rw [execOp_put oj hsj a oi.dst v h1] at h
    generalize (execOp a.eval oj).run P w = r at *
    cases r with
    | ok n w' =>
      cases n <;> simp only [Oper.upon] at h ⊢
      case value u => exact ⟨keep a hy u, by rw [← Act.put_comm a v u h2]; exact h⟩
      case skip => exact ⟨keep a hy _, by rw [← Act.put_comm a v undef h2]; exact h⟩
      case defer d =>
        refine ⟨keep _ (keepD d) _, ?_⟩
        rw [← Act.put_comm _ v undef h2, ← Act.put_defers]
        exact h
      case enter f args =>
        refine Calls.mono h fun e w'' he => ?_
        cases e with
        | returned u => exact ⟨keep a hy u, by rw [← Act.put_comm a v u h2]; exact he⟩
        | panicked c => exact False.elim he
        | outgrown => exact he
      case row row args => exact Rows.mono h fun u w'' he => ⟨keep a hy u, by rw [← Act.put_comm a v u h2]; exact he⟩
    | halt x w' =>
      cases x <;> simp only [Oper.upon] at h ⊢
      case panic u => exact False.elim h
  · rename_i hw
    simp only [hw] at h
    exact ⟨keep a hy _, by rw [← Act.put_comm a v undef h2]; exact h⟩

theorem AnyC.first {R : Act → World → Prop} {i : Nat} {oi : Oper} {v : Value} (hi : ops[i]? = some oi) (hsel : ∀ (j : Nat) (o : Oper) cs b, ops[j]? = some o → o.op ≠ .select cs b) :
    ∀ (fuel : Nat) (listed : Array Bool) (a : Act) (w : World), C w →
      (∀ j oj, ops[j]? = some oj → j ≠ i → listed.getD j true = false → (∀ e ∈ oj.after, Region.binds md e = true → e.on ≠ i) → oi.apart ops oj = true) →
      i ∈ Region.ready md ops listed → ValIn P ops C oi v a →
      AnyC P md ops C R fuel (listed.setIfInBounds i true) (a.put oi.dst v) w → AnyC P md ops C R (fuel + 1) listed a w := by
  intro fuel
  induction fuel with
  | zero =>
    intro listed a w hC _ hr hy H
    refine ⟨fun h => (by rw [h] at hr; cases hr), fun j hj => ?_⟩
    by_cases hji : j = i
    · subst hji; exact hy.op hi hC ⟨hC, H⟩
    · have := ready_mono hj hji
      rw [H.1] at this
      cases this
  | succ fuel ih =>
    intro listed a w hC hfree hr hy H
    refine ⟨fun h => (by rw [h] at hr; cases hr), fun j hj => ?_⟩
    by_cases hji : j = i
    · subst hji; exact hy.op hi hC ⟨hC, H⟩
    · have h1 := H.2 j (ready_mono hj hji)
      obtain ⟨hjun, oj, hoj, hall⟩ := mem_ready.1 hj
      have hnot : ∀ e ∈ oj.after, Region.binds md e = true → e.on ≠ i := fun e he hb heq => by
        have h1 := hall e he hb
        have h0 := (mem_ready.1 hr).1
        rw [heq] at h1
        rcases Nat.lt_or_ge i listed.size with h' | h'
        · simp [h'] at h0 h1; rw [h0] at h1; cases h1
        · simp [Array.getElem?_eq_none h'] at h1
      have h2 := putC hoj (hfree j oj hoj hji hjun hnot) (fun cs b => hsel i oi cs b hi) (fun cs b => hsel j oj cs b hoj) hy h1
      have hfree' : ∀ k ok, ops[k]? = some ok → k ≠ i → (listed.setIfInBounds j true).getD k true = false →
          (∀ e ∈ ok.after, Region.binds md e = true → e.on ≠ i) → oi.apart ops ok = true := fun k ok hk hki hun hno => by
        refine hfree k ok hk hki ?_ hno
        by_cases hjk : j = k
        · subst hjk; exact hjun
        · rw [getD_set_ne true hjk] at hun; exact hun
      refine wpOp_noQ (fun a' w' h3 => ⟨h3.2.1, ih (listed.setIfInBounds j true) a' w' h3.2.1 hfree' (ready_mono hr (Ne.symm hji)) h3.1 ?_⟩) h2
      rw [Array.setIfInBounds_comm _ _ hji]
      exact h3.2.2

def HeadC (P : Program) (ops : Array Oper) (C : World → Prop) (K : Act → Prop) : List Oper → Act → Prop
  | [], a => K a
  | o :: rest, a => ∃ v, ValIn P ops C o v a ∧ HeadC P ops C K rest (a.put o.dst v)

def SeqC (P : Program) (ops : Array Oper) (C : World → Prop) (R : Act → World → Prop) : List Oper → Act → World → Prop
  | [], a, w => R a w
  | o :: rest, a, w => wpList P ops (fun x a' w' => x = .normal ∧ C w' ∧ SeqC P ops C R rest a' w') [o] a w

def lexMid (md : Region.Mode) (ops : Array Oper) (n : Nat) : Nat → Nat → Array Bool → Bool
  | 0, _, listed => (Region.ready md ops listed).isEmpty
  | f + 1, k, listed => (if k < n then (Region.ready md ops listed).contains k && Region.free md ops listed k else Region.ready md ops listed == [k]) && lexMid md ops n f (k + 1) (listed.setIfInBounds k true)

theorem upon_toNoQ {Q : Exit → Act → World → Prop} (hQ : ∀ e a w, e ≠ .normal → ¬ Q e a w) {o : Oper} {a : Act} {K : Act → World → Prop} {r : Result Next} (hh : o.upon P a K Q r) : o.upon P a K NoQ r := by
  have hl : ¬ LetsOut Q := fun ⟨a, w, h⟩ => hQ _ a w (by intro e; cases e) h
  cases r with
  | ok n w' =>
    cases n <;> simp only [Oper.upon] at hh ⊢
    case value u => exact hh
    case skip => exact hh
    case defer d => exact hh
    case enter f args =>
      refine Calls.mono hh fun e w'' he => ?_
      cases e with
      | returned u => exact he
      | panicked c => exact (hQ _ _ _ (by intro e; cases e) he).elim
      | outgrown => exact (hl he).elim
    case row row args => exact hh
  | halt x w' =>
    cases x <;> simp only [Oper.upon] at hh ⊢
    case panic u => exact (hQ _ _ _ (by intro e; cases e) hh).elim

theorem list_op {Q : Exit → Act → World → Prop} (hQ : ∀ e a w, e ≠ .normal → ¬ Q e a w) {k : Nat} {o : Oper} {a : Act} {w : World} (hk : ops[k]? = some o) (h : wpList P ops Q [o] a w) : wpOp P ops NoQ k (fun a' w' => Q .normal a' w') a w := by
  have hl : ¬ LetsOut Q := fun ⟨a, w, h⟩ => hQ _ a w (by intro e; cases e) h
  unfold wpList at h
  unfold wpOp
  simp only [hk]
  split
  · rename_i hw
    simp only [hw, if_true] at h
    rcases h with h | ⟨_, h⟩
    · exact .inl (upon_toNoQ hQ h)
    · exact (hl h).elim
  · rename_i hw
    simp only [hw] at h
    exact h

theorem AnyC.lex {R : Act → World → Prop} (hs : Region.noSelect ops = true) (n : Nat) (w : World) (hC : C w) : ∀ (l : List Oper) (r : List Oper) (k : Nat) (listed : Array Bool) (a : Act), k + l.length = n → (∀ j, (l ++ r)[j]? = ops[k + j]?) →
    lexMid md ops n (l.length + r.length) k listed = true → HeadC P ops C (fun a' => SeqC P ops C R r a' w) l a → AnyC P md ops C R (l.length + r.length) listed a w
  | [], r, k, listed, a, hn, hl, hB, h => by
    have hn' : n ≤ k := by simp at hn; omega
    have h' : SeqC P ops C R r a w := h
    rw [List.length_nil, Nat.zero_add] at hB ⊢
    clear h hn
    induction r generalizing k listed a w with
    | nil =>
      simp only [List.length_nil, lexMid] at hB
      exact ⟨by simpa using hB, h'⟩
    | cons o r ih =>
      have h0 : ops[k]? = some o := by simpa using (hl 0).symm
      simp only [List.length_cons, lexMid, Bool.and_eq_true] at hB
      rw [if_neg (by omega), beq_iff_eq] at hB
      obtain ⟨hr, hB2⟩ := hB
      refine ⟨fun e => (by rw [hr] at e; cases e), fun i hi => ?_⟩
      rw [hr, List.mem_singleton] at hi
      subst hi
      refine wpOp_noQ (fun a' w' hk => ⟨hk.2.1, ih w' hk.2.1 (i + 1) _ a' (fun j => ?_) hB2 (by omega) hk.2.2⟩) (list_op (fun e _ _ he hq => he hq.1) h0 h')
      have := hl (j + 1)
      simpa [Nat.add_assoc, Nat.add_comm 1 j] using this
  | o :: l, r, k, listed, a, hn, hl, hB, h => by
    have h0 : ops[k]? = some o := by simpa using (hl 0).symm
    have e : (o :: l).length + r.length = (l.length + r.length) + 1 := by simp only [List.length_cons]; omega
    rw [e] at hB ⊢
    simp only [List.length_cons] at hn
    simp only [lexMid, Bool.and_eq_true] at hB
    rw [if_pos (by omega), Bool.and_eq_true] at hB
    obtain ⟨⟨hr, hf⟩, hB'⟩ := hB
    obtain ⟨v, hy, hK⟩ := h
    exact AnyC.first h0 (Region.noSelect_spec hs) (l.length + r.length) listed a w hC (Region.free_spec h0 hf) (by simpa using hr) hy
      (AnyC.lex hs n w hC l r (k + 1) _ _ (by omega) (fun j => by have := hl (j + 1); simpa [Nat.add_assoc, Nat.add_comm 1 j] using this) hB' hK)

def lexMidB (ops : Array Oper) (n : Nat) : Bool := Region.noSelect ops && decide (n ≤ ops.size) && lexMid .any ops n ops.size 0 (Array.replicate ops.size false)

theorem wp_region_mid {id : Nat} {Q : Exit → Act → World → Prop} {a : Act} {w : World} {l : List Oper} (n : Nat) (hm : P.follows .mixedOrders = true) (hB : lexMidB l.toArray n = true) (hC : C { w with drawn := w.drawn + 1 })
    (h : HeadC P l.toArray C (fun a' => SeqC P l.toArray C (fun a'' w'' => Q .normal a'' w'') (l.drop n) a' { w with drawn := w.drawn + 1 }) (l.take n) a) : (Code.region id l.toArray true).wp P Q a w := by
  simp only [lexMidB, Bool.and_eq_true, decide_eq_true_eq] at hB
  obtain ⟨⟨hs, hn⟩, hlex⟩ := hB
  have hn' : n ≤ l.length := by simpa using hn
  have e1 : (l.take n).length = n := by simp; omega
  have e2 : (l.drop n).length = l.toArray.size - n := by simp
  have e3 : (l.take n).length + (l.drop n).length = l.toArray.size := by rw [e1, e2]; simp; omega
  refine wp_region_any hm ?_
  have H := AnyC.lex (md := .any) (R := fun a'' w'' => Q .normal a'' w'') hs n { w with drawn := w.drawn + 1 } hC (l.take n) (l.drop n) 0 (Array.replicate l.toArray.size false) a (by rw [e1]; omega) (fun j => by simp) (by rw [e3]; exact hlex) h
  rw [e3] at H
  exact AnyC.any (fun a w h => h) _ _ _ _ H

theorem headC_nil {K : Act → Prop} {a : Act} (h : K a) : HeadC P ops C K [] a := h

theorem headC_val {K : Act → Prop} {a : Act} {o : Oper} {rest : List Oper} (hg : o.guard = none) (v : Value) (hrun : ∀ w, C w → (execOp a.eval o).run P w = .ok (.value v) w) (h : HeadC P ops C K rest (a.put o.dst v)) : HeadC P ops C K (o :: rest) a :=
  ⟨v, ⟨by simp [Region.wanted, hg], hrun⟩, h⟩

theorem seqC_enter {R : Act → World → Prop} {a : Act} {w : World} {o : Oper} {rest : List Oper} (hg : o.guard = none) (f : Nat) (args : Array Value) (hrun : (execOp a.eval o).run P w = .ok (.enter f args) w)
    (hcall : Calls P f args w fun e w' => ∃ v, e = .returned v ∧ C w' ∧ SeqC P ops C R rest (a.put o.dst v) w') : SeqC P ops C R (o :: rest) a w := by
  unfold SeqC wpList
  have hw : Region.wanted o (yielded ops a.tmps) = true := by simp [Region.wanted, hg]
  rw [if_pos hw]
  refine .inl ?_
  unfold Oper.wp
  rw [hrun]
  refine Calls.mono hcall fun e w' he => ?_
  obtain ⟨v, rfl, h1, h2⟩ := he
  exact ⟨rfl, h1, h2⟩

theorem seqC_val {R : Act → World → Prop} {a : Act} {w : World} {o : Oper} {rest : List Oper} (hg : o.guard = none) (v : Value) (hrun : (execOp a.eval o).run P w = .ok (.value v) w) (hC : C w)
    (h : SeqC P ops C R rest (a.put o.dst v) w) : SeqC P ops C R (o :: rest) a w := by
  unfold SeqC wpList
  have hw : Region.wanted o (yielded ops a.tmps) = true := by simp [Region.wanted, hg]
  rw [if_pos hw]
  refine .inl ?_
  unfold Oper.wp
  rw [hrun]
  exact ⟨rfl, hC, h⟩

end

def zMk : Value := .agg #[.pointer none, .string ⟨#[]⟩]

theorem MksF.val {M : Nat → Prop} {w : World} {f : Int → Option Value} {g : Int → Option Mkd} (h : MksF M w f g) (k : Int) : ∃ p x, (f k).getD zMk = .agg #[.pointer p, .string ⟨x⟩] ∧ (f k).isSome = (g k).isSome := by
  cases hg : g k with
  | none =>
    rw [(h k).1 hg]
    exact ⟨none, #[], rfl, rfl⟩
  | some m =>
    cases m with
    | blob s =>
      rw [((h k).2.1 s hg).1]
      exact ⟨_, _, rfl, rfl⟩
    | com c =>
      obtain ⟨b, hb, _⟩ := (h k).2.2 c hg
      rw [hb]
      exact ⟨_, _, rfl, rfl⟩

set_option maxHeartbeats 800000 in
set_option maxRecDepth 100000 in
theorem isSet_any {M : Nat → Prop} {w : World} {B : Bl} {n : Nat} {S : St} {W : Wk} (h : Wrk M w B n S W) (mark : Int) (h0 : 0 ≤ mark) (h1 : mark ≤ 999) :
    Calls Tryz.prog 218 #[.pointer (some ⟨B.q, 0, none⟩), .int .i64 mark] w fun e w' => e = .returned (.bool (Pd.isSet W mark)) ∧ Kx (fun _ => False) w w' := by
  obtain ⟨f, hf, hM⟩ := h.marks
  obtain ⟨p, x, hv, hs⟩ := hM.val mark
  have hc2 : w.cell? ⟨B.q, 2, none⟩ = some (.map (some B.kb)) := Cb.cell h.wq 2
  have hE : Pd.isSet W mark = (f mark).isSome := by unfold Pd.isSet; rw [hs]
  rw [hE]
  have hk := (Kx.refl (fun _ => False) w).alloc (.cells #[.pointer p, .string ⟨x⟩] 314)
  clear hs hE
  generalize B.q = q at *
  generalize B.kb = kb at *
  go_enter Tryz.func218, Tryz.ntmps218
  go_wp2_with (refine wpList_lookOkI rfl _ _ 168 rfl 314 (by kernel_rfl) (by kernel_rfl) zMk (by kernel_rfl) kb n f rfl hf mark rfl (by omega) (by omega) ?_)
  go_ret
  exact ⟨rfl, hk⟩

theorem K72 : Sh.K.length = 72 := by kernel_rfl

theorem addObj_wrk {M : Nat → Prop} {w w' : World} {B : Bl} {n : Nat} {S : St} {W : Wk} {kind : Nat} {x : List UInt8} {g : Objs} (h : Wrk M w B n S W) (hg : W.st.obj = orE g S.obj) (hk : Kx (Only B.mo) w w') (hm : MpS w' B.mo (n + 1) (objF (Pd.add Sh.K kind x g))) :
    Wrk M w' B (n + 1) S (Pd.addObj Sh.K kind x W) := by
  have hX : ∀ k, k < w.heap.size → Only B.mo k → M k := fun k _ e => h.inM k (.inl e)
  refine h.turn (hk.mono (fun k _ e => .inl e)) ⟨_, hm, ?_⟩ (h.kcoms hk hX (fun e => h.sep.oc e.symm) (Nat.le_succ n)) (h.krefs hk hX (fun e => h.sep.or e.symm) (Nat.le_succ n)) (h.ktags hk hX (fun e => h.sep.ot e.symm) (Nat.le_succ n)) (h.kmarks hk hX (fun e => h.sep.ok e.symm) (Nat.le_succ n))
  show Pd.add Sh.K kind x W.st.obj = _
  unfold Pd.add
  rw [orE_upd, hg]

set_option maxHeartbeats 800000 in
set_option maxRecDepth 100000 in
theorem blobW_any {M : Nat → Prop} {w : World} {B : Bl} {n : Nat} {S : St} {W : Wk} (h : Wrk M w B n S W) (x : List UInt8) (hx : x.length ≤ 45000) (hn : n < maxLen) :
    Calls Tryz.prog 219 #[.pointer (some ⟨B.q, 0, none⟩), .string ⟨x.toArray⟩] w fun e w' => e = .returned (.string ⟨(Sh.hex (Pd.sum Sh.K 1 x)).toArray⟩) ∧ Wrk M w' B (n + 1) S (Pd.addObj Sh.K 1 x W) ∧ Kx (Only B.mo) w w' := by
  have hc1 : w.cell? ⟨B.q, 1, none⟩ = some (.pointer (some ⟨B.mb, 0, none⟩)) := Cb.cell h.wq 1
  have hblob := blob_any Sh.K K72 B.mb 281 x w h.gl h.mkr hx
  obtain ⟨g, hg, hge⟩ := h.objs
  go_enter Tryz.func219, Tryz.ntmps219
  go_wp2_with fail
  refine hblob.mono ?_
  rintro _ w1 ⟨rfl, hk1⟩
  have h1 := h.kept hk1
  have hA := (Kx.refl (fun _ => False) w1).alloc (.cells #[.int .i64 1, .string ⟨x.toArray⟩, .string ⟨(Sh.idK Sh.K 1 x).toArray⟩] 105)
  have h2 := h1.kept hA
  have hg2 := (hg.kept hk1 id).kept hA id
  have hbx := Cb.new #[.int .i64 1, .string ⟨x.toArray⟩, .string ⟨(Sh.idK Sh.K 1 x).toArray⟩] 105 w1
  have hk2 := hk1.trans hA
  clear hc1 hblob
  go_wp2_with fail
  have hb1 : w1.heap.size ≠ B.mo := fun e => by
    have hl := hg.lt
    have := hk1.size
    omega
  revert h2 hg2 hbx hk2 hb1
  generalize w1.alloc (.cells #[.int .i64 1, .string ⟨x.toArray⟩, .string ⟨(Sh.idK Sh.K 1 x).toArray⟩] 105) = w2
  generalize w1.heap.size = b1
  intro h2 hg2 hbx hk2 hb1
  refine wp_region_quiet_tail (C := fun w' => Kx (fun _ => False) w2 w') 5 (by kernel_rfl) (by kernel_rfl) (Kx.refl _ _).drew ?_
  refine quiet_val rfl (.pointer (some ⟨B.q, 0, none⟩)) (fun w' hC => by go_simp) ?_
  refine quiet_val rfl (.pointer (some ⟨B.q, 0, none⟩)) (fun w' hC => by go_simp) ?_
  refine quiet_val rfl (.pointer (some ⟨B.q, 0, none⟩)) (fun w' hC => by go_simp) ?_
  refine quiet_val rfl (.pointer (some ⟨B.d, 0, none⟩)) (fun w' hC => by
    have hc0 : w'.cell? ⟨B.q, 0, none⟩ = some (.pointer (some ⟨B.d, 0, none⟩)) := Cb.cell (h2.wq.kept hC id) 0
    go_simp) ?_
  refine quiet_val rfl (.agg #[.int .i64 1, .string ⟨x.toArray⟩, .string ⟨(Sh.idK Sh.K 1 x).toArray⟩]) (fun w' hC => by
    have hc0 : w'.cell? ⟨b1, 0, none⟩ = some (.int .i64 1) := Cb.cell (hbx.kept hC id) 0
    have hc1 : w'.cell? ⟨b1, 1, none⟩ = some (.string ⟨x.toArray⟩) := Cb.cell (hbx.kept hC id) 1
    have hc2 : w'.cell? ⟨b1, 2, none⟩ = some (.string ⟨(Sh.idK Sh.K 1 x).toArray⟩) := Cb.cell (hbx.kept hC id) 2
    go_simp) ?_
  refine wpQuiet_nil (fun w' hC => ?_)
  simp only [Act.put, sI, sS, sZ, List.drop_succ_cons, List.drop_zero]
  have h3 := h2.kept hC
  have hg3 := hg2.kept hC id
  have hbx3 := hbx.kept hC id
  have hk3 := hk2.trans hC
  have hcall := addBlob_any B.d B.p B.m B.mo B.mc B.mr B.mt n (objF g) 1 x (Sh.idK Sh.K 1 x) w' h3.dr h3.hm hg3 hn (by rw [idK_len]; decide)
  clear h1 h2 hg2 hbx hk2 hC hg hA
  go_wp2_with fail
  unfold objV at hcall
  refine hcall.mono ?_
  rintro _ w4 ⟨rfl, hm4, hk4⟩
  have hw4 := addObj_wrk (kind := 1) (x := x) h3 hge hk4 (by unfold Pd.add; rw [objF_upd]; exact hm4)
  have c2 : w4.cell? ⟨b1, 2, none⟩ = some (.string ⟨(Sh.idK Sh.K 1 x).toArray⟩) := Cb.cell (hbx3.kept hk4 hb1) 2
  have hk5 : Kx (Only B.mo) w w4 := (hk3.mono (fun _ _ h => h.elim)).trans hk4
  clear hcall h3 hg3 hbx3 hk3 hk4 hm4
  go_wp2
  go_ret
  exact ⟨rfl, hw4, hk5⟩

def ComR (M : Nat → Prop) (w : World) (r : Option Com) (e : Ending) : Prop :=
  match r with
  | none => e = .returned (.tuple #[.pointer none, .int .i64 4])
  | some c => ∃ b, e = .returned (.tuple #[.pointer (some ⟨b, 0, none⟩), .int .i64 0]) ∧ Cmt M w b c

def PtrC (M : Nat → Prop) (w : World) (r : Option Com) (p : Option Addr) : Prop :=
  match r with
  | none => p = none
  | some c => ∃ b, p = some ⟨b, 0, none⟩ ∧ Cmt M w b c

theorem PtrC.kept {M X : Nat → Prop} {w w' : World} {r : Option Com} {p : Option Addr} (h : PtrC M w r p) (hk : Kx X w w') (hX : ∀ k, k < w.heap.size → X k → M k) : PtrC M w' r p := by
  cases r with
  | none => exact h
  | some c =>
    obtain ⟨b, h1, h2⟩ := h
    exact ⟨b, h1, h2.kept hk hX⟩

theorem dref_spec {M : Nat → Prop} {w : World} {fm fp : List UInt8 → Option Value} {g : List UInt8 → Option (Option Com)} {s : List UInt8 → Option Com} (hm : RefF M w fm g) (hp : ComF M w fp s) (k : List UInt8) : ∃ p, drefV fm fp k = .pointer p ∧ PtrC M w (refO g s k) p := by
  unfold drefV refO
  cases hg : g k with
  | none =>
    rw [(hm k).1 hg]
    cases hs : s k with
    | none => exact ⟨none, by rw [(hp k).1 hs]; rfl, rfl⟩
    | some c =>
      obtain ⟨b, h1, h2⟩ := (hp k).2 c hs
      exact ⟨some ⟨b, 0, none⟩, by rw [h1]; rfl, b, rfl, h2⟩
  | some x =>
    cases x with
    | none => exact ⟨none, by rw [(hm k).2.1 hg], rfl⟩
    | some c =>
      obtain ⟨b, h1, h2⟩ := (hm k).2.2 c hg
      exact ⟨some ⟨b, 0, none⟩, by rw [h1]; rfl, b, rfl, h2⟩

theorem drefW_any {M : Nat → Prop} {w w3 : World} {B : Bl} {n : Nat} {S : St} {W : Wk} (h : Wrk M w B n S W) (hkx : Kx (fun _ => False) w w3) (k : List UInt8) (hk : k.length ≤ 1000) :
    Calls Tryz.prog 303 #[.pointer (some ⟨B.d, 0, none⟩), .string ⟨k.toArray⟩] w3 fun e w' => (∃ p, e = .returned (.pointer p) ∧ PtrC M w (W.st.ref k) p) ∧ w' = w3 := by
  obtain ⟨g, f, h1, h2, h3⟩ := h.refs
  obtain ⟨np, fr, h4, h5⟩ := h.past
  have hmx : maxLen = 9223372036854775807 := rfl
  refine (dref_any B.d B.p B.m B.mo B.mc B.mr B.mt n B.po B.pc B.pr B.pt np f fr k w3 (h.dr.kept hkx id) (h.hm.kept hkx id) (h1.kept hkx id) (h.hp.kept hkx id) (h4.kept hkx id) (by omega)).mono ?_
  rintro _ _ ⟨rfl, rfl⟩
  obtain ⟨p, hp, hq⟩ := dref_spec h2 h5 k
  rw [hp, h3]
  exact ⟨⟨p, rfl, hq⟩, rfl⟩

theorem mk_ptr {M : Nat → Prop} {w : World} {f : Int → Option Value} {g : Int → Option Mkd} (h : MksF M w f g) (k : Int) : ∃ p x, (f k).getD zMk = .agg #[.pointer p, .string ⟨x⟩] ∧ PtrC M w (match g k with | some (.com c) => some c | _ => none) p := by
  cases hg : g k with
  | none =>
    rw [(h k).1 hg]
    exact ⟨none, #[], rfl, rfl⟩
  | some m =>
    cases m with
    | blob s =>
      rw [((h k).2.1 s hg).1]
      exact ⟨_, _, rfl, rfl⟩
    | com c =>
      obtain ⟨b, hb, hc⟩ := (h k).2.2 c hg
      rw [hb]
      exact ⟨_, _, rfl, b, rfl, hc⟩

theorem field0 (p : Option Addr) (x : Array UInt8) (w : World) : (Instr.field 314 (.agg #[.pointer p, .string ⟨x⟩]) 0).run Tryz.prog w = .ok (.pointer p) w := by kernel_rfl
theorem field1 (p : Option Addr) (x : Array UInt8) (w : World) : (Instr.field 314 (.agg #[.pointer p, .string ⟨x⟩]) 1).run Tryz.prog w = .ok (.string ⟨x⟩) w := by kernel_rfl

set_option maxHeartbeats 1600000 in
set_option maxRecDepth 100000 in
theorem commitW_any {M : Nat → Prop} {w0 w : World} {B : Bl} {n : Nat} {S : St} {W : Wk} (h : Wrk M w0 B n S W) (hk0 : Kx (fun _ => False) w0 w) (x : Pu.Wh) (hx : WhOk x) :
    Calls Tryz.prog 239 #[.pointer (some ⟨B.q, 0, none⟩), .agg #[.int .i64 x.mark, .string ⟨x.ref.toArray⟩]] w fun e w' => ComR M w0 (Pd.comOf W x) e ∧ Kx (fun _ => False) w w' := by
  obtain ⟨f, hf, hM⟩ := h.marks
  obtain ⟨p1, x1, hv, hp1⟩ := mk_ptr hM x.mark
  have hA := (Kx.refl (fun _ => False) w).alloc (.cells #[.int .i64 x.mark, .string ⟨x.ref.toArray⟩] 154)
  have hbx := Cb.new #[.int .i64 x.mark, .string ⟨x.ref.toArray⟩] 154 w
  have h1 := (h.kept hk0).kept hA
  have hf1 := (hf.kept hk0 id).kept hA id
  obtain ⟨mark, ref⟩ := x
  obtain ⟨⟨m0, m1⟩, hr⟩ := hx
  simp only at *
  have hCO : Pd.comOf W ⟨mark, ref⟩ = if mark = 0 then W.st.ref ref else match W.ms mark with | some (.com c) => some c | _ => none := rfl
  rw [hCO]
  clear hCO
  generalize (match W.ms mark with | some (.com c) => some c | _ => none) = r1 at *
  obtain ⟨r2, hr2⟩ : ∃ r2, W.st.ref ref = r2 := ⟨_, rfl⟩
  rw [hr2]
  have hfl := field0
  go_enter Tryz.func239, Tryz.ntmps239
  go_wp2_with fail
  revert hbx h1 hf1 hA
  generalize w.alloc (.cells #[.int .i64 mark, .string ⟨ref.toArray⟩] 154) = W1
  generalize w.heap.size = b1
  intro hA hbx h1 hf1
  refine wp_region_quiet_tail (C := fun w' => Kx (fun _ => False) W1 w') 6 (by kernel_rfl) (by kernel_rfl) (Kx.refl _ _).drew ?_
  refine quiet_val rfl (.pointer (some ⟨B.q, 0, none⟩)) (fun w' hC => by go_simp) ?_
  refine quiet_val rfl (.pointer (some ⟨B.q, 0, none⟩)) (fun w' hC => by go_simp) ?_
  refine quiet_val rfl (.pointer (some ⟨B.q, 2, none⟩)) (fun w' hC => by go_simp) ?_
  refine quiet_val rfl (.map (some B.kb)) (fun w' hC => by
    have hc0 : w'.cell? ⟨B.q, 2, none⟩ = some (.map (some B.kb)) := Cb.cell (h1.wq.kept hC id) 2
    go_simp) ?_
  refine quiet_val rfl (.pointer (some ⟨b1, 0, none⟩)) (fun w' hC => by go_simp) ?_
  refine quiet_val rfl (.int .i64 mark) (fun w' hC => by
    have hc0 : w'.cell? ⟨b1, 0, none⟩ = some (.int .i64 mark) := Cb.cell (hbx.kept hC id) 0
    go_simp) ?_
  refine wpQuiet_nil (fun w' hC => ?_)
  simp only [Act.put, sI, sS, sZ, List.drop_succ_cons, List.drop_zero]
  have h2 := h1.kept hC
  have hf2 := hf1.kept hC id
  have hbx2 := hbx.kept hC id
  have hk2 := hA.trans hC
  have c0 : w'.cell? ⟨b1, 0, none⟩ = some (.int .i64 mark) := Cb.cell hbx2 0
  clear h1 hf1 hbx hA hC hM
  by_cases hm0 : mark = 0
  · subst hm0
    go_wp2_with (refine wpList_lookI rfl _ _ 168 rfl 314 (by kernel_rfl) (by kernel_rfl) zMk (by kernel_rfl) B.kb n f rfl hf2 0 rfl (by omega) (by omega) ?_)
    refine wp_region_quiet_tail (C := fun w3 => Kx (fun _ => False) w' w3) 6 (by kernel_rfl) (by kernel_rfl) (Kx.refl _ _).drew ?_
    refine quiet_val rfl (.pointer (some ⟨B.q, 0, none⟩)) (fun w3 hC => by go_simp) ?_
    refine quiet_val rfl (.pointer (some ⟨B.q, 0, none⟩)) (fun w3 hC => by go_simp) ?_
    refine quiet_val rfl (.pointer (some ⟨B.q, 0, none⟩)) (fun w3 hC => by go_simp) ?_
    refine quiet_val rfl (.pointer (some ⟨B.d, 0, none⟩)) (fun w3 hC => by
      have hc0 : w3.cell? ⟨B.q, 0, none⟩ = some (.pointer (some ⟨B.d, 0, none⟩)) := Cb.cell (h2.wq.kept hC id) 0
      go_simp) ?_
    refine quiet_val rfl (.pointer (some ⟨b1, 1, none⟩)) (fun w3 hC => by go_simp) ?_
    refine quiet_val rfl (.string ⟨ref.toArray⟩) (fun w3 hC => by
      have hc0 : w3.cell? ⟨b1, 1, none⟩ = some (.string ⟨ref.toArray⟩) := Cb.cell (hbx2.kept hC id) 1
      go_simp) ?_
    refine wpQuiet_nil (fun w3 hC => ?_)
    simp only [Act.put, sI, sS, sZ, List.drop_succ_cons, List.drop_zero]
    have hk3 := hk2.trans hC
    have hcall := drefW_any h (hk0.trans hk3) ref hr
    rw [hr2] at hcall
    clear h2 hC hbx2 hf2 hk2
    go_wp2_with fail
    refine hcall.mono ?_
    rintro _ _ ⟨⟨p2, rfl, hp2⟩, rfl⟩
    clear hcall
    cases r2 with
    | none =>
      obtain rfl : p2 = none := hp2
      go_wp2
      go_ret2
      try rw [if_pos rfl]
      exact ⟨rfl, hk3⟩
    | some c =>
      obtain ⟨b, rfl, hc⟩ := hp2
      go_wp2
      go_ret2
      try rw [if_pos rfl]
      exact ⟨⟨b, rfl, hc⟩, hk3⟩
  · cases r1 with
    | none =>
      obtain rfl : p1 = none := hp1
      go_wp2_with (refine wpList_lookI rfl _ _ 168 rfl 314 (by kernel_rfl) (by kernel_rfl) zMk (by kernel_rfl) B.kb n f rfl hf2 mark rfl (by omega) (by omega) ?_)
      go_ret2
      try rw [if_neg hm0]
      exact ⟨rfl, hk2⟩
    | some c =>
      obtain ⟨b, rfl, hc⟩ := hp1
      go_wp2_with (refine wpList_lookI rfl _ _ 168 rfl 314 (by kernel_rfl) (by kernel_rfl) zMk (by kernel_rfl) B.kb n f rfl hf2 mark rfl (by omega) (by omega) ?_)
      go_ret2
      try rw [if_neg hm0]
      exact ⟨⟨b, rfl, hc⟩, hk2⟩

def FirR (M : Nat → Prop) (w : World) (r : Option (Option Com)) (e : Ending) : Prop :=
  match r with
  | none => e = .returned (.tuple #[.pointer none, .int .i64 4])
  | some none => e = .returned (.tuple #[.pointer none, .int .i64 0])
  | some (some c) => ∃ b, e = .returned (.tuple #[.pointer (some ⟨b, 0, none⟩), .int .i64 0]) ∧ Cmt M w b c

set_option maxHeartbeats 1600000 in
set_option maxRecDepth 100000 in
theorem firstW_any {M : Nat → Prop} {w0 w : World} {B : Bl} {n : Nat} {S : St} {W : Wk} (h : Wrk M w0 B n S W) (hk0 : Kx (fun _ => False) w0 w) (c : Pu.Co) (hc : CoOk c) (am ac : Option Addr) (nm cm nc cc : Nat) :
    Calls Tryz.prog 295 #[.pointer (some ⟨B.q, 0, none⟩), .agg (coC c (.slice am nm cm) (.slice ac nc cc))] w fun e w' => FirR M w0 (Pd.first W c) e ∧ Kx (fun _ => False) w w' := by
  obtain ⟨word, ref, mark, ⟨an, ama, at'⟩, data, ⟨fm, fr⟩, ms, cs⟩ := c
  have hwh : WhOk ⟨fm, fr⟩ := hc.frm
  have href : ref.length ≤ 1000 := hc.ref
  unfold coC
  simp only
  have hF : Pd.first W ⟨word, ref, mark, ⟨an, ama, at'⟩, data, ⟨fm, fr⟩, ms, cs⟩ = if fm = 0 ∧ fr = [] then some (W.st.ref ref) else (Pd.comOf W ⟨fm, fr⟩).map some := rfl
  rw [hF]
  have hA := (Kx.refl (fun _ => False) w).alloc (.cells #[.string ⟨word.toArray⟩, .string ⟨ref.toArray⟩, .int .i64 mark, .string ⟨an.toArray⟩, .string ⟨ama.toArray⟩, .int .i64 at', .string ⟨data.toArray⟩, .int .i64 fm, .string ⟨fr.toArray⟩, .slice am nm cm, .slice ac nc cc] 158)
  have hbx := Cb.new #[.string ⟨word.toArray⟩, .string ⟨ref.toArray⟩, .int .i64 mark, .string ⟨an.toArray⟩, .string ⟨ama.toArray⟩, .int .i64 at', .string ⟨data.toArray⟩, .int .i64 fm, .string ⟨fr.toArray⟩, .slice am nm cm, .slice ac nc cc] 158 w
  have h1 := (h.kept hk0).kept hA
  have hcom := commitW_any h (hk0.trans hA) ⟨fm, fr⟩ hwh
  simp only at hcom
  clear hF hc
  obtain ⟨r2, hr2⟩ : ∃ r2, W.st.ref ref = r2 := ⟨_, rfl⟩
  rw [hr2]
  generalize Pd.comOf W ⟨fm, fr⟩ = r1 at *
  by_cases hz : fm = 0 ∧ fr = []
  · obtain ⟨rfl, rfl⟩ := hz
    rw [if_pos ⟨rfl, rfl⟩]
    clear hcom
    go_enter Tryz.func295, Tryz.ntmps295
    go_wp2_with fail
    revert hA hbx h1
    generalize w.alloc (.cells #[.string ⟨word.toArray⟩, .string ⟨ref.toArray⟩, .int .i64 mark, .string ⟨an.toArray⟩, .string ⟨ama.toArray⟩, .int .i64 at', .string ⟨data.toArray⟩, .int .i64 0, .string ⟨#[]⟩, .slice am nm cm, .slice ac nc cc] 158) = W1
    generalize w.heap.size = b1
    intro hA hbx h1
    refine wp_region_quiet_tail (C := fun w' => Kx (fun _ => False) W1 w') 6 (by kernel_rfl) (by kernel_rfl) (Kx.refl _ _).drew ?_
    refine quiet_val rfl (.pointer (some ⟨B.q, 0, none⟩)) (fun w' hC => by go_simp) ?_
    refine quiet_val rfl (.pointer (some ⟨B.q, 0, none⟩)) (fun w' hC => by go_simp) ?_
    refine quiet_val rfl (.pointer (some ⟨B.q, 0, none⟩)) (fun w' hC => by go_simp) ?_
    refine quiet_val rfl (.pointer (some ⟨B.d, 0, none⟩)) (fun w' hC => by
      have hc0 : w'.cell? ⟨B.q, 0, none⟩ = some (.pointer (some ⟨B.d, 0, none⟩)) := Cb.cell (h1.wq.kept hC id) 0
      go_simp) ?_
    refine quiet_val rfl (.pointer (some ⟨b1, 1, none⟩)) (fun w' hC => by go_simp) ?_
    refine quiet_val rfl (.string ⟨ref.toArray⟩) (fun w' hC => by
      have hc0 : w'.cell? ⟨b1, 1, none⟩ = some (.string ⟨ref.toArray⟩) := Cb.cell (hbx.kept hC id) 1
      go_simp) ?_
    refine wpQuiet_nil (fun w3 hC => ?_)
    simp only [Act.put, sI, sS, sZ, List.drop_succ_cons, List.drop_zero]
    have hk3 := hA.trans hC
    have hcall := drefW_any h (hk0.trans hk3) ref href
    rw [hr2] at hcall
    clear h1 hC hbx hA
    go_wp2_with fail
    refine hcall.mono ?_
    rintro _ _ ⟨⟨p2, rfl, hp2⟩, rfl⟩
    clear hcall
    cases r2 with
    | none =>
      obtain rfl : p2 = none := hp2
      go_wp2
      go_ret2
      exact ⟨rfl, hk3⟩
    | some c =>
      obtain ⟨b, rfl, hc⟩ := hp2
      go_wp2
      go_ret2
      exact ⟨⟨b, rfl, hc⟩, hk3⟩
  · rw [if_neg hz]
    by_cases hf0 : fm = 0
    · have hfr : ¬ fr = [] := fun e => hz ⟨hf0, e⟩
      subst hf0
      clear hz
      go_enter Tryz.func295, Tryz.ntmps295
      go_wp2_with fail
      refine hcom.mono ?_
      rintro e w2 ⟨hR, hk2⟩
      have hk3 := hA.trans hk2
      clear hcom hA hbx h1 hk2
      cases r1 with
      | none =>
        obtain rfl := hR
        go_wp2
        go_ret2
        exact ⟨rfl, hk3⟩
      | some c =>
        obtain ⟨b, rfl, hc⟩ := hR
        go_wp2
        go_ret2
        exact ⟨⟨b, rfl, hc⟩, hk3⟩
    · clear hz
      go_enter Tryz.func295, Tryz.ntmps295
      go_wp2_with fail
      refine hcom.mono ?_
      rintro e w2 ⟨hR, hk2⟩
      have hk3 := hA.trans hk2
      clear hcom hA hbx h1 hk2
      cases r1 with
      | none =>
        obtain rfl := hR
        go_wp2
        go_ret2
        exact ⟨rfl, hk3⟩
      | some c =>
        obtain ⟨b, rfl, hc⟩ := hR
        go_wp2
        go_ret2
        exact ⟨⟨b, rfl, hc⟩, hk3⟩

end Go.Proofs.YtepgoppgblfjbaaGreatDoor
