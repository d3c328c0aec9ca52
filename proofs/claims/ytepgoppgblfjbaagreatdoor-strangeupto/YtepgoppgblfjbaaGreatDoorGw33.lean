import Derived.Test.YtepgoppgblfjbaaGreatDoorGw32
namespace Go.Proofs.YtepgoppgblfjbaaGreatDoor
open Go.RowKit Go.Maps Go.WideMaps

section
variable {P : Program} {K : TypeId} {ops : Array Oper} {C : World → Prop}
theorem wq_lookSG {Q : Act → Prop} {a : Act} {o : Oper} {r : List Oper} (hw : Region.wanted o (yielded ops a.tmps) = true) (m x : Operand) (t : TypeId) (hop : o.op = Op.lookup t m x false) (e : TypeId) (hK : P.underlying K = some .string) (ht : P.underlying t = some (.map K e)) (z : Value) (hz : ∀ w, (zeroValue e).run P w = .ok z w)
    (b n : Nat) (f : List UInt8 → Option Value) (hm : a.eval m = .map (some b)) (h : ∀ w, C w → MapS P K w b n f) (k : List UInt8) (hx : a.eval x = .string ⟨k.toArray⟩) (hk : k.length ≤ maxLen)
    (hc : WQ P ops C Q r (a.put o.dst ((f k).getD z))) : WQ P ops C Q (o :: r) a := by
  refine wq_valG hw _ (fun w' hC => ?_) hc
  obtain ⟨D, hown, ha⟩ := h w' hC
  obtain ⟨v, ps, hrun, hv⟩ := hown.lookup (string_keyed hK) ht (hz w') (zd := .held z) (zp := []) rfl (keyOf_string_mk (s := ⟨k.toArray⟩) hK (by simpa [ByteArray.size] using hk))
  rw [show (⟨k.toArray⟩ : ByteArray).data.toList = k from rfl, ha] at hv
  obtain rfl := held_of hv
  simp [execOp, hop, hm, hx, hrun, Result.andThen]
end

def HisR (w0 w w' : World) (wk mk nm h : Nat) (vc : Value) (l : List Ocm) (tm : Bool) (n1 n2 d : Nat) : Prop :=
  ∃ vc' l' tm' n1' n2' f1' f2', SP w0 w w' wk mk nm h vc l tm n1 vc' l' tm' n1' n2' f1' f2' 0 ∧ n1 ≤ n1' ∧ n2' + 2 * n1 ≤ n2 + 2 * n1' ∧ (tm = true → n1' = n1) ∧ (tm = false → n1' ≤ 60 + 61 * (60 - d))

set_option maxHeartbeats 3200000 in
set_option maxRecDepth 100000 in
theorem addHistory_any {M : Nat → Prop} {w0 : World} {wk mk nm h o c r t n : Nat} {S : St} (hs : Sto M w0 h o c r t n S) (hcont : ∀ id x, S.obj id = some x → x.2.length ≤ 14000) (ref : List UInt8) (hr : ref.length ≤ 1000) (N : Nat) (hN : N + 100000 ≤ maxLen) :
    ∀ (k d : Nat), d + k = 60 → ∀ {w : World} {vc : Value} {l : List Ocm} {tm : Bool} {n1 n2 : Nat} {f1 f2 : List UInt8 → Option Value}, Es w0 w wk mk nm h vc l tm n1 n2 f1 f2 → ∀ (cb : Nat), Good M w0 cb → (tm = false → n1 ≤ l.length) → n1 ≤ 4000 → n2 ≤ N + 2 * n1 →
    Calls Tryz.prog 140 #[.pointer (some ⟨wk, 0, none⟩), .string ⟨ref.toArray⟩, .pointer (some ⟨cb, 0, none⟩), .int .i64 (d : Int)] w fun x w' => x = .returned (.tuple #[]) ∧ HisR w0 w w' wk mk nm h vc l tm n1 n2 d := by
  have hmx : maxLen = 9223372036854775807 := rfl
  intro k
  induction k with
  | zero =>
    intro d hd w vc l tm n1 n2 f1 f2 e cb hgd hn1 hn4 hn2
    obtain rfl : d = 60 := by omega
    obtain ⟨eM, hkM⟩ := e.ew.much
    have hkM2 : Kx (ET wk mk nm vc) w (w.setCell ⟨wk, 5, none⟩ (.bool true)) := hkM.mono (fun _ _ q => .inl q)
    have hP := (SP.refl e).turn (d2 := 0) eM hkM2 (fun k x => .inl x) (fun _ => rfl) (fun x => by cases x)
    have b5 := Cb.cell e.ew.blk 5
    have z5 := Cb.frozen e.ew.blk 5
    have y5 := Cb.cell eM.blk 5
    have hfew := e.ew.few
    clear eM hkM
    go_enter Tryz.func140, Tryz.ntmps140
    go_wp2_with fail
    generalize hwM : w.setCell ⟨wk, 5, none⟩ (.bool true) = wM at *
    clear hwM
    refine wp_region_wq (C := fun w' => Kx (fun _ => False) wM w') 16 (by kernel_rfl) (by kernel_rfl) (Kx.refl _ _).drew ?_
    simp only [List.take_succ_cons, List.take_zero, List.drop_succ_cons, List.drop_zero]
    refine wq_val rfl (.pointer (some ⟨wk, 0, none⟩)) (fun w' hC => by go_simp) ?_
    simp only [Act.put, sI, sS, sZ]
    refine wq_val rfl (.pointer (some ⟨wk, 0, none⟩)) (fun w' hC => by go_simp) ?_
    simp only [Act.put, sI, sS, sZ]
    refine wq_val rfl (.pointer (some ⟨wk, 5, none⟩)) (fun w' hC => by go_simp) ?_
    simp only [Act.put, sI, sS, sZ]
    refine wq_val rfl (.bool true) (fun w' hC => by
      have hc0 := (hC.cell (p := ⟨wk, 5, none⟩) (lt_of_cell (p := ⟨wk, 5, none⟩) y5) id).trans y5
      go_simp) ?_
    simp only [Act.put, sI, sS, sZ]
    refine wq_val rfl (.bool true) (fun w' hC => by go_simp) ?_
    simp only [Act.put, sI, sS, sZ]
    iterate 11 (refine wq_skip (by kernel_rfl) ?_; simp only [Act.put, sI, sS, sZ])
    refine wq_nil (fun w' hC => ?_)
    have hF : HisR w0 w w' wk mk nm h vc l tm n1 n2 60 := ⟨_, _, _, _, _, _, _, hP.same hC, Nat.le_refl _, Nat.le_refl _, fun _ => rfl, fun x => by have := hn1 x; omega⟩
    clear hC y5 b5 z5
    go_wp2
    refine bodyPost_ret (results_none rfl _ _ _) rfl ?_
    exact ⟨rfl, hF⟩
  | succ k ih =>
    intro d hd w vc l tm n1 n2 f1 f2 e cb hgd hn1 hn4 hn2
    have hd60 : ¬ (d : Int) = 60 := by omega
    have b5 := Cb.cell e.ew.blk 5
    have b3 := Cb.cell e.ew.blk 3
    have hfew := e.ew.few
    have hK : ∀ {w' : World} {p : Addr} {v : Value}, Kx (fun _ => False) w w' → w.cell? p = some v → w'.cell? p = some v := fun hk hc => (hk.cell (lt_of_cell hc) id).trans hc
    cases tm with
    | true =>
      have HP := SP.refl e
      go_enter Tryz.func140, Tryz.ntmps140
      go_wp2_with fail
      refine wp_region_wq (C := fun w' => Kx (fun _ => False) w w') 16 (by kernel_rfl) (by kernel_rfl) (Kx.refl _ _).drew ?_
      simp only [List.take_succ_cons, List.take_zero, List.drop_succ_cons, List.drop_zero]
      refine wq_val rfl (.pointer (some ⟨wk, 0, none⟩)) (fun w' hC => by go_simp) ?_
      simp only [Act.put, sI, sS, sZ]
      refine wq_val rfl (.pointer (some ⟨wk, 0, none⟩)) (fun w' hC => by go_simp) ?_
      simp only [Act.put, sI, sS, sZ]
      refine wq_val rfl (.pointer (some ⟨wk, 5, none⟩)) (fun w' hC => by go_simp) ?_
      simp only [Act.put, sI, sS, sZ]
      refine wq_val rfl (.bool true) (fun w' hC => by
        have hc0 := hK hC b5
        go_simp) ?_
      simp only [Act.put, sI, sS, sZ]
      refine wq_val rfl (.bool true) (fun w' hC => by go_simp) ?_
      simp only [Act.put, sI, sS, sZ]
      iterate 11 (refine wq_skip (by kernel_rfl) ?_; simp only [Act.put, sI, sS, sZ])
      refine wq_nil (fun w' hC => ?_)
      have hF : HisR w0 w w' wk mk nm h vc l true n1 n2 d := ⟨_, _, _, _, _, _, _, HP.same hC, Nat.le_refl _, Nat.le_refl _, fun _ => rfl, fun x => by cases x⟩
      clear hC b5 b3
      go_wp2
      refine bodyPost_ret (results_none rfl _ _ _) rfl ?_
      exact ⟨rfl, hF⟩
    | false =>
      have hn1' := hn1 rfl
      obtain ⟨⟨cx, cid, fv, fl, ap, cp, ps, au, msg, hcb0, _, _, _, hpar0, hpl, hgds, hgb⟩, _⟩ := hgd.out
      have hcb := hcb0.kept e.kx id
      have k2 := Cb.cell hcb 2
      have k4 := Cb.cell hcb 4
      obtain ⟨q, hgv, hq⟩ := e.ew.look cid
      have hmks := e.ew.mks
      have hidl : cid.length ≤ maxLen := by have := hgb.id; omega
      have HP := SP.refl e
      have HPar : Hid (ps ≠ [] → ∃ g o, ap = some ⟨g, o, none⟩ ∧ ∀ k x, (ps.map ptrV)[k]? = some x → w0.cell? ⟨g, o + k, none⟩ = some x) := fun hn => let ⟨g, o, a1, _, _, a4⟩ := hpar0 hn; ⟨g, o, a1, a4⟩
      have HG : Hid (∀ p ∈ ps, Good M w0 p) := hgds
      clear hpar0 hgds hgb hcb
      go_enter Tryz.func140, Tryz.ntmps140
      go_wp2_with fail
      refine wp_region_wq (C := fun w' => Kx (fun _ => False) w w') 16 (by kernel_rfl) (by kernel_rfl) (Kx.refl _ _).drew ?_
      simp only [List.take_succ_cons, List.take_zero, List.drop_succ_cons, List.drop_zero]
      refine wq_val rfl (.pointer (some ⟨wk, 0, none⟩)) (fun w' hC => by go_simp) ?_
      simp only [Act.put, sI, sS, sZ]
      refine wq_val rfl (.pointer (some ⟨wk, 0, none⟩)) (fun w' hC => by go_simp) ?_
      simp only [Act.put, sI, sS, sZ]
      refine wq_val rfl (.pointer (some ⟨wk, 5, none⟩)) (fun w' hC => by go_simp) ?_
      simp only [Act.put, sI, sS, sZ]
      refine wq_val rfl (.bool false) (fun w' hC => by
        have hc0 := hK hC b5
        go_simp) ?_
      simp only [Act.put, sI, sS, sZ]
      refine wq_val rfl (.bool false) (fun w' hC => by go_simp) ?_
      simp only [Act.put, sI, sS, sZ]
      refine wq_valG (by kernel_rfl) (.pointer (some ⟨wk, 0, none⟩)) (fun w' hC => by go_simp) ?_
      simp only [Act.put, sI, sS, sZ]
      refine wq_valG (by kernel_rfl) (.pointer (some ⟨wk, 0, none⟩)) (fun w' hC => by go_simp) ?_
      simp only [Act.put, sI, sS, sZ]
      refine wq_valG (by kernel_rfl) (.pointer (some ⟨wk, 3, none⟩)) (fun w' hC => by go_simp) ?_
      simp only [Act.put, sI, sS, sZ]
      refine wq_valG (by kernel_rfl) (.map (some mk)) (fun w' hC => by
        have hc0 := hK hC b3
        go_simp) ?_
      simp only [Act.put, sI, sS, sZ]
      refine wq_valG (by kernel_rfl) (.pointer (some ⟨cb, 0, none⟩)) (fun w' hC => by go_simp) ?_
      simp only [Act.put, sI, sS, sZ]
      refine wq_valG (by kernel_rfl) (.pointer (some ⟨cb, 0, none⟩)) (fun w' hC => by go_simp) ?_
      simp only [Act.put, sI, sS, sZ]
      refine wq_valG (by kernel_rfl) (.pointer (some ⟨cb, 0, none⟩)) (fun w' hC => by go_simp) ?_
      simp only [Act.put, sI, sS, sZ]
      refine wq_valG (by kernel_rfl) (.pointer (some ⟨cb, 2, none⟩)) (fun w' hC => by go_simp) ?_
      simp only [Act.put, sI, sS, sZ]
      refine wq_valG (by kernel_rfl) (.string ⟨cid.toArray⟩) (fun w' hC => by
        have hc0 := hK hC k2
        go_simp) ?_
      simp only [Act.put, sI, sS, sZ]
      refine wq_lookSG (K := 9) (by kernel_rfl) _ _ 196 rfl 3 under9 under196 (.int .i64 0) zero3 mk n1 f1 rfl (fun w' hC => hmks.kept hC id) cid rfl hidl ?_
      simp only [Act.put, sI, sS, sZ]
      rw [hgv]
      by_cases hq0 : 0 < q
      · have hq1 : (0 : Int) < (q : Int) := by omega
        refine wq_valG (by kernel_rfl) (.bool true) (fun w' hC => by go_simp) ?_
        simp only [Act.put, sI, sS, sZ]
        refine wq_nil (fun w' hC => ?_)
        have hF : HisR w0 w w' wk mk nm h vc l false n1 n2 d := ⟨_, _, _, _, _, _, _, HP.same hC, Nat.le_refl _, Nat.le_refl _, fun _ => rfl, fun x => by omega⟩
        clear hC b5 b3 k2 k4 hmks
        go_wp2
        refine bodyPost_ret (results_none rfl _ _ _) rfl ?_
        exact ⟨rfl, hF⟩
      · have hq1 : ¬ (0 : Int) < (q : Int) := by omega
        refine wq_valG (by kernel_rfl) (.bool false) (fun w' hC => by go_simp) ?_
        simp only [Act.put, sI, sS, sZ]
        refine wq_nil (fun w1 hC => ?_)
        have c4 := hK hC k4
        have HP1 := HP.same hC
        clear b5 b3 k2 k4 hmks hgv hq hK HP
        go_wp2_with fail
        go_loopw [37] (fun iv wr => ∃ (i : Nat) (vc1 : Value) (l1 : List Ocm) (tm1 : Bool) (n1a n2a : Nat) (f1a f2a : List UInt8 → Option Value), iv = .int .i64 i ∧ i ≤ ps.length ∧ SP w0 w wr wk mk nm h vc l false n1 vc1 l1 tm1 n1a n2a f1a f2a 0 ∧ n1 ≤ n1a ∧ n2a + 2 * n1 ≤ n2 + 2 * n1a ∧ n1a ≤ 60 + 61 * (60 - (d + 1))) (fun iv _ => ps.length - (intOf iv).toNat)
        case atStart => exact ⟨0, _, _, _, _, _, _, _, rfl, by omega, HP1, Nat.le_refl _, Nat.le_refl _, by omega⟩
        case round =>
          obtain ⟨i, vc1, l1, tm1, n1a, n2a, f1a, f2a, rfl, hi, hP, hna, hnb, hnc⟩ := hrel
          by_cases hlt : i < ps.length
          · have hlt2 : (i : Int) < (ps.length : Int) := by omega
            obtain ⟨gp, op, hap, hcl⟩ := HPar.out (fun q => by rw [q] at hlt; simp at hlt)
            subst hap
            have hcp0 := hcl i (ptrV ps[i]) (by simp [hlt])
            have hcp := (hP.es.kx.cell (p := ⟨gp, op + i, none⟩) (lt_of_cell (p := ⟨gp, op + i, none⟩) hcp0) id).trans hcp0
            unfold ptrV at hcp
            have hgp := HG.out ps[i] (List.getElem_mem hlt)
            generalize ps[i] = pb at *
            have hcall := ih (d + 1) (by omega) hP.es pb hgp (fun x => by have := hP.cnt x; omega) (by omega) (by omega)
            have hd1 : ((d : Int) + 1) = ((d + 1 : Nat) : Int) := by omega
            rw [← hd1] at hcall
            have hdk : d ≤ 60 := by omega
            clear hcl hcp0 hd1
            go_wp2_with fail
            refine hcall.mono ?_
            rintro _ w6 ⟨rfl, vc6, l6, tm6, n16, n26, f16, f26, hP6, ha6, hb6, hc6, hd6⟩
            have hP7 := hP.trans hP6
            have hb7 : n16 ≤ 60 + 61 * (60 - (d + 1)) := by
              cases ht : tm1 with
              | true => have := hc6 ht; omega
              | false => exact hd6 ht
            clear hcall hP6 hcp
            go_wp2
            go_roundw
            case rel => exact ⟨i + 1, vc6, l6, tm6, n16, n26, f16, f26, by go_num, hlt, hP7, by omega, by omega, hb7⟩
            case measure => simp [intOf]; omega
          · have hlt2 : ¬ (i : Int) < (ps.length : Int) := by omega
            have hcall := eaddCommit_any hs hcont hP.es ref hr cb hgd (by omega) (by omega)
            clear c4
            go_wp2_with fail
            refine hcall.mono ?_
            rintro _ w6 ⟨rfl, vc6, l6, tm6, n16, n26, f16, f26, hP6, ha6, hb6, hc6⟩
            have hF : HisR w0 w w6 wk mk nm h vc l false n1 n2 d := ⟨vc6, l6, tm6, n16, n26, f16, f26, hP.trans hP6, by omega, by omega, (fun x => by cases x), fun _ => by omega⟩
            clear hcall hP6
            go_wp2
            go_end0
            exact ⟨rfl, hF⟩

set_option maxHeartbeats 400000 in
theorem hrefOf_at {M : Nat → Prop} {w0 w : World} {h o c r t n : Nat} {S : St} (hs : Sto M w0 h o c r t n S) (hk : Kx (fun _ => False) w0 w) (name : List UInt8) (hi : name.length ≤ maxLen) :
    Calls Tryz.prog 139 #[.pointer (some ⟨h, 0, none⟩), .string ⟨name.toArray⟩] w fun e w' => w' = w ∧ ((S.ref name = none ∧ e = .returned (.pointer none)) ∨ ∃ x b, S.ref name = some x ∧ e = .returned (.pointer (some ⟨b, 0, none⟩)) ∧ Cmt M w0 b x) := by
  obtain ⟨f, hf0, hF⟩ := hs.ref
  have hf := MapS.kept hf0 hk id
  have c20 : w0.cell? ⟨h, 2, none⟩ = some (.map (some r)) := Cb.cell hs.hi 2
  have c2 := (hk.cell (p := ⟨h, 2, none⟩) (lt_of_cell (p := ⟨h, 2, none⟩) c20) id).trans c20
  clear hf0 c20
  cases hc : S.ref name with
  | none =>
    have hgv : (f name).getD (.pointer none) = .pointer none := by rw [(hF name).1 hc]; rfl
    go_enter Tryz.func139, Tryz.ntmps139
    go_wp2_with (refine wpList_lookS rfl _ _ 147 rfl 101 (by kernel_rfl) (by kernel_rfl) (.pointer none) (by kernel_rfl) r n f rfl hf name rfl hi ?_)
    go_ret
    exact ⟨by first | rfl | trivial, .inl ⟨by first | rfl | trivial, rfl⟩⟩
  | some x =>
    obtain ⟨b, hb, hC⟩ := (hF name).2 x hc
    unfold ptrV at hb
    have hgv : (f name).getD (.pointer none) = .pointer (some ⟨b, 0, none⟩) := by rw [hb]; rfl
    clear hb
    go_enter Tryz.func139, Tryz.ntmps139
    go_wp2_with (refine wpList_lookS rfl _ _ 147 rfl 101 (by kernel_rfl) (by kernel_rfl) (.pointer none) (by kernel_rfl) r n f rfl hf name rfl hi ?_)
    go_ret
    exact ⟨rfl, .inr ⟨x, b, rfl, rfl, hC⟩⟩

def TopR (w0 w w' : World) (wk mk nm h : Nat) (vc : Value) (l : List Ocm) (tm : Bool) (n1 N : Nat) : Prop :=
  ∃ vc' l' tm' n1' n2' f1' f2', SP w0 w w' wk mk nm h vc l tm n1 vc' l' tm' n1' n2' f1' f2' 0 ∧ n1' ≤ 3720 ∧ n2' ≤ N + 2 * n1'

theorem row2b_cell {w : World} {base : Nat} {v : Value} {ks : List (List UInt8)} {g : List UInt8 → List UInt8} (h : w.ownsRow base 46 2 v ks.length (ks.flatMap fun k => [.string ⟨k.toArray⟩, .string ⟨(g k).toArray⟩])) (k : Nat) (hk : k < ks.length) :
    ∃ b cap, v = .slice (some ⟨b, 0, none⟩) ks.length cap ∧ w.cell? ⟨b, k * 2, none⟩ = some (.string ⟨ks[k].toArray⟩) ∧ w.cell? ⟨b, k * 2 + 1, none⟩ = some (.string ⟨(g ks[k]).toArray⟩) := by
  rcases h.2 with ⟨_, h0⟩ | ⟨b, cap, cur, h1, hbg, hg, hc, hm, hs, ht⟩
  · omega
  · have hcell : ∀ i x, (ks.flatMap fun k => [Value.string ⟨k.toArray⟩, .string ⟨(g k).toArray⟩])[i]? = some x → w.cell? ⟨b, i, none⟩ = some x := fun i x hx => by
      have hkl := (List.getElem?_eq_some_iff.1 hx).1
      rw [← ht] at hkl
      rw [List.length_take] at hkl
      rw [← ht, List.getElem?_take_of_lt (by omega)] at hx
      unfold World.cell?
      rw [hg]
      simpa using hx
    have hN := flatN_at (fun k : List UInt8 => [Value.string ⟨k.toArray⟩, .string ⟨(g k).toArray⟩]) 2 (fun _ => rfl) ks k
    refine ⟨b, cap, h1, hcell _ _ ?_, hcell _ _ ?_⟩
    · have := hN 0 hk (by omega)
      rw [Nat.add_zero] at this
      rw [this]; rfl
    · have := hN 1 hk (by omega)
      rw [this]; rfl

set_option maxHeartbeats 3200000 in
set_option maxRecDepth 100000 in
theorem addRefs_any {M : Nat → Prop} {w0 w : World} {wk mk nm h o c r t n : Nat} {S : St} {vc : Value} {l : List Ocm} {tm : Bool} {n1 n2 : Nat} {f1 f2 : List UInt8 → Option Value} (hs : Sto M w0 h o c r t n S) (hcont : ∀ id x, S.obj id = some x → x.2.length ≤ 14000) (hb : StB S) (hn : n ≤ 30000000000)
    (e : Es w0 w wk mk nm h vc l tm n1 n2 f1 f2) (hn1 : tm = false → n1 ≤ l.length) (h37 : n1 ≤ 3720) (N : Nat) (hn2 : n2 ≤ N + 2 * n1) (hN : N ≤ 100000000000) :
    Calls Tryz.prog 95 #[.pointer (some ⟨wk, 0, none⟩)] w fun x w' => x = .returned (.tuple #[]) ∧ TopR w0 w w' wk mk nm h vc l tm n1 (N + n) := by
  have hmx : maxLen = 9223372036854775807 := rfl
  have b0 := Cb.cell e.ew.blk 0
  have hcall := hrefs_any (hs.kept e.kx (fun _ _ x => x.elim) (fun _ _ => id)) hn
  go_enter Tryz.func95, Tryz.ntmps95
  go_wp2_with fail
  refine hcall.mono ?_
  rintro _ w1 ⟨v, ks, rfl, hKL, hkn, hrow, hk1⟩
  clear hcall b0
  have e1 := e.same hk1
  have hold := e.old
  obtain ⟨av, cv, hav⟩ := row_shape hrow
  subst hav
  go_wp2_with fail
  go_loopw [12] (fun iv wr => ∃ (k : Nat) (vc1 : Value) (l1 : List Ocm) (tm1 : Bool) (n1a n2a : Nat) (f1a f2a : List UInt8 → Option Value), iv = .int .i64 k ∧ k ≤ ks.length ∧ SP w0 w1 wr wk mk nm h vc l tm n1 vc1 l1 tm1 n1a n2a f1a f2a 0 ∧ n1a ≤ 3720 ∧ n2a ≤ N + k + 2 * n1a) (fun iv _ => ks.length - (intOf iv).toNat)
  case atStart => exact ⟨0, _, _, _, _, _, _, _, rfl, by omega, SP.refl e1, h37, by omega⟩
  case round =>
    obtain ⟨k, vc1, l1, tm1, n1a, n2a, f1a, f2a, rfl, hk, hP, hna, hnb⟩ := hrel
    by_cases hlt : k < ks.length
    · have hlt2 : (k : Int) < (ks.length : Int) := by omega
      have hrow2 := own_keptB hrow hP.kx (fun j hj y => by have := (hrow.lt j hj).1; have := hold j y; omega)
      obtain ⟨rb, rc, he, r0, r1⟩ := row2b_cell (g := idAt S.ref) hrow2 k hlt
      cases he
      have hkm : S.ref ks[k] ≠ none := by
        have h2 := (hKL.mem ks[k]).1 (List.getElem_mem hlt)
        intro h0
        rw [h0] at h2
        cases h2
      have hkl := hb.ref _ hkm
      generalize idAt S.ref ks[k] = rid at *
      generalize ks[k] = name at *
      have hnl : name.length ≤ maxLen := by omega
      have hA := (Kx.refl (fun _ => False) wr).alloc (.cells #[.string ⟨name.toArray⟩, .string ⟨rid.toArray⟩] 46)
      have hbx := Cb.new #[.string ⟨name.toArray⟩, .string ⟨rid.toArray⟩] 46 wr
      have hPA := hP.same hA
      have holdA := hP.es.old
      have b0 := Cb.cell hPA.es.ew.blk 0
      have hkr := hPA.es.kx
      clear hrow2
      go_wp2_with fail
      clear r0 r1
      have hbb : wr.heap.size < (wr.alloc (.cells #[.string ⟨name.toArray⟩, .string ⟨rid.toArray⟩] 46)).heap.size := by simp
      generalize wr.alloc (.cells #[.string ⟨name.toArray⟩, .string ⟨rid.toArray⟩] 46) = wA at *
      generalize wr.heap.size = bb at *
      have hK : ∀ {w' : World} {p : Addr} {v : Value}, Kx (fun _ => False) wA w' → wA.cell? p = some v → w'.cell? p = some v := fun hk hc => (hk.cell (lt_of_cell hc) id).trans hc
      have y0 := Cb.cell hbx 0
      have hkd := (Kx.refl (fun _ => False) wA).drew
      refine wp_region_ord2 (C := fun w' => Kx (fun _ => False) wA w') [(0, true), (1, true), (2, true), (3, true), (4, true), (5, true), (6, false)] 7 (by kernel_rfl) (by kernel_rfl) rfl hkd ?_
      refine ord_val rfl (.pointer (some ⟨wk, 0, none⟩)) (fun w' hC => by go_simp) ?_
      refine ord_val rfl (.pointer (some ⟨wk, 0, none⟩)) (fun w' hC => by go_simp) ?_
      refine ord_val rfl (.pointer (some ⟨wk, 0, none⟩)) (fun w' hC => by go_simp) ?_
      refine ord_val rfl (.pointer (some ⟨h, 0, none⟩)) (fun w' hC => by have hc0 := hK hC b0; go_simp) ?_
      refine ord_val rfl (.pointer (some ⟨bb, 0, none⟩)) (fun w' hC => by go_simp) ?_
      refine ord_val rfl (.string ⟨name.toArray⟩) (fun w' hC => by have hc0 := hK hC y0; go_simp) ?_
      simp only [Act.put, sI, sS, sZ]
      refine ord_enter rfl 139 #[.pointer (some ⟨h, 0, none⟩), .string ⟨name.toArray⟩] (by go_simp) ?_
      refine (hrefOf_at hs (hkr.trans hkd) name hnl).mono ?_
      rintro ex w3 ⟨hw3, hor⟩
      subst hw3
      rcases hor with ⟨h0, _⟩ | ⟨xc, cb, hx, rfl, hcm⟩
      · exact absurd h0 hkm
      refine ⟨_, rfl, hkd, ?_⟩
      simp only [Act.put, sI, sS, sZ]
      refine ord_nil ?_
      clear b0
      have hgd := hcm.good
      have hPB := hPA.same hkd
      have hbxB := hbx.kept hkd id
      obtain ⟨cid, hcl, hci0⟩ := hgd.id
      have hidl : cid.length ≤ maxLen := by omega
      have hcall := addHistory_any hs hcont name (by omega) (N + k) (by omega) 60 0 rfl hPB.es cb hgd (fun x => by
        have h1 := hPB.cnt x
        have h2 : tm = false := by
          cases ht : tm with
          | false => rfl
          | true => rw [hPB.up ht] at x; cases x
        have := hn1 h2
        omega) (by omega) hnb
      clear hcm hx hkm hPA hK y0 hbx
      have hbbB : bb < ({ wA with drawn := wA.drawn + 1 } : World).heap.size := hbb
      generalize ({ wA with drawn := wA.drawn + 1 } : World) = wB at *
      have y0 := Cb.cell hbxB 0
      go_wp2_with fail
      refine hcall.mono ?_
      rintro _ w6 ⟨rfl, vc6, l6, tm6, n16, n26, f16, f26, hP6, ha6, hb6, hc6, hd6⟩
      have hP7 := hPB.trans hP6
      have hnET : ¬ ET wk mk nm vc1 bb := fun y => by have := holdA bb y; omega
      have hbx6 := hbxB.kept hP6.kx hnET
      have hn16 : n16 ≤ 3720 := by
        cases ht : tm1 with
        | true => have := hc6 ht; omega
        | false => have := hd6 ht; omega
      have hn26 : n26 ≤ N + k + 2 * n16 := by omega
      have hci := (hP7.es.kx.cell (p := ⟨cb, 2, none⟩) (lt_of_cell (p := ⟨cb, 2, none⟩) hci0) id).trans hci0
      obtain ⟨q, hgv, hq⟩ := hP7.es.ew.look cid
      obtain ⟨q2, hgv2, hq2⟩ := hP7.es.ew.lookN name
      have hmks := hP7.es.ew.mks
      have hnms := hP7.es.ew.nms
      have b3 := Cb.cell hP7.es.ew.blk 3
      have b4 := Cb.cell hP7.es.ew.blk 4
      have z0 := Cb.cell hbx6 0
      have hK : ∀ {w' : World} {p : Addr} {v : Value}, Kx (fun _ => False) w6 w' → w6.cell? p = some v → w'.cell? p = some v := fun hk hc => (hk.cell (lt_of_cell hc) id).trans hc
      clear hcall hP6 hPB y0 hbxB hci0
      go_wp2_with fail
      have hkd := (Kx.refl (fun _ => False) w6).drew
      refine wp_region_ord2 (C := fun w' => Kx (fun _ => False) w6 w') [(0, true), (1, true), (2, true), (3, true), (4, true), (5, true), (6, true), (7, true), (8, true), (9, true)] 10 (by kernel_rfl) (by kernel_rfl) rfl hkd ?_
      refine ord_val rfl (.pointer (some ⟨wk, 0, none⟩)) (fun w' hC => by go_simp) ?_
      refine ord_val rfl (.pointer (some ⟨wk, 0, none⟩)) (fun w' hC => by go_simp) ?_
      refine ord_val rfl (.pointer (some ⟨wk, 3, none⟩)) (fun w' hC => by go_simp) ?_
      refine ord_val rfl (.map (some mk)) (fun w' hC => by have hc0 := hK hC b3; go_simp) ?_
      refine ord_val rfl (.pointer (some ⟨cb, 0, none⟩)) (fun w' hC => by go_simp) ?_
      refine ord_val rfl (.pointer (some ⟨cb, 0, none⟩)) (fun w' hC => by go_simp) ?_
      refine ord_val rfl (.pointer (some ⟨cb, 0, none⟩)) (fun w' hC => by go_simp) ?_
      refine ord_val rfl (.pointer (some ⟨cb, 2, none⟩)) (fun w' hC => by go_simp) ?_
      refine ord_val rfl (.string ⟨cid.toArray⟩) (fun w' hC => by have hc0 := hK hC hci; go_simp) ?_
      simp only [Act.put, sI, sS, sZ]
      refine ord_lookS (K := 9) rfl _ _ 196 rfl 3 under9 under196 (.int .i64 0) zero3 mk n16 f16 rfl (fun w' hC => hmks.kept hC id) cid rfl hidl ?_
      rw [hgv]
      simp only [Act.put, sI, sS, sZ]
      refine ord_nil ?_
      go_wp2_with fail
      refine wp_region_ord2 (C := fun w' => Kx (fun _ => False) w6 w') [(0, true), (1, true), (2, true), (3, true), (4, true), (5, true), (6, true), (7, true)] 8 (by kernel_rfl) (by kernel_rfl) rfl hkd.drew ?_
      refine ord_val rfl (.pointer (some ⟨wk, 0, none⟩)) (fun w' hC => by go_simp) ?_
      refine ord_val rfl (.pointer (some ⟨wk, 0, none⟩)) (fun w' hC => by go_simp) ?_
      refine ord_val rfl (.pointer (some ⟨wk, 4, none⟩)) (fun w' hC => by go_simp) ?_
      refine ord_val rfl (.map (some nm)) (fun w' hC => by have hc0 := hK hC b4; go_simp) ?_
      refine ord_val rfl (.pointer (some ⟨bb, 0, none⟩)) (fun w' hC => by go_simp) ?_
      refine ord_val rfl (.string ⟨name.toArray⟩) (fun w' hC => by have hc0 := hK hC z0; go_simp) ?_
      simp only [Act.put, sI, sS, sZ]
      refine ord_lookS (K := 9) rfl _ _ 196 rfl 3 under9 under196 (.int .i64 0) zero3 nm n26 f26 rfl (fun w' hC => hnms.kept hC id) name rfl hnl ?_
      rw [hgv2]
      refine ord_val rfl (.int .i64 (q : Int)) (fun w' hC => by go_simp) ?_
      simp only [Act.put, sI, sS, sZ]
      refine ord_nil ?_
      change wpList _ _ _ _ _ w6.drew.drew
      have hkF := hkd.drew
      have hP8 := hP7.same hkF
      have hbx8 := hbx6.kept hkF id
      generalize w6.drew.drew = wD at *
      have x0 := Cb.cell hbx8 0
      clear hmks hnms b3 b4 z0 hK hci hgv hgv2 hkd hP7 hbx6
      by_cases hqq : q2 = q
      · have hq3 : (q2 : Int) = (q : Int) := by omega
        have hq4 : ((q2 : Int) != (q : Int)) = false := by simp [hq3]
        go_wp2
        go_roundw
        case rel => exact ⟨k + 1, vc6, l6, tm6, n16, n26, f16, f26, by go_num, hlt, hP8, hn16, by omega⟩
        case measure => simp [intOf]; omega
      · have hq3 : ¬ (q2 : Int) = (q : Int) := by omega
        have hq4 : ((q2 : Int) != (q : Int)) = true := by simp [hq3]
        have hcall := eaddReset_any hP8.es.ew name q (by omega) hq (by omega)
        go_wp2_with fail
        refine hcall.mono ?_
        rintro _ w7 ⟨rfl, vc7, l7, tm7, f27, e7, hk7, hl7, ht7, hf7⟩
        have hP9 := hP8.turn (d2 := 0) e7 hk7 hl7 (fun x => (ht7 x).1) (fun x => by
          cases htm : tm6 with
          | true => rw [(ht7 htm).1] at x; cases x
          | false =>
            have := hP8.cnt htm
            rcases hf7 htm with ⟨_, h2⟩ | ⟨h2, _⟩
            · omega
            · rw [h2] at x; cases x)
        clear hcall
        go_wp2
        go_roundw
        case rel => exact ⟨k + 1, vc7, l7, tm7, n16, n26 + 1, f16, f27, by go_num, hlt, hP9, hn16, by omega⟩
        case measure => simp [intOf]; omega
    · have hlt2 : ¬ (k : Int) < (ks.length : Int) := by omega
      have hF : TopR w0 w wr wk mk nm h vc l tm n1 (N + n) := ⟨vc1, l1, tm1, n1a, n2a, f1a, f2a, SP.pre hk1 hP, hna, by omega⟩
      go_wp2
      go_end0
      exact ⟨rfl, hF⟩

set_option maxHeartbeats 400000 in
theorem htag_at {M : Nat → Prop} {w0 w : World} {h o c r t n : Nat} {S : St} (hs : Sto M w0 h o c r t n S) (hk : Kx (fun _ => False) w0 w) (name : List UInt8) (hi : name.length ≤ maxLen) (s : List UInt8) (hc : S.tag name = some s) :
    Calls Tryz.prog 142 #[.pointer (some ⟨h, 0, none⟩), .string ⟨name.toArray⟩] w fun e w' => w' = w ∧ ∃ b, e = .returned (.pointer (some ⟨b, 0, none⟩)) ∧ Tg M w0 b s := by
  obtain ⟨f, hf0, hF⟩ := hs.tag
  have hf := MapS.kept hf0 hk id
  have c30 : w0.cell? ⟨h, 3, none⟩ = some (.map (some t)) := Cb.cell hs.hi 3
  have c3 := (hk.cell (p := ⟨h, 3, none⟩) (lt_of_cell (p := ⟨h, 3, none⟩) c30) id).trans c30
  obtain ⟨b, hb, hC⟩ := (hF name).2 s hc
  unfold ptrV at hb
  have hgv : (f name).getD (.pointer none) = .pointer (some ⟨b, 0, none⟩) := by rw [hb]; rfl
  clear hb hc hf0 c30
  go_enter Tryz.func142, Tryz.ntmps142
  go_wp2_with (refine wpList_lookS rfl _ _ 148 rfl 185 (by kernel_rfl) (by kernel_rfl) (.pointer none) (by kernel_rfl) t n f rfl hf name rfl hi ?_)
  go_ret
  exact ⟨rfl, b, rfl, hC⟩

theorem SP.res {w0 w w1 w2 : World} {wk mk nm h : Nat} {vc vc1 : Value} {l l1 : List Ocm} {tm tm1 : Bool} {n1 n1a n2a : Nat} {f1a f2a : List UInt8 → Option Value} (p : SP w0 w w1 wk mk nm h vc l tm n1 vc1 l1 tm1 n1a n2a f1a f2a 0) (q : ResR w1 w2 wk mk nm h vc1 l1 tm1 n1a n2a f1a) :
    ∃ vc' l' tm' f2', SP w0 w w2 wk mk nm h vc l tm n1 vc' l' tm' n1a (n2a + 1) f1a f2' 0 := by
  obtain ⟨vc7, l7, tm7, f27, e7, hk7, hl7, ht7, hf7⟩ := q
  refine ⟨vc7, l7, tm7, f27, p.turn e7 hk7 hl7 (fun x => (ht7 x).1) (fun x => ?_)⟩
  cases htm : tm1 with
  | true => rw [(ht7 htm).1] at x; cases x
  | false =>
    have := p.cnt htm
    rcases hf7 htm with ⟨_, h2⟩ | ⟨h2, _⟩
    · omega
    · rw [h2] at x; cases x

theorem SP.add {w0 w w1 w2 : World} {wk mk nm h : Nat} {vc vc1 : Value} {l l1 : List Ocm} {tm tm1 : Bool} {n1 n1a n2a : Nat} {f1a f2a : List UInt8 → Option Value} (p : SP w0 w w1 wk mk nm h vc l tm n1 vc1 l1 tm1 n1a n2a f1a f2a 0) (q : AddR w1 w2 wk mk nm h vc1 l1 tm1 n1a n2a f1a f2a) :
    ∃ vc' l' tm', SP w0 w w2 wk mk nm h vc l tm n1 vc' l' tm' n1a n2a f1a f2a 0 := by
  obtain ⟨vc7, l7, tm7, e7, hk7, hl7, ht7, hf7⟩ := q
  refine ⟨vc7, l7, tm7, p.turn e7 hk7 hl7 (fun x => (ht7 x).1) (fun x => ?_)⟩
  cases htm : tm1 with
  | true => rw [(ht7 htm).1] at x; cases x
  | false =>
    have := p.cnt htm
    rcases hf7 htm with ⟨_, h2⟩ | ⟨h2, _⟩
    · omega
    · rw [h2] at x; cases x

set_option maxHeartbeats 1600000 in
set_option maxRecDepth 100000 in
theorem resetTags_any {M : Nat → Prop} {w0 w : World} {wk mk nm h o c r t n : Nat} {S : St} {vc : Value} {l : List Ocm} {tm : Bool} {n1 n2 : Nat} {f1 f2 : List UInt8 → Option Value} (hs : Sto M w0 h o c r t n S) (e : Es w0 w wk mk nm h vc l tm n1 n2 f1 f2) (hn2 : n2 < maxLen) :
    Calls Tryz.prog 144 #[.pointer (some ⟨wk, 0, none⟩)] w fun x w' => x = .returned (.tuple #[]) ∧ ∃ vc' l' tm' f2', SP w0 w w' wk mk nm h vc l tm n1 vc' l' tm' n1 (n2 + 1) f1 f2' 0 := by
  have hmx : maxLen = 9223372036854775807 := rfl
  have b0 := Cb.cell e.ew.blk 0
  have hP := SP.refl e
  go_enter Tryz.func144, Tryz.ntmps144
  go_wp2_with fail
  refine (hrefOf_at hs e.kx [116, 97, 103, 115] (by decide)).mono ?_
  rintro ex w1 ⟨hw1, hor⟩
  subst hw1
  rcases hor with ⟨_, rfl⟩ | ⟨x, cb, _, rfl, hcm⟩
  · have hcall := eaddReset_any e.ew [116, 97, 103, 115] 0 (by decide) (by decide) hn2
    clear b0
    go_wp2_with fail
    refine hcall.mono ?_
    rintro _ w2 ⟨rfl, hR⟩
    have hF := hP.res hR
    clear hcall hR
    go_wp2
    go_end0
    exact ⟨rfl, hF⟩
  · obtain ⟨cid, hcl, hci0⟩ := hcm.good.id
    have hidl : cid.length ≤ maxLen := by omega
    have hci := (e.kx.cell (p := ⟨cb, 2, none⟩) (lt_of_cell (p := ⟨cb, 2, none⟩) hci0) id).trans hci0
    obtain ⟨q, hgv, hq⟩ := e.ew.look cid
    have hmks := e.ew.mks
    have b3 := Cb.cell e.ew.blk 3
    have hK : ∀ {w' : World} {p : Addr} {v : Value}, Kx (fun _ => False) w1 w' → w1.cell? p = some v → w'.cell? p = some v := fun hk hc => (hk.cell (lt_of_cell hc) id).trans hc
    have hkd := (Kx.refl (fun _ => False) w1).drew
    clear hcm hci0 b0
    go_wp2_with fail
    refine wp_region_ord2 (C := fun w' => Kx (fun _ => False) w1 w') [(0, true), (1, true), (2, true), (3, true), (4, true), (5, true), (6, true), (7, true), (8, true), (9, true)] 10 (by kernel_rfl) (by kernel_rfl) rfl hkd ?_
    refine ord_val rfl (.pointer (some ⟨wk, 0, none⟩)) (fun w' hC => by go_simp) ?_
    refine ord_val rfl (.pointer (some ⟨wk, 0, none⟩)) (fun w' hC => by go_simp) ?_
    refine ord_val rfl (.pointer (some ⟨wk, 3, none⟩)) (fun w' hC => by go_simp) ?_
    refine ord_val rfl (.map (some mk)) (fun w' hC => by have hc0 := hK hC b3; go_simp) ?_
    refine ord_val rfl (.pointer (some ⟨cb, 0, none⟩)) (fun w' hC => by go_simp) ?_
    refine ord_val rfl (.pointer (some ⟨cb, 0, none⟩)) (fun w' hC => by go_simp) ?_
    refine ord_val rfl (.pointer (some ⟨cb, 0, none⟩)) (fun w' hC => by go_simp) ?_
    refine ord_val rfl (.pointer (some ⟨cb, 2, none⟩)) (fun w' hC => by go_simp) ?_
    refine ord_val rfl (.string ⟨cid.toArray⟩) (fun w' hC => by have hc0 := hK hC hci; go_simp) ?_
    simp only [Act.put, sI, sS, sZ]
    refine ord_lookS (K := 9) rfl _ _ 196 rfl 3 under9 under196 (.int .i64 0) zero3 mk n1 f1 rfl (fun w' hC => hmks.kept hC id) cid rfl hidl ?_
    rw [hgv]
    simp only [Act.put, sI, sS, sZ]
    refine ord_nil ?_
    change wpList _ _ _ _ _ w1.drew
    have hP2 := hP.same hkd
    generalize w1.drew = wD at *
    have hcall := eaddReset_any hP2.es.ew [116, 97, 103, 115] q (by decide) hq hn2
    clear hmks b3 hK hci hgv
    go_wp2_with fail
    refine hcall.mono ?_
    rintro _ w2 ⟨rfl, hR⟩
    have hF := hP2.res hR
    clear hcall hR hP hP2 hkd
    go_wp2
    go_end0
    exact ⟨rfl, hF⟩

set_option maxHeartbeats 3200000 in
set_option maxRecDepth 100000 in
theorem addTags_any {M : Nat → Prop} {w0 w : World} {wk mk nm h o c r t n : Nat} {S : St} {vc : Value} {l : List Ocm} {tm : Bool} {n1 n2 : Nat} {f1 f2 : List UInt8 → Option Value} (hs : Sto M w0 h o c r t n S) (hcont : ∀ id x, S.obj id = some x → x.2.length ≤ 14000) (hb : StB S) (hn : n ≤ 30000000000)
    (e : Es w0 w wk mk nm h vc l tm n1 n2 f1 f2) (hn1 : tm = false → n1 ≤ l.length) (h37 : n1 ≤ 3720) (N : Nat) (hn2 : n2 ≤ N + 2 * n1) (hN : N ≤ 100000000000) :
    Calls Tryz.prog 96 #[.pointer (some ⟨wk, 0, none⟩)] w fun x w' => x = .returned (.tuple #[]) ∧ TopR w0 w w' wk mk nm h vc l tm n1 (N + 1) := by
  have hmx : maxLen = 9223372036854775807 := rfl
  have b0 := Cb.cell e.ew.blk 0
  have hcall := htags_any (hs.kept e.kx (fun _ _ x => x.elim) (fun _ _ => id)) hn
  go_enter Tryz.func96, Tryz.ntmps96
  go_wp2_with fail
  refine hcall.mono ?_
  rintro _ w1 ⟨v, ks, rfl, hKL, hkn, hrow, hk1⟩
  clear hcall b0
  have e1 := e.same hk1
  have hold := e.old
  obtain ⟨av, cv, hav⟩ := row_shape hrow
  subst hav
  go_wp2_with fail
  go_loopw [12, 2] (fun iv bv wr => ∃ (k : Nat) (bm : Bool) (vc1 : Value) (l1 : List Ocm) (tm1 : Bool) (n1a n2a : Nat) (f1a f2a : List UInt8 → Option Value), iv = .int .i64 k ∧ bv = .bool bm ∧ k ≤ ks.length ∧ SP w0 w1 wr wk mk nm h vc l tm n1 vc1 l1 tm1 n1a n2a f1a f2a 0 ∧ n1a ≤ 3720 ∧ n2a ≤ N + 2 * n1a) (fun iv _ _ => ks.length - (intOf iv).toNat)
  case atStart => exact ⟨0, false, _, _, _, _, _, _, _, rfl, rfl, by omega, SP.refl e1, h37, by omega⟩
  case round =>
    obtain ⟨k, bm, vc1, l1, tm1, n1a, n2a, f1a, f2a, rfl, rfl, hk, hP, hna, hnb⟩ := hrel
    by_cases hlt : k < ks.length
    · have hlt2 : (k : Int) < (ks.length : Int) := by omega
      have hrow2 := own_keptB hrow hP.kx (fun j hj y => by have := (hrow.lt j hj).1; have := hold j y; omega)
      obtain ⟨rb, rc, he, r0, r1⟩ := row2b_cell (g := idT S.tag) hrow2 k hlt
      cases he
      obtain ⟨s, hsx⟩ : ∃ s, S.tag ks[k] = some s := by
        have h2 := (hKL.mem ks[k]).1 (List.getElem_mem hlt)
        cases hx : S.tag ks[k] with
        | none => rw [hx] at h2; cases h2
        | some s => exact ⟨s, rfl⟩
      have hkl := hb.tag ks[k] (by rw [hsx]; simp)
      generalize idT S.tag ks[k] = rid at *
      generalize ks[k] = name at *
      have hnl : name.length ≤ maxLen := by omega
      have hA := (Kx.refl (fun _ => False) wr).alloc (.cells #[.string ⟨name.toArray⟩, .string ⟨rid.toArray⟩] 46)
      have hbx := Cb.new #[.string ⟨name.toArray⟩, .string ⟨rid.toArray⟩] 46 wr
      have hPA := hP.same hA
      have b0 := Cb.cell hPA.es.ew.blk 0
      have hkr := hPA.es.kx
      clear hrow2
      go_wp2_with fail
      clear r0 r1
      generalize wr.alloc (.cells #[.string ⟨name.toArray⟩, .string ⟨rid.toArray⟩] 46) = wA at *
      generalize wr.heap.size = bb at *
      have hK : ∀ {w' : World} {p : Addr} {v : Value}, Kx (fun _ => False) wA w' → wA.cell? p = some v → w'.cell? p = some v := fun hk hc => (hk.cell (lt_of_cell hc) id).trans hc
      have y0 := Cb.cell hbx 0
      have hkd := (Kx.refl (fun _ => False) wA).drew
      refine wp_region_ord2 (C := fun w' => Kx (fun _ => False) wA w') [(0, true), (1, true), (2, true), (3, true), (4, true), (5, true), (6, false)] 7 (by kernel_rfl) (by kernel_rfl) rfl hkd ?_
      refine ord_val rfl (.pointer (some ⟨wk, 0, none⟩)) (fun w' hC => by go_simp) ?_
      refine ord_val rfl (.pointer (some ⟨wk, 0, none⟩)) (fun w' hC => by go_simp) ?_
      refine ord_val rfl (.pointer (some ⟨wk, 0, none⟩)) (fun w' hC => by go_simp) ?_
      refine ord_val rfl (.pointer (some ⟨h, 0, none⟩)) (fun w' hC => by have hc0 := hK hC b0; go_simp) ?_
      refine ord_val rfl (.pointer (some ⟨bb, 0, none⟩)) (fun w' hC => by go_simp) ?_
      refine ord_val rfl (.string ⟨name.toArray⟩) (fun w' hC => by have hc0 := hK hC y0; go_simp) ?_
      simp only [Act.put, sI, sS, sZ]
      refine ord_enter rfl 142 #[.pointer (some ⟨h, 0, none⟩), .string ⟨name.toArray⟩] (by go_simp) ?_
      refine (htag_at hs (hkr.trans hkd) name hnl s hsx).mono ?_
      rintro ex w3 ⟨hw3, tb, rfl, htg⟩
      subst hw3
      refine ⟨_, rfl, hkd, ?_⟩
      simp only [Act.put, sI, sS, sZ]
      refine ord_nil ?_
      change wpList _ _ _ _ _ wA.drew
      clear b0 y0 hK
      have HTG : Hid (Tg M w0 tb s) := htg
      obtain ⟨tx, tname, cb, tmsg, htb0, _, _, hgd, _, _⟩ := htg
      have hPB := hPA.same hkd
      generalize wA.drew = wB at *
      have htb := htb0.kept hPB.es.kx id
      have t4 := Cb.cell htb 4
      obtain ⟨cid, hcl, hci0⟩ := hgd.id
      have hidl : cid.length ≤ maxLen := by omega
      have hci := (hPB.es.kx.cell (p := ⟨cb, 2, none⟩) (lt_of_cell (p := ⟨cb, 2, none⟩) hci0) id).trans hci0
      obtain ⟨q, hgv, hq⟩ := hPB.es.ew.look cid
      have hmks := hPB.es.ew.mks
      have b3 := Cb.cell hPB.es.ew.blk 3
      have hK : ∀ {w' : World} {p : Addr} {v : Value}, Kx (fun _ => False) wB w' → wB.cell? p = some v → w'.cell? p = some v := fun hk hc => (hk.cell (lt_of_cell hc) id).trans hc
      clear hPA hbx hci0 htb hkd
      go_wp2_with fail
      have hkd := (Kx.refl (fun _ => False) wB).drew
      refine wp_region_ord2 (C := fun w' => Kx (fun _ => False) wB w') [(0, true), (1, true), (2, true), (3, true), (4, true), (5, true), (6, true), (7, true), (8, true), (9, true), (10, true), (11, true), (12, true)] 13 (by kernel_rfl) (by kernel_rfl) rfl hkd ?_
      refine ord_val rfl (.pointer (some ⟨wk, 0, none⟩)) (fun w' hC => by go_simp) ?_
      refine ord_val rfl (.pointer (some ⟨wk, 0, none⟩)) (fun w' hC => by go_simp) ?_
      refine ord_val rfl (.pointer (some ⟨wk, 3, none⟩)) (fun w' hC => by go_simp) ?_
      refine ord_val rfl (.map (some mk)) (fun w' hC => by have hc0 := hK hC b3; go_simp) ?_
      refine ord_val rfl (.pointer (some ⟨tb, 0, none⟩)) (fun w' hC => by go_simp) ?_
      refine ord_val rfl (.pointer (some ⟨tb, 0, none⟩)) (fun w' hC => by go_simp) ?_
      refine ord_val rfl (.pointer (some ⟨tb, 4, none⟩)) (fun w' hC => by go_simp) ?_
      refine ord_val rfl (.pointer (some ⟨cb, 0, none⟩)) (fun w' hC => by have hc0 := hK hC t4; go_simp) ?_
      refine ord_val rfl (.pointer (some ⟨cb, 0, none⟩)) (fun w' hC => by go_simp) ?_
      refine ord_val rfl (.pointer (some ⟨cb, 0, none⟩)) (fun w' hC => by go_simp) ?_
      refine ord_val rfl (.pointer (some ⟨cb, 2, none⟩)) (fun w' hC => by go_simp) ?_
      refine ord_val rfl (.string ⟨cid.toArray⟩) (fun w' hC => by have hc0 := hK hC hci; go_simp) ?_
      simp only [Act.put, sI, sS, sZ]
      refine ord_lookS (K := 9) rfl _ _ 196 rfl 3 under9 under196 (.int .i64 0) zero3 mk n1a f1a rfl (fun w' hC => hmks.kept hC id) cid rfl hidl ?_
      rw [hgv]
      simp only [Act.put, sI, sS, sZ]
      refine ord_nil ?_
      change wpList _ _ _ _ _ wB.drew
      have hPC := hPB.same hkd
      have t4C := hK hkd t4
      generalize wB.drew = wD at *
      clear hmks b3 hK hci hgv t4 hPB
      by_cases hq0 : q = 0
      · subst hq0
        have hcall := addHistory_any hs hcont [116, 97, 103, 115] (by decide) N (by omega) 60 0 rfl hPC.es cb hgd (fun x => by
          have h1 := hPC.cnt x
          have h2 : tm = false := by
            cases ht : tm with
            | false => rfl
            | true => rw [hPC.up ht] at x; cases x
          have := hn1 h2
          omega) (by omega) hnb
        go_wp2_with fail
        refine hcall.mono ?_
        rintro _ w6 ⟨rfl, vc6, l6, tm6, n16, n26, f16, f26, hP6, ha6, hb6, hc6, hd6⟩
        have hP7 := hPC.trans hP6
        have hn16 : n16 ≤ 3720 := by
          cases ht : tm1 with
          | true => have := hc6 ht; omega
          | false => have := hd6 ht; omega
        have hn26 : n26 ≤ N + 2 * n16 := by omega
        have hcall2 := eaddTag_any hP7.es tb s HTG.out
        clear hcall hP6 hPC t4C
        go_wp2_with fail
        refine hcall2.mono ?_
        rintro _ w7 ⟨rfl, hR⟩
        obtain ⟨vc8, l8, tm8, hP8⟩ := hP7.add hR
        clear hcall2 hR hP7
        go_wp2
        go_roundw
        case rel => exact ⟨k + 1, true, vc8, l8, tm8, n16, n26, f16, f26, by go_num, rfl, hlt, hP8, hn16, hn26⟩
        case measure => simp [intOf]; omega
      · have hq1 : ¬ (q : Int) = 0 := by omega
        have hq2 : ((q : Int) == 0) = false := by simpa using hq1
        have hcall2 := eaddTag_any hPC.es tb s HTG.out
        go_wp2_with fail
        refine hcall2.mono ?_
        rintro _ w7 ⟨rfl, hR⟩
        obtain ⟨vc8, l8, tm8, hP8⟩ := hPC.add hR
        clear hcall2 hR hPC t4C
        go_wp2
        go_roundw
        case rel => exact ⟨k + 1, bm, vc8, l8, tm8, n1a, n2a, f1a, f2a, by go_num, rfl, hlt, hP8, hna, hnb⟩
        case measure => simp [intOf]; omega
    · have hlt2 : ¬ (k : Int) < (ks.length : Int) := by omega
      have hPF := SP.pre hk1 hP
      cases bm with
      | false =>
        have hF : TopR w0 w wr wk mk nm h vc l tm n1 (N + 1) := ⟨vc1, l1, tm1, n1a, n2a, f1a, f2a, hPF, hna, by omega⟩
        go_wp2
        go_end0
        exact ⟨rfl, hF⟩
      | true =>
        have hcall := resetTags_any hs hPF.es (by omega)
        go_wp2_with fail
        refine hcall.mono ?_
        rintro _ w7 ⟨rfl, vc8, l8, tm8, f28, hP8⟩
        have hF : TopR w0 w w7 wk mk nm h vc l tm n1 (N + 1) := ⟨vc8, l8, tm8, n1a, n2a + 1, f1a, f28, hPF.trans hP8, hna, by omega⟩
        clear hcall hP8
        go_wp2
        go_end0
        exact ⟨rfl, hF⟩

end Go.Proofs.YtepgoppgblfjbaaGreatDoor
