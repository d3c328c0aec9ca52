import Derived.Test.YtepgoppgblfjbaaGreatDoorGw24
namespace Go.Proofs.YtepgoppgblfjbaaGreatDoor
open Go.RowKit

def KL : List Int := [0x6a09e667, 0xbb67ae85, 0x3c6ef372, 0xa54ff53a, 0x510e527f, 0x9b05688c, 0x1f83d9ab, 0x5be0cd19,
    0x428a2f98, 0x71374491, 0xb5c0fbcf, 0xe9b5dba5, 0x3956c25b, 0x59f111f1, 0x923f82a4, 0xab1c5ed5,
    0xd807aa98, 0x12835b01, 0x243185be, 0x550c7dc3, 0x72be5d74, 0x80deb1fe, 0x9bdc06a7, 0xc19bf174,
    0xe49b69c1, 0xefbe4786, 0x0fc19dc6, 0x240ca1cc, 0x2de92c6f, 0x4a7484aa, 0x5cb0a9dc, 0x76f988da,
    0x983e5152, 0xa831c66d, 0xb00327c8, 0xbf597fc7, 0xc6e00bf3, 0xd5a79147, 0x06ca6351, 0x14292967,
    0x27b70a85, 0x2e1b2138, 0x4d2c6dfc, 0x53380d13, 0x650a7354, 0x766a0abb, 0x81c2c92e, 0x92722c85,
    0xa2bfe8a1, 0xa81a664b, 0xc24b8b70, 0xc76c51a3, 0xd192e819, 0xd6990624, 0xf40e3585, 0x106aa070,
    0x19a4c116, 0x1e376c08, 0x2748774c, 0x34b0bcb5, 0x391c0cb3, 0x4ed8aa4a, 0x5b9cca4f, 0x682e6ff3,
    0x748f82ee, 0x78a5636f, 0x84c87814, 0x8cc70208, 0x90befffa, 0xa4506ceb, 0xbef9a3f7, 0xc67178f2]
theorem K_KL : Sh.K = KL := K_eq

namespace Ex
def L1 : List UInt8 := [164, 225, 63, 125, 253, 131, 69, 234, 229, 80, 18, 81, 19, 185, 217, 188, 212, 176, 247, 129, 3, 124, 2, 175, 177, 51, 253, 152, 245, 249, 115, 174]
def C2 : List UInt8 := [49, 48, 48, 54, 52, 52, 32, 102, 0, 164, 225, 63, 125, 253, 131, 69, 234, 229, 80, 18, 81, 19, 185, 217, 188, 212, 176, 247, 129, 3, 124, 2, 175, 177, 51, 253, 152, 245, 249, 115, 174]
def L2 : List UInt8 := [205, 34, 222, 159, 200, 251, 104, 110, 89, 132, 62, 38, 113, 146, 148, 119, 150, 179, 7, 137, 248, 181, 130, 143, 130, 223, 14, 176, 146, 18, 253, 75]
def C3 : List UInt8 := [52, 48, 48, 48, 48, 32, 100, 0, 205, 34, 222, 159, 200, 251, 104, 110, 89, 132, 62, 38, 113, 146, 148, 119, 150, 179, 7, 137, 248, 181, 130, 143, 130, 223, 14, 176, 146, 18, 253, 75]
def L3 : List UInt8 := [82, 87, 231, 6, 214, 108, 88, 67, 194, 76, 146, 148, 105, 41, 55, 135, 104, 5, 88, 134, 79, 78, 135, 239, 149, 177, 211, 161, 199, 247, 140, 166]
def au : Au := ⟨[65, 32, 66], [97, 64, 98], 7⟩
set_option maxRecDepth 100000 in
theorem sum1 : Pd.sum KL 1 [104, 105] = L1 := by kernel_rfl
set_option maxRecDepth 100000 in
theorem sum2 : Pd.sum KL 2 C2 = L2 := by kernel_rfl
set_option maxRecDepth 100000 in
theorem sum3 : Pd.sum KL 2 C3 = L3 := by kernel_rfl

def C4 : List UInt8 := [116, 114, 101, 101, 32, 53, 50, 53, 55, 101, 55, 48, 54, 100, 54, 54, 99, 53, 56, 52, 51, 99, 50, 52, 99, 57, 50, 57, 52, 54, 57, 50, 57, 51, 55, 56, 55, 54, 56, 48, 53, 53, 56, 56, 54, 52, 102, 52, 101, 56, 55, 101, 102, 57, 53, 98, 49, 100, 51, 97, 49, 99, 55, 102, 55, 56, 99, 97, 54, 10, 97, 117, 116, 104, 111, 114, 32, 65, 32, 66, 32, 60, 97, 64, 98, 62, 32, 55, 10, 10, 120]
def L4 : List UInt8 := [154, 227, 239, 167, 245, 141, 192, 210, 136, 223, 109, 247, 89, 205, 205, 51, 196, 132, 75, 136, 14, 225, 57, 194, 1, 85, 129, 5, 5, 241, 171, 55]
set_option maxRecDepth 100000 in
theorem sum4 : Pd.sum KL 3 C4 = L4 := by kernel_rfl
def f : Fi := ⟨[100, 47, 102], Pu.s644, L1⟩
def com : Com := ⟨L4, [f]⟩
def co1 : Pu.Co := ⟨Pu.sBlob, [], 1, ⟨[], [], 0⟩, [104, 105], ⟨0, []⟩, [], []⟩
def co2 : Pu.Co := ⟨Pu.sCommit, Pu.sMain, 2, au, [120], ⟨0, []⟩, [], [⟨[77], Pu.s644, 1, [], [100, 47, 102], []⟩]⟩
set_option maxRecDepth 100000 in
theorem cos_ok : Pu.cosB (Pu.commands exampleL) [co1, co2] = true := by kernel_rfl
theorem cos : Pu.commands exampleL = [co1, co2] := Pu.cosB_eq cos_ok

def obj : List UInt8 → Option (Nat × List UInt8) := upd (upd (upd (upd St.empty.obj (Sh.hex L1) (some (1, [104, 105]))) (Sh.hex L3) (some (2, C3))) (Sh.hex L2) (some (2, C2))) (Sh.hex L4) (some (3, C4))
def st : St := ⟨obj, upd St.empty.com (Sh.hex L4) (some com), upd St.empty.ref Pu.sMain (some com), St.empty.tag⟩

set_option maxRecDepth 100000 in
theorem tree : Pf.tree KL [f] = (C3, .cons (.mk C2 .nil) .nil) := by kernel_rfl
def w1 : Wk := { Pd.addObj KL 1 [104, 105] ⟨St.empty, fun _ => none⟩ with ms := upd (fun _ => none) 1 (some (.blob L1)) }
theorem one1 : Pd.one KL ⟨St.empty, fun _ => none⟩ co1 = (0, w1) := by
  unfold w1
  rw [← sum1]
  rfl
set_option maxRecDepth 100000 in
theorem ch2 : Pd.changes KL w1 [] co2.changes = (0, w1, [f]) := by kernel_rfl
theorem one2 : ∃ W, Pd.one KL w1 co2 = (0, W) ∧ W.st = st := by
  have h1 : Pd.one KL w1 co2 = Pd.commit KL w1 co2 := rfl
  have hp : Pd.parents w1 co2 = some ([], []) := rfl
  have hs : Pd.isSet w1 co2.mark = false := rfl
  rw [h1]
  unfold Pd.commit
  rw [hs, hp]
  simp only [Bool.false_eq_true, if_false, ch2, if_true]
  refine ⟨_, rfl, ?_⟩
  unfold Pd.commitOf
  have hC : Pd.comText L3 [] co2.au co2.data = C4 := by kernel_rfl
  simp only [tree, sum3, hC, sum4]
  have i1 : Sh.idK KL 1 [104, 105] = Sh.hex L1 := congrArg Sh.hex sum1
  have i2 : Sh.idK KL 2 C2 = Sh.hex L2 := congrArg Sh.hex sum2
  have i3 : Sh.idK KL 2 C3 = Sh.hex L3 := congrArg Sh.hex sum3
  have i4 : Sh.idK KL 3 C4 = Sh.hex L4 := congrArg Sh.hex sum4
  simp only [Pd.addTr, Pd.addTrs, Pd.add, i2, i3, i4, w1, Pd.addObj, i1]
  rfl
theorem imp : Pd.imp Sh.K St.empty exampleL = ((2, 0), st) := by
  obtain ⟨W, h1, h2⟩ := one2
  rw [K_KL]
  unfold Pd.imp
  rw [example_check, cos]
  have ha : Pd.all KL ⟨St.empty, fun _ => none⟩ [co1, co2] 0 = ((2, 0), W) := by simp [Pd.all, one1, h1]
  rw [ha]
  simp only [if_true, h2]

set_option maxRecDepth 100000 in
theorem ids_nodup : [Sh.hex L1, Sh.hex L2, Sh.hex L3, Sh.hex L4].Nodup := by decide +kernel
theorem ids_len {ks : List (List UInt8)} (h : KeyL st.obj ks) : ks.length = 4 := by
  have hn : ks.Nodup := h.sorted.imp (fun h e => by subst e; exact List.lt_irrefl _ h)
  have hm : ∀ k, k ∈ ks ↔ k ∈ [Sh.hex L1, Sh.hex L2, Sh.hex L3, Sh.hex L4] := fun k => by
    rw [h.mem]
    simp only [List.mem_cons, List.not_mem_nil, or_false]
    show (obj k).isSome = true ↔ _
    simp only [obj, upd, St.empty]
    constructor
    · intro e
      split at e
      · simp_all
      · split at e
        · simp_all
        · split at e
          · simp_all
          · split at e
            · simp_all
            · cases e
    · intro e
      split
      · rfl
      · split
        · rfl
        · split
          · rfl
          · split
            · rfl
            · simp_all
  exact ((List.perm_ext_iff_of_nodup hn ids_nodup).2 hm).length_eq
theorem refs {ks : List (List UInt8)} {S : St} (hS : ∀ k, (S.ref k).isSome = true ↔ k = Pu.sMain) (h : KeyL S.ref ks) : ks = [Pu.sMain] := by
  have hn : ks.Nodup := h.sorted.imp (fun h e => by subst e; exact List.lt_irrefl _ h)
  have hm : ∀ k, k ∈ ks ↔ k ∈ [Pu.sMain] := fun k => by
    rw [h.mem, hS, List.mem_singleton]
  exact List.perm_singleton.1 ((List.perm_ext_iff_of_nodup hn (by simp)).2 hm)
theorem st_ref (k : List UInt8) : (st.ref k).isSome = true ↔ k = Pu.sMain := by
  show (upd St.empty.ref Pu.sMain (some com) k).isSome = true ↔ _
  unfold upd
  split
  · simp_all
  · simp_all [St.empty]
theorem st_com : st.com (Sh.hex L4) = some com := by
  show upd St.empty.com (Sh.hex L4) (some com) (Sh.hex L4) = _
  simp [upd]
theorem st_id : idAt st.ref Pu.sMain = Sh.hex L4 := by
  show idAt (upd St.empty.ref Pu.sMain (some com)) Pu.sMain = _
  simp [idAt, upd, com]

theorem cos_fine : StrOk exampleL := by
  refine ⟨fun _ => by decide, fun _ => ?_, fun _ => ?_⟩
  · rw [cos]; decide
  · rw [cos]
    intro c hc
    simp only [List.mem_cons, List.not_mem_nil, or_false] at hc
    rcases hc with rfl | rfl
    · exact ⟨by decide, by decide, by decide, by decide, by decide, by decide, ⟨by decide, by decide⟩, ⟨by decide, fun x hx => by cases hx⟩, ⟨by decide, fun x hx => by cases hx⟩⟩
    · refine ⟨by decide, by decide, by decide, by decide, by decide, by decide, ⟨by decide, by decide⟩, ⟨by decide, fun x hx => by cases hx⟩, ⟨by decide, fun x hx => ?_⟩⟩
      obtain rfl := List.mem_singleton.1 hx
      exact ⟨by decide, by decide, by decide, by decide, by decide⟩

theorem line_len : (lineF f).length = 75 := by decide +kernel
theorem line_head : (lineF f).take 7 = [49, 48, 48, 54, 52, 52, 32] := by decide +kernel
theorem line_tail : (lineF f).drop 71 = [32, 100, 47, 102] := by decide +kernel
end Ex

theorem Gl.mx {w : World} (h : Gl w) (h7 : 7 ≤ w.heap.size) : ∃ m, Mx m w := by
  obtain ⟨m, hm⟩ := h.max
  exact ⟨m, by omega, hm⟩

set_option maxHeartbeats 1600000 in
set_option maxRecDepth 100000 in
theorem imported_any (w : World) (hgl : Gl w) (h7 : 7 ≤ w.heap.size) :
    Calls Tryz.prog 20 #[] w fun e w' => e = .returned (.bool true) ∧ Kx (fun _ => False) w w' := by
  obtain ⟨m, hm⟩ := hgl.mx h7
  go_enter Tryz.func20, Tryz.ntmps20
  go_wp2_with fail
  refine (checked_any m w hm).mono ?_
  rintro _ w1 ⟨rfl, hk1⟩
  have hk1 := hk1 (fun _ => False)
  have hgl1 := hgl.kept hk1 (fun _ _ => id)
  have h71 : 7 ≤ w1.heap.size := Nat.le_trans h7 hk1.size
  go_wp2_with fail
  refine (new_any (fun _ => False) w1 (fun _ h => h.elim) h71).mono ?_
  rintro _ w2 ⟨s, h, o, c, r, t, rfl, hN⟩
  have hk2 := hk1.trans hN.kx
  have hgl2 := hgl1.kept hN.kx (fun _ _ => id)
  have himp := import_any hN.str hgl2 exampleL Ex.cos_fine (by decide) (by decide) (by decide)
  rw [Ex.imp] at himp
  go_wp2_with fail
  refine (example_any _).mono ?_
  rintro _ _ ⟨rfl, rfl⟩
  go_wp2_with fail
  refine himp.mono ?_
  rintro _ w3 ⟨rfl, vj, hI⟩
  have hst := hI.str
  rw [Ex.imp] at hst
  have hk3 : Kx (fun _ => False) w1 w3 := hN.kx.join hI.kx (fun j hj e => by
    have hn := hN.new
    rcases e with e | e | e
    · omega
    · unfold Fo at e; omega
    · cases e)
  clear himp
  have hrefs := refs_any' hst (by decide)
  go_wp2_with fail
  refine hrefs.mono ?_
  rintro _ w4 ⟨v, ks, rfl, hK, _, hrow, hk4⟩
  clear hrefs
  obtain rfl := Ex.refs Ex.st_ref hK
  have hst4 := hst.kept hk4 (fun _ _ h => h.elim) (fun _ _ => id)
  obtain ⟨q, cv, rfl, hcv, hr⟩ := Reads.of_own hrow
  obtain ⟨g, og, rfl, hcell⟩ := hr (by decide)
  have c0 : w4.cell? ⟨g, og, none⟩ = some (.string ⟨Pu.sMain.toArray⟩) := hcell 0 _ rfl
  have c1 : w4.cell? ⟨g, og + 1, none⟩ = some (.string ⟨(idAt Ex.st.ref Pu.sMain).toArray⟩) := hcell 1 _ rfl
  rw [Ex.st_id] at c1
  clear hrow hcell hr hK
  have hids := ids_any hst4 (by decide)
  go_wp2_with fail
  refine hids.mono ?_
  rintro _ w5 ⟨v5, ks5, rfl, hK5, _, hrow5, hk5⟩
  clear hids
  have hl5 := Ex.ids_len hK5
  obtain ⟨q5, cv5, rfl, _, _⟩ := Reads.of_own hrow5
  rw [hl5]
  have hst5 := hst4.kept hk5 (fun _ _ h => h.elim) (fun _ _ => id)
  have d0 := (hk5.cell (p := ⟨g, og, none⟩) (lt_of_cell (p := ⟨g, og, none⟩) c0) id).trans c0
  have d1 := (hk5.cell (p := ⟨g, og + 1, none⟩) (lt_of_cell (p := ⟨g, og + 1, none⟩) c1) id).trans c1
  clear c0 c1 hK5 hrow5 hl5
  have hfiles := files_any hst5 (Sh.hex Ex.L4) (by decide)
  rw [Ex.st_com] at hfiles
  simp only [Pu.sMain] at d0
  go_wp2_with fail
  refine hfiles.mono ?_
  rintro _ w6 ⟨hF, hk6⟩
  clear hfiles
  obtain ⟨v6, rfl, hrow6⟩ := hF
  obtain ⟨q6, cv6, rfl, _, hr6⟩ := Reads.of_own hrow6
  obtain ⟨g6, og6, rfl, hcell6⟩ := hr6 (by decide)
  have e0 : w6.cell? ⟨g6, og6, none⟩ = some (.string ⟨(lineF Ex.f).toArray⟩) := hcell6 0 _ rfl
  have hl : (Ex.com.files.length : Int) = 1 := rfl
  have x1 := Ex.line_len
  have x2 := ext_take (lineF Ex.f) 7
  have x3 := ext_drop (lineF Ex.f) 71
  rw [Ex.line_head] at x2
  rw [Ex.line_tail, x1] at x3
  generalize lineF Ex.f = L at *
  generalize Ex.com.files.length = nf at *
  go_wp2
  go_ret
  exact ⟨rfl, (((hk1.trans hk3).trans hk4).trans hk5).trans hk6⟩

section
variable {P : Program} {ops : Array Oper} {C : World → Prop}

theorem quiet_skip {Q : Act → Prop} {a : Act} {o : Oper} {rest : List Oper} (hw : Region.wanted o (yielded ops a.tmps) = false) (h : wpQuiet P ops C Q rest (a.put o.dst undef)) : wpQuiet P ops C Q (o :: rest) a := by
  unfold wpQuiet
  rw [hw]
  exact h

theorem quiet_valG {Q : Act → Prop} {a : Act} {o : Oper} {rest : List Oper} (hw : Region.wanted o (yielded ops a.tmps) = true) (v : Value) (hrun : ∀ w, C w → (execOp a.eval o).run P w = .ok (.value v) w) (h : wpQuiet P ops C Q rest (a.put o.dst v)) : wpQuiet P ops C Q (o :: rest) a := by
  unfold wpQuiet
  rw [if_pos hw]
  refine ⟨v, fun w hC => ?_, h⟩
  unfold Oper.quietAt
  rw [hrun w hC]
  exact ⟨rfl, rfl⟩

structure WQ (P : Program) (ops : Array Oper) (C : World → Prop) (Q : Act → Prop) (l : List Oper) (a : Act) : Prop where
  out : wpQuiet P ops C Q l a

theorem wq_nil {Q : Act → Prop} {a : Act} (h : Q a) : WQ P ops C Q [] a := ⟨wpQuiet_nil h⟩
theorem wq_val {Q : Act → Prop} {a : Act} {o : Oper} {rest : List Oper} (hg : o.guard = none) (v : Value) (hrun : ∀ w, C w → (execOp a.eval o).run P w = .ok (.value v) w) (h : WQ P ops C Q rest (a.put o.dst v)) : WQ P ops C Q (o :: rest) a := ⟨quiet_val hg v hrun h.out⟩
theorem wq_valG {Q : Act → Prop} {a : Act} {o : Oper} {rest : List Oper} (hw : Region.wanted o (yielded ops a.tmps) = true) (v : Value) (hrun : ∀ w, C w → (execOp a.eval o).run P w = .ok (.value v) w) (h : WQ P ops C Q rest (a.put o.dst v)) : WQ P ops C Q (o :: rest) a := ⟨quiet_valG hw v hrun h.out⟩
theorem wq_skip {Q : Act → Prop} {a : Act} {o : Oper} {rest : List Oper} (hw : Region.wanted o (yielded ops a.tmps) = false) (h : WQ P ops C Q rest (a.put o.dst undef)) : WQ P ops C Q (o :: rest) a := ⟨quiet_skip hw h.out⟩

theorem wp_region_wq {id : Nat} {Q : Exit → Act → World → Prop} {a : Act} {w : World} {l : List Oper} (n : Nat) (hm : P.follows .mixedOrders = true) (hB : Region.lexTailB .any l.toArray n = true) (hC : C { w with drawn := w.drawn + 1 })
    (h : WQ P l.toArray C (fun a' => ∀ w', C w' → wpList P l.toArray Q (l.drop n) a' w') (l.take n) a) : (Code.region id l.toArray true).wp P Q a w := wp_region_quiet_tail n hm hB hC h.out
end

end Go.Proofs.YtepgoppgblfjbaaGreatDoor
namespace Go.Proofs.YtepgoppgblfjbaaGreatDoor

namespace Pu

theorem index_at {a t : List UInt8} {c : UInt8} (h : ¬ c ∈ a) : Lib.index (a ++ c :: t) [c] = (a.length : Int) := by
  induction a with
  | nil =>
    rw [List.nil_append]
    unfold Lib.index
    simp [List.isPrefixOf]
  | cons x l ih =>
    rw [List.cons_append]
    unfold Lib.index
    have e : ¬ c = x := fun e => h (by rw [e]; exact List.mem_cons_self ..)
    have h2 : [c].isPrefixOf (x :: (l ++ c :: t)) = false := by simp [List.isPrefixOf, e]
    rw [h2, ih (fun hm => h (List.mem_cons_of_mem _ hm))]
    simp only [Bool.false_eq_true, if_false, List.length_cons]
    split
    · rename_i e; simp at e
    · omega

end Pu

theorem put_len (f : Fi) (l : List Fi) : (Pf.put f l).length ≤ l.length + 1 := by
  unfold Pf.put
  rw [(sortF_perm _).length_eq, List.length_append]
  have := without_len (fun q => Pf.within q f.path || Pf.within f.path q) l
  simp only [List.length_cons, List.length_nil, Pf.withoutAround]
  omega

end Go.Proofs.YtepgoppgblfjbaaGreatDoor
namespace Go.Proofs.YtepgoppgblfjbaaGreatDoor
open Go.RowKit

theorem results_ct {fn : Func} {p u : Tmp} {ty : TypeId} (h : fn.results = #[.cell p ty, .tmp u]) {tmps : Array Value} {P : Program} {w : World} {k : Nat} {cs : Array Value} {d : TypeDesc} {bt : TypeId}
    (hp : tmps.getD p undef = .pointer (some ⟨k, 0, none⟩)) {v : Value} (hv : tmps.getD u undef = v) (hb : Cb k cs bt w) (hu : P.underlying ty = some d) (hd : aggD d = true) (hi : (P.info? ty).map (·.size) = some cs.size) :
    (results fn tmps).run P w = .ok (.tuple #[.agg cs, v]) w := by
  have hl : (loadVar ty ⟨k, 0, none⟩).run P w = .ok (.agg cs) w := run_loadVar_row _ _ bt ty cs (0, 0) _ hb hu (by cases d <;> first | rfl | cases hd) hi
  simp only [results, h]
  have hp' : tmps[p]?.getD undef = .pointer (some ⟨k, 0, none⟩) := by simpa using hp
  have hv' : tmps[u]?.getD undef = v := by simpa using hv
  simp [Result.andThen, hp', hv', asAddr, hl]

def zObj : Value := .agg #[.int .i64 0, .string ⟨#[]⟩, .string ⟨#[]⟩]

theorem objF_val (g : Objs) (k : List UInt8) : ∃ (n : Int) (a b : Array UInt8), (objF g k).getD zObj = .agg #[.int .i64 n, .string ⟨a⟩, .string ⟨b⟩] ∧ (objF g k).isSome = (g k).isSome ∧ ∀ x, g k = some x → n = (x.1 : Int) ∧ a = x.2.toArray := by
  unfold objF
  cases h : g k with
  | none => exact ⟨0, #[], #[], rfl, rfl, fun x e => by cases e⟩
  | some y => exact ⟨(y.1 : Int), y.2.toArray, k.toArray, rfl, rfl, fun x e => by cases e; exact ⟨rfl, rfl⟩⟩

set_option maxHeartbeats 800000 in
set_option maxRecDepth 100000 in
theorem hobject_any {M : Nat → Prop} {w : World} {h o c r t n : Nat} {S : St} (hs : Sto M w h o c r t n S) (name : List UInt8) (hi : name.length ≤ maxLen) (k : Int) (a b : Array UInt8) (f : Bool)
    (hv : (objF S.obj name).getD zObj = .agg #[.int .i64 k, .string ⟨a⟩, .string ⟨b⟩]) (hf : (objF S.obj name).isSome = f) :
    Calls Tryz.prog 55 #[.pointer (some ⟨h, 0, none⟩), .string ⟨name.toArray⟩] w fun e w' => e = .returned (.tuple #[.agg #[.int .i64 k, .string ⟨a⟩, .string ⟨b⟩], .bool f]) ∧ Kx (fun _ => False) w w' := by
  have hA := (Kx.refl (fun _ => False) w).alloc (.cells #[.int .i64 0, .string ⟨#[]⟩, .string ⟨#[]⟩] 105)
  have hc2 : (w.alloc (.cells #[.int .i64 0, .string ⟨#[]⟩, .string ⟨#[]⟩] 105)).cell? ⟨h, 0, none⟩ = some (.map (some o)) := Cb.cell (hs.hi.kept hA id) 0
  have hm := hs.obj.kept hA id
  go_enter Tryz.func55, Tryz.ntmps55
  go_wp2_with (refine wpList_lookOkS rfl _ _ 146 rfl 105 (by kernel_rfl) (by kernel_rfl) zObj (by kernel_rfl) o n (objF S.obj) rfl hm name rfl hi ?_)
  have hF := ((Kx.refl (fun _ => False) w).alloc (.cells #[.int .i64 k, .string ⟨a⟩, .string ⟨b⟩] 105)).alloc (.cells #[.int .i64 k, .string ⟨a⟩, .string ⟨b⟩] 105)
  have hB : Cb w.heap.size #[.int .i64 k, .string ⟨a⟩, .string ⟨b⟩] 105 ((w.alloc (.cells #[.int .i64 k, .string ⟨a⟩, .string ⟨b⟩] 105)).alloc (.cells #[.int .i64 k, .string ⟨a⟩, .string ⟨b⟩] 105)) := (Cb.new _ _ _).kept ((Kx.refl (fun _ => False) _).alloc _) id
  clear hc2 hm hv hf hA
  refine bodyPost_ret (v := .tuple #[.agg #[.int .i64 k, .string ⟨a⟩, .string ⟨b⟩], .bool f]) (results_ct (k := w.heap.size) rfl rfl rfl hB Tryz.underlying105 rfl (by kernel_rfl)) rfl ⟨rfl, hF⟩

theorem Str.move {M M' X : Nat → Prop} {w w' : World} {s h o c r t n : Nat} {S : St} {j : List UInt8} {vj : Value} (hs : Str M w s h o c r t n S j vj) (hM : ∀ k, k < w.heap.size → M' k → M k) (hMM : ∀ k, M k → M' k)
    (hk : Kx X w w') (hX : ∀ k, k < w.heap.size → X k → M k) (hF : ∀ k, StX s o c r t vj k → ¬ X k) (hlow : ∀ k, M' k → 7 ≤ k ∧ k < w'.heap.size) : Str M' w' s h o c r t n S j vj :=
  ⟨hs.sto.move hM (fun k e => hMM k (hs.sto.inM k e)) hk (fun k hk e => hMM k (hX k hk e)) (fun k e => hF k (.inr (.inl e))) hlow, hs.jr.kept hk (hF s (.inl rfl)) (fun k e => hF k (.inr (.inr e))), hMM s hs.inS, fun k e => hMM k (hs.inV k e)⟩

def idT (g : List UInt8 → Option (List UInt8)) (k : List UInt8) : List UInt8 := ((g k).map Sh.hex).getD []
def tagC (g : List UInt8 → Option (List UInt8)) (k : List UInt8) : List Value := [.string ⟨k.toArray⟩, .string ⟨(idT g k).toArray⟩]
def tagsV (g : List UInt8 → Option (List UInt8)) (ks : List (List UInt8)) : List Value := ks.flatMap (tagC g)

theorem tagsV_succ (g : List UInt8 → Option (List UInt8)) (l : List (List UInt8)) (k : Nat) (h : k < l.length) : tagsV g (l.take (k + 1)) = tagsV g (l.take k) ++ tagC g l[k] := flat_succ _ _ _ h

theorem tagF_some {M : Nat → Prop} {w : World} {f : List UInt8 → Option Value} {g : List UInt8 → Option (List UInt8)} (h : TagF M w f g) (k : List UInt8) : (f k).isSome = (g k).isSome := by
  cases hg : g k with
  | none => rw [(h k).1 hg]; rfl
  | some c =>
    obtain ⟨b, hb, _⟩ := (h k).2 c hg
    rw [hb]
    rfl

theorem tg_id {M : Nat → Prop} {w : World} {b : Nat} {s : List UInt8} (h : Tg M w b s) : w.cell? ⟨b, 2, none⟩ = some (.string ⟨(Sh.hex s).toArray⟩) := by
  obtain ⟨x, name, cb, msg, h1, _⟩ := h
  exact Cb.cell h1 2

set_option maxHeartbeats 1600000 in
set_option maxRecDepth 100000 in
theorem htags_any {M : Nat → Prop} {w : World} {h o c r t n : Nat} {S : St} (hs : Sto M w h o c r t n S) (hn : n ≤ 30000000000) :
    Calls Tryz.prog 56 #[.pointer (some ⟨h, 0, none⟩)] w fun e w' => ∃ v ks, e = .returned v ∧ KeyL S.tag ks ∧ ks.length ≤ n ∧ w'.ownsRow w.heap.size 46 2 v ks.length (tagsV S.tag ks) ∧ Kx (fun _ => False) w w' := by
  obtain ⟨i0, hi0, hz0, hz1, hz2⟩ := info_parts info46
  obtain ⟨f, hf, hF⟩ := hs.tag
  have c2 : w.cell? ⟨h, 3, none⟩ = some (.map (some t)) := Cb.cell hs.hi 3
  have hmx : maxLen = 9223372036854775807 := rfl
  have hhl := hs.hi.lt
  have hHi := hs.hi
  go_enter Tryz.func56, Tryz.ntmps56
  go_wp2_with fail
  refine (keys89_any t w).mono ?_
  rintro _ _ ⟨rfl, rfl⟩
  go_wp2_with fail
  refine (sorted89_any hf (by omega)).mono ?_
  rintro _ w2 ⟨v, ks, rfl, hKL, hkl, hrow, hk2⟩
  have hKR := hKL.cast (tagF_some hF)
  obtain ⟨av, cv, hav⟩ : ∃ a c, v = .slice a ks.length c := by
    rcases hrow.2 with ⟨h1, h2⟩ | ⟨g, cap, cur, h1, _⟩
    · exact ⟨none, 0, by rw [h1, h2]⟩
    · exact ⟨_, _, h1⟩
  subst hav
  clear c2
  go_wp2
  go_loopw [13, 3] (fun iv v wr => ∃ (k : Nat), iv = .int .i64 k ∧ k ≤ ks.length ∧ Kx (fun _ => False) w2 wr ∧ wr.ownsRow w2.heap.size 46 2 v k (tagsV S.tag (ks.take k))) (fun iv _ _ => ks.length - (intOf iv).toNat)
  case atStart => exact ⟨0, rfl, by omega, Kx.refl _ _, World.ownsRow_nil _ _ _ _⟩
  case round =>
    obtain ⟨k, rfl, hk, hkx, hown⟩ := hrel
    have hk0 := hk2.trans hkx
    by_cases hlt : k < ks.length
    · have hlt2 : (k : Int) < (ks.length : Int) := by omega
      obtain ⟨g, cap, he, hck⟩ := row_cell (own_kept' hrow hkx (fun _ _ _ => id)) k hlt
      cases he
      have HL : Hid (tagsV S.tag (ks.take (k + 1)) = tagsV S.tag (ks.take k) ++ tagC S.tag ks[k]) := tagsV_succ S.tag ks k hlt
      have hmem := (hKR.mem ks[k]).1 (List.getElem_mem hlt)
      obtain ⟨cm, hcm⟩ := Option.isSome_iff_exists.1 hmem
      obtain ⟨b, hb, hC⟩ := (hF ks[k]).2 cm hcm
      have HI : Hid (tagC S.tag ks[k] = [.string ⟨ks[k].toArray⟩, .string ⟨(Sh.hex cm).toArray⟩]) := by
        show _ = _
        unfold tagC idT
        rw [hcm]
        rfl
      have hidc := (hk0.cell (p := ⟨b, 2, none⟩) (lt_of_cell (p := ⟨b, 2, none⟩) (tg_id hC)) id).trans (tg_id hC)
      have hfr := hf.kept hk0 id
      have c2 : wr.cell? ⟨h, 3, none⟩ = some (.map (some t)) := Cb.cell (hHi.kept hk0 id) 3
      have hlen : ks[k].length ≤ maxLen := hf.keyLen (by kernel_rfl) hb
      clear hcm hmem
      unfold ptrV at hb
      generalize ks[k] = nm at *
      generalize Sh.hex cm = idd at *
      have hgv : (f nm).getD (.pointer none) = .pointer (some ⟨b, 0, none⟩) := by rw [hb]; rfl
      go_wp2_with (first | refine wpList_lookS rfl _ _ 148 rfl 185 (by kernel_rfl) (by kernel_rfl) (.pointer none) (by kernel_rfl) t n f rfl hfr nm rfl hlen ?_ | (at_builtin; refine wpList_append_own _ rfl (.tmp 17) (.tmp 30) 41 rfl w2.heap.size 46 i0 _ 2 32 Tryz.underlying41 hi0 hz0 hz1 hz2 rfl (by decide) _ k (tagsV S.tag (ks.take k)) rfl (hown.alloc _) ⟨wr.heap.size, 0, none⟩ 1 1 [.string ⟨nm.toArray⟩, .string ⟨idd.toArray⟩] rfl rfl ?c1 ?c2 ?c3 ?c4 ?c5 ?_))
      case c1 => exact cells_new wr [.string ⟨nm.toArray⟩, .string ⟨idd.toArray⟩] 46
      case c2 => simp [Value.oneCell']
      case c3 => unfold maxLen; omega
      case c4 => omega
      case c5 => have := hkx.size; simp; omega
      intro v4 w4 hown4 hgrow4 _
      have hk4 : Kx (fun _ => False) w2 w4 := (hkx.alloc _).grown hgrow4 (fun k he => (hown.lt k he).1)
      have hown5 : w4.ownsRow w2.heap.size 46 2 v4 (k + 1) (tagsV S.tag (ks.take (k + 1))) := by rw [HL.out, HI.out]; exact hown4
      clear hown4 hgrow4
      go_wp2
      go_roundw
      case rel => exact ⟨k + 1, by go_num, hlt, hk4, hown5⟩
      case measure => simp [intOf]; omega
    · obtain rfl : k = ks.length := by omega
      have hlt2 : ¬ (ks.length : Int) < (ks.length : Int) := by omega
      rw [List.take_of_length_le (Nat.le_refl _)] at hown
      go_wp2
      go_ret
      exact ⟨_, rfl, ks, hKR, hkl, own_mono hown hk2.size, hk0⟩

theorem tags_any {M : Nat → Prop} {w : World} {s h o c r t n : Nat} {S : St} {j : List UInt8} {vj : Value} (hs : Str M w s h o c r t n S j vj) (hn : n ≤ 30000000000) :
    Calls Tryz.prog 32 #[.pointer (some ⟨s, 0, none⟩)] w fun e w' => ∃ v ks, e = .returned v ∧ KeyL S.tag ks ∧ ks.length ≤ n ∧ w'.ownsRow w.heap.size 46 2 v ks.length (tagsV S.tag ks) ∧ Kx (fun _ => False) w w' := by
  have c0 : w.cell? ⟨s, 0, none⟩ = some (.pointer (some ⟨h, 0, none⟩)) := Cb.cell hs.jr.blk 0
  have hc := htags_any hs.sto hn
  go_enter Tryz.func32, Tryz.ntmps32
  go_wp2_with fail
  refine hc.mono ?_
  rintro _ w2 ⟨v, ks, rfl, h1, h2, h3, h4⟩
  clear hc
  go_wp2
  go_ret
  exact ⟨v, ks, rfl, h1, h2, h3, h4⟩

def refLn (g : List UInt8 → Option Com) (k : List UInt8) : List UInt8 := [114, 32] ++ k ++ [32] ++ idAt g k ++ [10]
def tagLn (g : List UInt8 → Option (List UInt8)) (k : List UInt8) : List UInt8 := [116, 32] ++ k ++ [32] ++ idT g k ++ [10]
def idLn (k : List UInt8) : List UInt8 := k ++ [10]

def ShownR (S : St) (out : List UInt8) : Prop :=
  ∃ ks ts is, KeyL S.ref ks ∧ KeyL S.tag ts ∧ KeyL S.obj is ∧ out = ks.flatMap (refLn S.ref) ++ ts.flatMap (tagLn S.tag) ++ is.flatMap idLn

theorem ShownR.one {S : St} {a b : List UInt8} (ha : ShownR S a) (hb : ShownR S b) : a = b := by
  obtain ⟨k1, t1, i1, h1, h2, h3, rfl⟩ := ha
  obtain ⟨k2, t2, i2, g1, g2, g3, rfl⟩ := hb
  rw [h1.one g1 (fun _ => rfl), h2.one g2 (fun _ => rfl), h3.one g3 (fun _ => rfl)]

theorem keyL_nil {β : Type} {l : List (List UInt8)} (h : KeyL (fun _ => (none : Option β)) l) : l = [] := by
  cases l with
  | nil => rfl
  | cons x l =>
    have := (h.mem x).1 (List.mem_cons_self ..)
    cases this

theorem ShownR.empty {a : List UInt8} (h : ShownR St.empty a) : a = [] := by
  obtain ⟨k1, t1, i1, h1, h2, h3, rfl⟩ := h
  rw [keyL_nil h1, keyL_nil h2, keyL_nil h3]
  rfl

theorem flatL_len {α : Type} (f : α → List UInt8) (B : Nat) : ∀ (l : List α), (∀ x ∈ l, (f x).length ≤ B) → (l.flatMap f).length ≤ B * l.length
  | [], _ => Nat.le_refl _
  | x :: l, h => by
    have h1 := h x (List.mem_cons_self ..)
    have h2 := flatL_len f B l (fun y hy => h y (List.mem_cons_of_mem _ hy))
    rw [List.flatMap_cons, List.length_append, List.length_cons, Nat.mul_add]
    omega

theorem flat2_at {α : Type} (f : α → List Value) (hf : ∀ x, (f x).length = 2) : ∀ (l : List α) (i j : Nat) (hi : i < l.length), j < 2 → (l.flatMap f)[i * 2 + j]? = (f l[i])[j]?
  | [], i, j, hi, _ => absurd hi (Nat.not_lt_zero _)
  | x :: l, 0, j, _, hj => by
    rw [List.flatMap_cons, List.getElem?_append_left (by rw [hf]; omega)]
    simp
  | x :: l, i + 1, j, hi, hj => by
    rw [List.flatMap_cons, List.getElem?_append_right (by rw [hf]; omega), hf]
    have e : (i + 1) * 2 + j - 2 = i * 2 + j := by omega
    rw [e, flat2_at f hf l i j (by simpa using hi) hj]
    rfl

theorem row2_cell {w : World} {base : Nat} {e : TypeId} {v : Value} {l : List (List UInt8)} {f : List UInt8 → List Value} (h : w.ownsRow base e 2 v l.length (l.flatMap f)) (hf : ∀ x, (f x).length = 2) (k : Nat) (hk : k < l.length) :
    ∃ g cap, v = .slice (some ⟨g, 0, none⟩) l.length cap ∧ ∀ j, j < 2 → w.cell? ⟨g, k * 2 + j, none⟩ = (f l[k])[j]? := by
  rcases h.2 with ⟨_, h0⟩ | ⟨g, cap, cur, rfl, hb, hg, hc, hm, hs, ht⟩
  · omega
  · refine ⟨g, cap, rfl, fun j hj => ?_⟩
    unfold World.cell?
    rw [hg]
    have hx := flat2_at f hf l k j hk hj
    rw [← ht, List.getElem?_take_of_lt (by omega)] at hx
    rw [← hx]
    simp

theorem row_shape {w : World} {base n : Nat} {e : TypeId} {size : Nat} {v : Value} {xs : List Value} (h : w.ownsRow base e size v n xs) : ∃ a c, v = .slice a n c := by
  rcases h.2 with ⟨h1, h2⟩ | ⟨g, cap, cur, h1, _⟩
  · exact ⟨none, 0, by rw [h1, h2]⟩
  · exact ⟨_, _, h1⟩

theorem flatB_succ {α : Type} (f : α → List UInt8) (l : List α) (k : Nat) (h : k < l.length) : (l.take (k + 1)).flatMap f = (l.take k).flatMap f ++ f l[k] := by
  rw [List.take_succ_eq_append_getElem h, List.flatMap_append]
  simp

theorem idAt_len {M : Nat → Prop} {w : World} {f : List UInt8 → Option Value} {g : List UInt8 → Option Com} (h : ComF M w f g) (k : List UInt8) : (idAt g k).length ≤ 64 := by
  unfold idAt
  cases hg : g k with
  | none => simp
  | some c =>
    obtain ⟨b, _, hC⟩ := (h k).2 c hg
    show (Sh.hex c.sum).length ≤ 64
    rw [hex_len, hC.sum]
    exact Nat.le_refl _
theorem idT_len {M : Nat → Prop} {w : World} {f : List UInt8 → Option Value} {g : List UInt8 → Option (List UInt8)} (h : TagF M w f g) (k : List UInt8) : (idT g k).length ≤ 64 := by
  unfold idT
  cases hg : g k with
  | none => simp
  | some c =>
    obtain ⟨b, _, hC⟩ := (h k).2 c hg
    obtain ⟨_, _, _, _, _, _, h5, _⟩ := hC
    show (Sh.hex c).length ≤ 64
    rw [hex_len, h5]
    exact Nat.le_refl _

theorem KeyL.some' {β : Type} {f : List UInt8 → Option β} {ks : List (List UInt8)} (h : KeyL f ks) {x : List UInt8} (hx : x ∈ ks) : f x ≠ none := by
  have := (h.mem x).1 hx
  intro e
  rw [e] at this
  cases this

theorem refLn_len {M : Nat → Prop} {w : World} {f : List UInt8 → Option Value} {S : St} (h : ComF M w f S.ref) (hb : StB S) {ks : List (List UInt8)} (hK : KeyL S.ref ks) : ∀ x ∈ ks, (refLn S.ref x).length ≤ 1100 := by
  intro x hx
  have h1 := idAt_len h x
  have h2 := hb.ref x (hK.some' hx)
  unfold refLn
  simp only [List.length_append, List.length_cons, List.length_nil]
  omega
theorem tagLn_len {M : Nat → Prop} {w : World} {f : List UInt8 → Option Value} {S : St} (h : TagF M w f S.tag) (hb : StB S) {ks : List (List UInt8)} (hK : KeyL S.tag ks) : ∀ x ∈ ks, (tagLn S.tag x).length ≤ 1100 := by
  intro x hx
  have h1 := idT_len h x
  have h2 := hb.tag x (hK.some' hx)
  unfold tagLn
  simp only [List.length_append, List.length_cons, List.length_nil]
  omega
theorem idLn_len {S : St} (hb : StB S) {ks : List (List UInt8)} (hK : KeyL S.obj ks) : ∀ x ∈ ks, (idLn x).length ≤ 1100 := by
  intro x hx
  have h2 := hb.obj x (hK.some' hx)
  unfold idLn
  simp only [List.length_append, List.length_cons, List.length_nil]
  omega

theorem flat_take {α : Type} (f : α → List UInt8) (B : Nat) (l : List α) (h : ∀ x ∈ l, (f x).length ≤ B) (k : Nat) : ((l.take k).flatMap f).length ≤ B * l.length := by
  refine Nat.le_trans (flatL_len f B (l.take k) (fun x hx => h x (List.mem_of_mem_take hx))) ?_
  refine Nat.mul_le_mul_left _ ?_
  rw [List.length_take]
  omega

set_option maxHeartbeats 1600000 in
set_option maxRecDepth 100000 in
theorem shown_any {M : Nat → Prop} {w : World} {s h o c r t n : Nat} {S : St} {j : List UInt8} {vj : Value} (hs : Str M w s h o c r t n S j vj) (hn : n ≤ 30000000000) (hb : StB S) :
    Calls Tryz.prog 37 #[.pointer (some ⟨s, 0, none⟩)] w fun e w' => ∃ out, e = .returned (.string ⟨out.toArray⟩) ∧ ShownR S out ∧ out.length ≤ 1000000000000000 ∧ Kx (fun _ => False) w w' := by
  have hmx : maxLen = 9223372036854775807 := rfl
  have happ := app_str
  obtain ⟨fr, _, hFr⟩ := hs.sto.ref
  obtain ⟨ft, _, hFt⟩ := hs.sto.tag
  have hrefs := refs_any' hs hn
  have Hs : Hid (Str M w s h o c r t n S j vj) := hs
  have Hb : Hid (StB S) := hb
  have HFr : Hid (ComF M w fr S.ref) := hFr
  have HFt : Hid (TagF M w ft S.tag) := hFt
  clear hs hb hFr hFt
  go_enter Tryz.func37, Tryz.ntmps37
  go_wp2_with fail
  refine hrefs.mono ?_
  rintro _ w1 ⟨v1, ks, rfl, hK, hkl, hrow, hk1⟩
  clear hrefs
  obtain ⟨a1, c1, rfl⟩ := row_shape hrow
  have HR : Hid (∀ x ∈ ks, (refLn S.ref x).length ≤ 1100) := refLn_len HFr.out Hb.out hK
  have HK : Hid (KeyL S.ref ks) := hK
  clear hK
  go_wp2_with fail
  go_loopw [5, 3] (fun iv ov wr => ∃ i : Nat, iv = .int .i64 i ∧ i ≤ ks.length ∧ ov = .string ⟨((ks.take i).flatMap (refLn S.ref)).toArray⟩ ∧ Kx (fun _ => False) w1 wr) (fun iv _ _ => ks.length - (intOf iv).toNat)
  case atStart => exact ⟨0, rfl, by omega, rfl, Kx.refl _ _⟩
  case round =>
    obtain ⟨i, rfl, hi, rfl, hkr⟩ := hrel
    by_cases hlt : i < ks.length
    · have hlt2 : (i : Int) < (ks.length : Int) := by omega
      obtain ⟨g, cap, he, hcell⟩ := row2_cell (own_kept' hrow hkr (fun _ _ _ => id)) (fun _ => rfl) i hlt
      cases he
      have hc0 : wr.cell? ⟨g, i * 2, none⟩ = some (.string ⟨ks[i].toArray⟩) := hcell 0 (by omega)
      have hc1 : wr.cell? ⟨g, i * 2 + 1, none⟩ = some (.string ⟨(idAt S.ref ks[i]).toArray⟩) := hcell 1 (by omega)
      have HA : Hid ((ks.take (i + 1)).flatMap (refLn S.ref) = (ks.take i).flatMap (refLn S.ref) ++ ([114, 32] ++ ks[i] ++ [32] ++ idAt S.ref ks[i] ++ [10])) := flatB_succ _ _ _ hlt
      have hl2 : ks[i].length + (idAt S.ref ks[i]).length ≤ 1100 := by
        have := HR.out ks[i] (List.getElem_mem hlt)
        unfold refLn at this
        simp only [List.length_append, List.length_cons, List.length_nil] at this
        omega
      have hl1 := flat_take (refLn S.ref) 1100 ks HR.out i
      generalize (ks.take i).flatMap (refLn S.ref) = A at *
      generalize idAt S.ref ks[i] = idd at *
      generalize ks[i] = nm at *
      clear hcell
      go_wp2_with fail
      go_quiet (fail)
      go_wp2
      go_roundw
      case rel => exact ⟨i + 1, by go_num, hlt, by rw [HA.out]; simp, hkr.drewN _⟩
      case measure => simp [intOf]; omega
    · obtain rfl : i = ks.length := by omega
      have hlt2 : ¬ (ks.length : Int) < (ks.length : Int) := by omega
      rw [List.take_of_length_le (Nat.le_refl _)]
      have hlo1 := flatL_len (refLn S.ref) 1100 ks HR.out
      generalize hO1 : ks.flatMap (refLn S.ref) = O1 at *
      have HO1 : Hid (ks.flatMap (refLn S.ref) = O1) := hO1
      clear hO1
      have hk2 := hk1.trans hkr
      have htags := tags_any (Hs.out.kept hk2 (fun _ _ h => h.elim) (fun _ _ => id)) hn
      clear hrow hk1 hkr HR
      go_wp2_with fail
      refine htags.mono ?_
      rintro _ w3 ⟨v3, ts, rfl, hKt, htl, hrowt, hk3⟩
      clear htags
      have hk4 := hk2.trans hk3
      obtain ⟨a3, c3, rfl⟩ := row_shape hrowt
      have HRt : Hid (∀ x ∈ ts, (tagLn S.tag x).length ≤ 1100) := tagLn_len HFt.out Hb.out hKt
      have HKt : Hid (KeyL S.tag ts) := hKt
      clear hKt hk2 hk3
      go_wp2_with fail
      go_loopw [7, 3] (fun iv ov wr => ∃ i : Nat, iv = .int .i64 i ∧ i ≤ ts.length ∧ ov = .string ⟨(O1 ++ (ts.take i).flatMap (tagLn S.tag)).toArray⟩ ∧ Kx (fun _ => False) w3 wr) (fun iv _ _ => ts.length - (intOf iv).toNat)
      case atStart => exact ⟨0, rfl, by omega, by simp, Kx.refl _ _⟩
      case round =>
        obtain ⟨i, rfl, hi, rfl, hkr⟩ := hrel
        by_cases hlt : i < ts.length
        · have hlt2 : (i : Int) < (ts.length : Int) := by omega
          obtain ⟨g, cap, he, hcell⟩ := row2_cell (own_kept' hrowt hkr (fun _ _ _ => id)) (fun _ => rfl) i hlt
          cases he
          have hc0 : wr.cell? ⟨g, i * 2, none⟩ = some (.string ⟨ts[i].toArray⟩) := hcell 0 (by omega)
          have hc1 : wr.cell? ⟨g, i * 2 + 1, none⟩ = some (.string ⟨(idT S.tag ts[i]).toArray⟩) := hcell 1 (by omega)
          have HA : Hid ((ts.take (i + 1)).flatMap (tagLn S.tag) = (ts.take i).flatMap (tagLn S.tag) ++ ([116, 32] ++ ts[i] ++ [32] ++ idT S.tag ts[i] ++ [10])) := flatB_succ _ _ _ hlt
          have hl2 : ts[i].length + (idT S.tag ts[i]).length ≤ 1100 := by
            have := HRt.out ts[i] (List.getElem_mem hlt)
            unfold tagLn at this
            simp only [List.length_append, List.length_cons, List.length_nil] at this
            omega
          have hl1 := flat_take (tagLn S.tag) 1100 ts HRt.out i
          generalize (ts.take i).flatMap (tagLn S.tag) = A at *
          generalize idT S.tag ts[i] = idd at *
          generalize ts[i] = nm at *
          clear hcell
          go_wp2_with fail
          go_quiet (fail)
          go_wp2
          go_roundw
          case rel => exact ⟨i + 1, by go_num, hlt, by rw [HA.out]; simp, hkr.drewN _⟩
          case measure => simp [intOf]; omega
        · obtain rfl : i = ts.length := by omega
          have hlt2 : ¬ (ts.length : Int) < (ts.length : Int) := by omega
          rw [List.take_of_length_le (Nat.le_refl _)]
          have hlo2 := flatL_len (tagLn S.tag) 1100 ts HRt.out
          generalize hO2 : ts.flatMap (tagLn S.tag) = O2 at *
          have HO2 : Hid (ts.flatMap (tagLn S.tag) = O2) := hO2
          clear hO2
          have hk5 := hk4.trans hkr
          have hids := ids_any (Hs.out.kept hk5 (fun _ _ h => h.elim) (fun _ _ => id)) hn
          clear hrowt hk4 hkr HRt
          obtain ⟨O3, hO3⟩ : ∃ O3, O3 = O1 ++ O2 := ⟨_, rfl⟩
          have hlo3 : O3.length = O1.length + O2.length := by rw [hO3, List.length_append]
          have HO3 : Hid (O3 = O1 ++ O2) := hO3
          rw [← hO3]
          clear hO3
          go_wp2_with fail
          refine hids.mono ?_
          rintro _ w6 ⟨v6, is, rfl, hKi, hil, hrowi, hk6⟩
          clear hids
          have hk7 := hk5.trans hk6
          obtain ⟨a6, c6, rfl⟩ := row_shape hrowi
          have HRi : Hid (∀ x ∈ is, (idLn x).length ≤ 1100) := idLn_len Hb.out hKi
          have HKi : Hid (KeyL S.obj is) := hKi
          clear hKi hk5 hk6
          go_wp2_with fail
          go_loopw [9, 3] (fun iv ov wr => ∃ i : Nat, iv = .int .i64 i ∧ i ≤ is.length ∧ ov = .string ⟨(O3 ++ (is.take i).flatMap idLn).toArray⟩ ∧ Kx (fun _ => False) w6 wr) (fun iv _ _ => is.length - (intOf iv).toNat)
          case atStart => exact ⟨0, rfl, by omega, by simp, Kx.refl _ _⟩
          case round =>
            obtain ⟨i, rfl, hi, rfl, hkr⟩ := hrel
            by_cases hlt : i < is.length
            · have hlt2 : (i : Int) < (is.length : Int) := by omega
              obtain ⟨g, cap, he, hc0⟩ := row_cell (own_kept' hrowi hkr (fun _ _ _ => id)) i hlt
              cases he
              have HA : Hid ((is.take (i + 1)).flatMap idLn = (is.take i).flatMap idLn ++ (is[i] ++ [10])) := flatB_succ _ _ _ hlt
              have hl2 : is[i].length ≤ 1100 := by
                have := HRi.out is[i] (List.getElem_mem hlt)
                unfold idLn at this
                simp only [List.length_append, List.length_cons, List.length_nil] at this
                omega
              have hl1 := flat_take idLn 1100 is HRi.out i
              generalize (is.take i).flatMap idLn = A at *
              generalize is[i] = nm at *
              go_wp2
              go_roundw
              case rel => exact ⟨i + 1, by go_num, hlt, by rw [HA.out], hkr⟩
              case measure => simp [intOf]; omega
            · obtain rfl : i = is.length := by omega
              have hlt2 : ¬ (is.length : Int) < (is.length : Int) := by omega
              rw [List.take_of_length_le (Nat.le_refl _)]
              have hlo4 := flatL_len idLn 1100 is HRi.out
              have HF : Hid (ShownR S (O3 ++ is.flatMap idLn)) := ⟨ks, ts, is, HK.out, HKt.out, HKi.out, by rw [HO3.out, HO1.out, HO2.out]⟩
              have hk8 := hk7.trans hkr
              clear hrowi
              go_wp2
              go_ret
              exact ⟨_, rfl, HF.out, by rw [List.length_append]; omega, hk8⟩

set_option maxHeartbeats 800000 in
set_option maxRecDepth 100000 in
theorem clone_nil (w : World) : Calls Tryz.prog 92 #[.slice none 0 0] w fun e w' => e = .returned (.slice none 0 0) ∧ w' = w := by
  have he : ∀ w : World, (binOp .eql 58 (.slice none 0 0) (.slice none 0 0)).run Tryz.prog w = .ok (.bool true) w := fun _ => rfl
  go_enter Tryz.func92, Tryz.ntmps92
  go_wp2
  go_ret
  exact ⟨rfl, rfl⟩

set_option maxHeartbeats 800000 in
set_option maxRecDepth 100000 in
theorem clone_some (A : Addr) (n c : Nat) (l : List UInt8) (w : World) (hn : l.length = n) (hlen : n ≤ 140737488355328) (hc : ∀ j x, (A8 l)[j]? = some x → w.cell? (A.add j) = some x) :
    Calls Tryz.prog 92 #[.slice (some A) n c] w fun e w' => ∃ v, e = .returned v ∧ w'.ownsRow w.heap.size 5 1 v n (A8 l) ∧ Kx (fun _ => False) w w' := by
  obtain ⟨i0, hi, hz0, hz1, hz2⟩ := info_parts info5
  have hown0 : (w.alloc (.cells #[] 5)).ownsRow w.heap.size 5 1 (.slice (some ⟨w.heap.size, 0, none⟩) 0 0) 0 [] :=
    ⟨rfl, .inr ⟨w.heap.size, 0, #[], rfl, Nat.le_refl _, by show (w.heap.push _)[w.heap.size]? = _; simp, Nat.le_refl _, by unfold maxLen; omega, rfl, rfl⟩⟩
  have he : ∀ w : World, (binOp .eql 58 (.slice (some A) n c) (.slice none 0 0)).run Tryz.prog w = .ok (.bool false) w := fun _ => rfl
  have hA := (Kx.refl (fun _ => False) w).alloc (.cells #[] 5)
  go_enter Tryz.func92, Tryz.ntmps92
  go_wp2_with (at_builtin; refine wpList_append_own _ rfl (.tmp 5) (.tmp 6) 58 rfl w.heap.size 5 i0 (.int .u8 0) 1 1 Tryz.underlying58 hi hz0 hz1 hz2 rfl (by decide) _ _ _ rfl hown0 A n c (A8 l) rfl ?c0 ?c1 ?c2 ?c3 ?c4 ?c5 ?_)
  case c0 => rw [A8_len, hn]; omega
  case c1 =>
    intro j u hu
    have h1 := hc j u hu
    exact (hA.cell (lt_of_cell h1) id).trans h1
  case c2 => intro y hy; exact A8_one l y hy
  all_goals try (first | omega | (unfold maxLen; omega) | simp)
  intro v' w1 hown' hgrow hnil
  have hk : Kx (fun _ => False) w w1 := hA.grown hgrow (fun k hk => by simp [Value.ownBlock] at hk; omega)
  go_wp2
  go_ret
  exact ⟨_, rfl, by simpa using hown', hk⟩

theorem own_nil_row {w : World} {base n : Nat} {l : List UInt8} (hn : l = []) : n = l.length → w.ownsRow base 5 1 (.slice none 0 0) n (A8 l) := by
  rintro rfl
  subst hn
  exact World.ownsRow_nil _ _ _ _

set_option maxHeartbeats 800000 in
set_option maxRecDepth 100000 in
theorem bytes_any {M : Nat → Prop} {w : World} {s h o c r t n : Nat} {S : St} {j : List UInt8} {vj : Value} (hs : Str M w s h o c r t n S j vj) (hj : j.length ≤ 1000000000) :
    Calls Tryz.prog 36 #[.pointer (some ⟨s, 0, none⟩)] w fun e w' => ∃ v, e = .returned v ∧ w'.ownsRow w.heap.size 5 1 v j.length (A8 j) ∧ Kx (fun _ => False) w w' := by
  have hclone : Calls Tryz.prog 92 #[vj] w fun e w' => ∃ v, e = .returned v ∧ w'.ownsRow w.heap.size 5 1 v j.length (A8 j) ∧ Kx (fun _ => False) w w' := by
    rcases hs.jr.own with ⟨rfl, h0⟩ | ⟨g, cap, cur, fz, rfl, hb, hg, hz, hc, hm, hsz, ht⟩
    · have hj0 : j = [] := by cases j with | nil => rfl | cons a l => simp [A8] at h0
      refine (clone_nil w).mono ?_
      rintro e w' ⟨rfl, rfl⟩
      exact ⟨_, rfl, own_nil_row hj0 rfl, Kx.refl _ _⟩
    · have hl := A8_len j
      rw [hl] at ht ⊢
      refine clone_some _ _ _ j w rfl (by omega) ?_
      intro k x hx
      have hk : k < (A8 j).length := (List.getElem?_eq_some_iff.1 hx).1
      rw [← ht, List.getElem?_take_of_lt (by omega)] at hx
      have hadd : (⟨g, 0, none⟩ : Addr).add k = ⟨g, k, none⟩ := by unfold Addr.add; split <;> simp_all
      rw [hadd]
      unfold World.cell?
      rw [hg]
      simpa using hx
  have c1 : w.cell? ⟨s, 1, none⟩ = some vj := Cb.cell hs.jr.blk 1
  have h60 : Calls Tryz.prog 60 #[.pointer (some ⟨s, 1, none⟩)] w fun e w' => ∃ v, e = .returned v ∧ w'.ownsRow w.heap.size 5 1 v j.length (A8 j) ∧ Kx (fun _ => False) w w' := by
    obtain ⟨av, cv, hvj⟩ := hs.jr.own.slice
    subst hvj
    go_enter Tryz.func60, Tryz.ntmps60
    go_wp2_with fail
    refine hclone.mono ?_
    rintro _ w2 ⟨v, rfl, h1, h2⟩
    go_wp2
    go_ret
    exact ⟨v, rfl, h1, h2⟩
  clear hclone c1
  go_enter Tryz.func36, Tryz.ntmps36
  go_wp2_with fail
  refine h60.mono ?_
  rintro _ w2 ⟨v, rfl, h1, h2⟩
  go_wp2
  go_ret
  exact ⟨v, rfl, h1, h2⟩

end Go.Proofs.YtepgoppgblfjbaaGreatDoor
