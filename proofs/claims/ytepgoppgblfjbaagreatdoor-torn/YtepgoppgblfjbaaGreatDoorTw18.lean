import Derived.Test.YtepgoppgblfjbaaGreatDoorTw14
import Derived.Test.YtepgoppgblfjbaaGreatDoorTw17
import Derived.Test.YtepgoppgblfjbaaGreatDoorTw16
/- Package object: Tree. -/
namespace Go.Proofs.YtepgoppgblfjbaaGreatDoor
open Go.RowKit

theorem info296 : (Tryz.prog.info? 324).map (fun i => (i.zero, i.size, i.bytes)) = some (some (.pointer none), 1, 8) := by kernel_rfl

theorem cutG_any (s sep : List UInt8) (w : World) (hs : s.length ≤ 100000) (h : Gl w) :
    Calls Tryz.prog 136 #[.string ⟨s.toArray⟩, .string ⟨sep.toArray⟩] w fun e w' => e = .returned (.tuple #[.string ⟨(Lib.cut s sep).1.toArray⟩, .string ⟨(Lib.cut s sep).2.1.toArray⟩, .bool (Lib.cut s sep).2.2]) ∧ Kx (fun _ => False) w w' := by
  obtain ⟨m, hm⟩ := h.max
  refine (Tryz.strings_Cut ⟨s.toArray⟩ ⟨sep.toArray⟩ m w (by simp [ByteArray.size]; omega) hm).mono ?_
  rintro e w' ⟨rfl, n, rfl⟩
  exact ⟨rfl, (Kx.refl _ _).drewN n⟩

/-- What stands behind the last look at the builder. -/
theorem TI.done {KK : List Int} {w : World} {T b : Nat} {c : List UInt8} {ws : Trs} {g : Option Nat} {vW : Value} {ps bs : List Nat} {w' w'' : World} (h : TI KK w T b c ws g vW ps bs w') (hk : Kx (BdX b g) w' w'') :
    Cb T #[.int .i64 0, .string ⟨#[]⟩, .string ⟨#[]⟩, vW] 391 w'' ∧ PtrRow w'' vW ps ∧ IsTrs KK w'' ws ps bs ∧ Kx (fun _ => False) w w'' := by
  have hnb : ∀ k ∈ bs, ¬ BdX b g k := fun k hk e => by
    obtain ⟨d1, _, d3, _⟩ := h.dis k hk
    rcases e with e | e
    · omega
    · exact d3 e.symm
  refine ⟨h.cb.kept hk ?_, h.row.kept hk ?_, h.trs.kept hk hnb, h.kx.join hk (fun j hj e => ?_)⟩
  · intro e
    rcases e with e | e
    · have := h.tb; omega
    · have := (h.dg T e.symm).1; have := h.tb; omega
  · intro k hk' e
    rcases e with e | e
    · have := h.dv k hk'; omega
    · exact (h.dg k e.symm).2 hk'
  · have := h.tb
    rcases e with e | e
    · omega
    · have := (h.dg j e.symm).1; omega

/-- What a call of Tree gives. -/
def TreeGives (KK : List Int) (l : List Fi) (w : World) (e : Ending) (w' : World) : Prop :=
  ∃ p bs, e = .returned (.pointer (some ⟨p, 0, none⟩)) ∧ IsTr KK w' (.mk (Pf.tree KK l).1 (Pf.tree KK l).2) p bs ∧ (∀ k ∈ bs, w.heap.size ≤ k ∧ k < w'.heap.size) ∧ Kx (fun _ => False) w w'

set_option maxHeartbeats 1000000 in
set_option maxRecDepth 100000 in
theorem tree_step (KK : List Int) (hKK : KK.length = 72) (l : List Fi) (v : Value) (mb : Nat) (mt : TypeId) (w : World) (hgl : Gl w) (hK : Cb mb (A32 KK) mt w) (hF : Fs w v l) (hfine : Fine l) (hl60 : l.length ≤ 60)
    (ih : ∀ (l' : List Fi) (v' : Value) (w' : World), Pf.weight l' < Pf.weight l → Gl w' → Cb mb (A32 KK) mt w' → Fs w' v' l' → Fine l' → l'.length ≤ 60 → Calls Tryz.prog 229 #[.pointer (some ⟨mb, 0, none⟩), v'] w' (TreeGives KK l' w')) :
    Calls Tryz.prog 229 #[.pointer (some ⟨mb, 0, none⟩), v] w (TreeGives KK l w) := by
  obtain ⟨i0, hi, hz0, hz1, hz2⟩ := info_parts info296
  have hti : TI KK w w.heap.size (w.heap.size + 1) [] .nil none (.slice none 0 0) [] [] ((w.alloc (.cells #[.int .i64 0, .string ⟨#[]⟩, .string ⟨#[]⟩, .slice none 0 0] 391)).alloc (.cells #[.pointer none, .slice none 0 0] 246)) := by
    refine ⟨⟨Nat.le_refl _, by omega⟩, ?_, (Cb.new _ 391 w).alloc _, .inl ⟨rfl, rfl⟩, rfl, by simp, by simp, by simp [Value.ownBlock], ((Kx.refl _ _).alloc _).alloc _⟩
    have h := Bd.new (w.alloc (.cells #[.int .i64 0, .string ⟨#[]⟩, .string ⟨#[]⟩, .slice none 0 0] 391))
    rw [World.size_alloc] at h
    exact h
  have IH : Hid (∀ (l' : List Fi) (v' : Value) (w' : World), Pf.weight l' < Pf.weight l → Gl w' → Cb mb (A32 KK) mt w' → Fs w' v' l' → Fine l' → l'.length ≤ 60 → Calls Tryz.prog 229 #[.pointer (some ⟨mb, 0, none⟩), v'] w' (TreeGives KK l' w')) := ih
  clear ih
  go_enter Tryz.func229, Tryz.ntmps229
  go_wp2
  revert hti
  generalize (w.alloc (.cells #[.int .i64 0, .string ⟨#[]⟩, .string ⟨#[]⟩, .slice none 0 0] 391)).alloc (.cells #[.pointer none, .slice none 0 0] 246) = w1
  intro hti
  obtain ⟨T, hT⟩ : ∃ T, w.heap.size = T := ⟨_, rfl⟩
  have HT : Hid (w.heap.size = T) := hT
  rw [hT] at hti ⊢
  clear hT
  have htl := tree_len KK l hfine
  go_loopw [1] (fun v1 w' => ∃ (l' : List Fi) (c : List UInt8) (ws : Trs) (g : Option Nat) (vW : Value) (ps bs : List Nat), TI KK w T (T + 1) c ws g vW ps bs w' ∧ Fs w v1 l' ∧ Fine l' ∧ l'.length ≤ l.length ∧ Pf.weight l' ≤ Pf.weight l ∧ c.length + 300 * l'.length ≤ 300 * l.length ∧ ps.length + l'.length ≤ l.length ∧ Pf.tree KK l = (c ++ (Pf.tree KK l').1, ws.app (Pf.tree KK l').2)) (fun v1 _ => vlen v1)
  case atStart => exact ⟨l, [], .nil, none, _, [], [], hti, hF, hfine, Nat.le_refl _, Nat.le_refl _, by simp, by simp, rfl⟩
  case round =>
    obtain ⟨l', c, ws, g, vW, ps, bs, hI, hF1, hfi, hll, hwl, hcl, hpl, hE⟩ := hrel
    have HE : Hid (Pf.tree KK l = (c ++ (Pf.tree KK l').1, ws.app (Pf.tree KK l').2)) := hE
    clear hE
    obtain ⟨q, cap, hv1, hcap, _⟩ := id hF1
    subst hv1
    cases l' with
    | nil =>
      have hn0 : ([] : List Fi).length = 0 := rfl
      rw [hn0]
      go_wp2_with fail
      refine (string_any (T + 1) c g _ hI.bd).mono ?_
      rintro _ w2 ⟨rfl, hk2⟩
      obtain ⟨hcb2, hrow2, htrs2, hkx2⟩ := hI.done hk2
      have hgl2 := hgl.kept hkx2 (fun _ _ => id)
      have hK2 := hK.kept hkx2 id
      have hTE : Pf.tree KK l = (c, ws) := by rw [HE.out, tree_nil, List.append_nil, Trs.app_nil]
      have HTE : Hid (Pf.tree KK l = (c, ws)) := hTE
      clear hTE HE
      go_wp2_with fail
      refine (object_any KK hKK mb mt 2 c _ hgl2 hK2 (by omega) (by omega)).mono ?_
      rintro _ w3 ⟨rfl, hk3⟩
      have hcb3 := hcb2.kept hk3 id
      have hrow3 := hrow2.kept hk3 (fun _ _ => id)
      have htrs3 := htrs2.kept hk3 (fun _ _ => id)
      have hkx3 := hkx2.trans hk3
      have c0 : w3.cell? ⟨T, 0, none⟩ = some (.int .i64 0) := hcb3.cell 0
      have c1 : w3.cell? ⟨T, 1, none⟩ = some (.string ⟨#[]⟩) := hcb3.cell 1
      have c2 : w3.cell? ⟨T, 2, none⟩ = some (.string ⟨#[]⟩) := hcb3.cell 2
      have f0 : w3.frozen? ⟨T, 0, none⟩ = false := hcb3.frozen 0
      have f1 : w3.frozen? ⟨T, 1, none⟩ = false := hcb3.frozen 1
      have f2 : w3.frozen? ⟨T, 2, none⟩ = false := hcb3.frozen 2
      have hTl := hcb3.lt
      obtain ⟨idv, hidv⟩ : ∃ x, Sh.idK KK 2 c = x := ⟨_, rfl⟩
      have HID : Hid (Sh.idK KK 2 c = idv) := hidv
      rw [hidv]
      clear hidv
      have h4 := ((hcb3.set 0 (.int .i64 2)).set 1 (.string ⟨c.toArray⟩)).set 2 (.string ⟨idv.toArray⟩)
      have hk4 : Kx (Only T) w3 (((w3.setCell ⟨T, 0, none⟩ (.int .i64 2)).setCell ⟨T, 1, none⟩ (.string ⟨c.toArray⟩)).setCell ⟨T, 2, none⟩ (.string ⟨idv.toArray⟩)) := (((Kx.refl _ _).only_set _).only_set _).only_set _
      go_wp2
      go_ret
      refine ⟨T, T :: (bs ++ (vW.ownBlock.toList)), rfl, ?_, ?_, ?_⟩
      · rw [HTE.out]
        unfold IsTr
        refine ⟨vW, ps, by rw [HID.out]; exact h4, hrow3.kept hk4 ?_, (htrs3.kept hk4 ?_).mono ?_, by simp, ?_⟩
        · intro k hk e; have := hI.dv k hk; unfold Only at e; omega
        · intro k hk e; have := (hI.dis k hk).1; unfold Only at e; omega
        · intro k hk; simp [hk]
        · intro k hk; simp [hk]
      · intro k hk
        have hsz : w3.heap.size = (((w3.setCell ⟨T, 0, none⟩ (.int .i64 2)).setCell ⟨T, 1, none⟩ (.string ⟨c.toArray⟩)).setCell ⟨T, 2, none⟩ (.string ⟨idv.toArray⟩)).heap.size := by simp
        have hw23 : wr.heap.size ≤ w3.heap.size := Nat.le_trans hk2.size hk3.size
        have hTT := HT.out
        rw [← hsz]
        rcases List.mem_cons.1 hk with rfl | hk
        · exact ⟨by omega, hTl⟩
        · rcases List.mem_append.1 hk with hk | hk
          · have := hI.dis k hk; exact ⟨by omega, by omega⟩
          · have hk' : vW.ownBlock = some k := by simpa using hk
            have h1 := hI.dv k hk'
            have h2 := (OwnB.lt hI.row k hk').2
            exact ⟨by omega, by omega⟩
      · exact hkx3.join hk4 (fun j hj e => by have := HT.out; unfold Only at e; omega)
    | cons f r =>
      have hlen : (f :: r).length = r.length + 1 := rfl
      have hff := hfi f (by simp)
      have hFr := hF1.kept hI.kx (fun _ _ => id)
      obtain ⟨g0, o, cap', he, p0, p1, p2⟩ := hFr.file 0 (by simp)
      cases he
      have hglr := hgl.kept hI.kx (fun _ _ => id)
      have hKr := hK.kept hI.kx id
      simp only [List.getElem_cons_zero, Nat.mul_zero, Nat.add_zero] at p0 p1 p2
      have hd1 : ∀ k, k ≤ (f :: r).length → Fs w (.slice (if cap = k then some ⟨g0, o, none⟩ else some ⟨g0, o + 3 * k, none⟩) ((f :: r).length - k) (cap - k)) ((f :: r).drop k) := fun k hk => hF1.drop hk
      have HD : Hid (∀ k, k ≤ (f :: r).length → Fs w (.slice (if cap = k then some ⟨g0, o, none⟩ else some ⟨g0, o + 3 * k, none⟩) ((f :: r).length - k) (cap - k)) ((f :: r).drop k)) := hd1
      clear hd1
      have hpos : 0 < (f :: r).length := by simp
      have HNF := fun h => tree_file KK f r h
      have HND := fun inside h hi => tree_dir KK f r inside h hi
      have HNF' : Hid ((Lib.cut f.path [47]).2.2 = false → Pf.tree KK (f :: r) = (Pf.entry f.mode (Lib.cut f.path [47]).1 f.sum ++ (Pf.tree KK r).1, (Pf.tree KK r).2)) := HNF
      clear HNF
      have hFb := Cb.new #[.string ⟨f.path.toArray⟩, .string ⟨f.mode.toArray⟩, .string ⟨(Sh.hex f.sum).toArray⟩] 114 wr
      have hkA : Kx (fun _ => False) wr (wr.alloc (.cells #[.string ⟨f.path.toArray⟩, .string ⟨f.mode.toArray⟩, .string ⟨(Sh.hex f.sum).toArray⟩] 114)) := (Kx.refl _ _).alloc _
      go_wp2_with fail
      refine (cutG_any f.path [47] _ (by omega) (hglr.kept hkA (fun _ _ => id))).mono ?_
      rintro _ w2 ⟨rfl, hk2⟩
      have hFb2 := hFb.kept hk2 id
      have hk2' := hkA.trans hk2
      have hI2 := hI.keep hk2'
      have hgl2 := hglr.kept hk2' (fun _ _ => id)
      have hK2 := hKr.kept hk2' id
      clear hFb hkA hk2 hglr hKr hFr p0 p1 p2
      have hcl2 := cut_len f.path
      have hl2 : (Lib.cut f.path [47]).1.length ≤ 200 := by omega
      obtain ⟨Fb, hFB⟩ : ∃ x, wr.heap.size = x := ⟨_, rfl⟩
      have HFB : Hid (wr.heap.size = Fb) := hFB
      rw [hFB] at hFb2 ⊢
      clear hFB
      have d1 : w2.cell? ⟨Fb, 1, none⟩ = some (.string ⟨f.mode.toArray⟩) := hFb2.cell 1
      have d2 : w2.cell? ⟨Fb, 2, none⟩ = some (.string ⟨(Sh.hex f.sum).toArray⟩) := hFb2.cell 2
      cases hct : (Lib.cut f.path [47]).2.2
      · have hEE := HNF'.out hct
        have HEE : Hid (Pf.tree KK l = (c ++ (Pf.entry f.mode (Lib.cut f.path [47]).1 f.sum ++ (Pf.tree KK r).1), ws.app (Pf.tree KK r).2)) := by show _ = _; rw [HE.out, hEE]
        clear hEE HNF' HND hct HE
        generalize (Lib.cut f.path [47]).1 = nm at *
        generalize (Lib.cut f.path [47]).2.1 = nm2 at *
        go_wp2_with fail
        refine (writeEntry_any (T + 1) c f.mode nm f.sum g _ hI2.bd hff.1 (by omega) (by omega) (by omega)).mono ?_
        rintro _ w3 ⟨rfl, g3, hb3, hg3, hk3⟩
        have hI3 := hI2.write hb3 hg3 hk3
        have hd := HD.out 1 (by simp)
        have hd' : Fs w (.slice (if cap = 1 then some ⟨g0, o, none⟩ else some ⟨g0, o + 3, none⟩) r.length (cap - 1)) r := hd
        have HDD : Hid (Fs w (.slice (if cap = 1 then some ⟨g0, o, none⟩ else some ⟨g0, o + 3, none⟩) r.length (cap - 1)) r) := hd'
        have hwr : Pf.weight r ≤ Pf.weight (f :: r) := by simp [Pf.weight]
        have hcc : (c ++ (f.mode ++ 32 :: (nm ++ [0])) ++ f.sum).length + 300 * r.length ≤ 300 * l.length := by
          simp only [List.length_append, List.length_cons, List.length_nil] at hcl ⊢; omega
        have HCC : Hid ((c ++ (f.mode ++ 32 :: (nm ++ [0])) ++ f.sum).length + 300 * r.length ≤ 300 * l.length) := hcc
        have HX : Hid (Pf.tree KK l = (c ++ (f.mode ++ 32 :: (nm ++ [0])) ++ f.sum ++ (Pf.tree KK r).1, ws.app (Pf.tree KK r).2)) := by
          show _ = _
          rw [HEE.out]; unfold Pf.entry; simp only [List.append_assoc]
        clear hd hd' hcc HEE
        go_wp2
        go_roundw
        case rel => exact ⟨r, _, ws, g3, vW, ps, bs, hI3, HDD.out, fun x hx => hfi x (List.mem_cons_of_mem _ hx), by omega, Nat.le_trans hwr hwl, HCC.out, by omega, HX.out⟩
        case measure => exact Nat.lt_succ_self _
      · have hbc := below_cons f r hct
        have hbw := below_weight ((Lib.cut f.path [47]).1 ++ [47]) (by simp) (f :: r)
        have hbl := below_le ((Lib.cut f.path [47]).1 ++ [47]) (f :: r)
        have hfb : Fine (Pf.below ((Lib.cut f.path [47]).1 ++ [47]) (f :: r)) := hfi.below
        have hdw := drop_weight (f :: r) _ hbc (by simp)
        have hEE := HND _ hct rfl
        have HEE : Hid (Pf.tree KK l = (c ++ (Pf.entry [52, 48, 48, 48, 48] (Lib.cut f.path [47]).1 (Sh.ofK KK (Sh.text 2 (Pf.tree KK (Pf.below ((Lib.cut f.path [47]).1 ++ [47]) (f :: r))).1)) ++ (Pf.tree KK ((f :: r).drop (Pf.below ((Lib.cut f.path [47]).1 ++ [47]) (f :: r)).length)).1), ws.app (.cons (.mk (Pf.tree KK (Pf.below ((Lib.cut f.path [47]).1 ++ [47]) (f :: r))).1 (Pf.tree KK (Pf.below ((Lib.cut f.path [47]).1 ++ [47]) (f :: r))).2) (Pf.tree KK ((f :: r).drop (Pf.below ((Lib.cut f.path [47]).1 ++ [47]) (f :: r)).length)).2))) := by
          show _ = _
          rw [HE.out, hEE]
        have hF2 := hF1.kept hI2.kx (fun _ _ => id)
        have hcat : ∀ a b : List UInt8, (⟨a.toArray⟩ : ByteArray) ++ ⟨b.toArray⟩ = ⟨(a ++ b).toArray⟩ := fun a b => by
          apply ByteArray.ext; simp
        have hbel := fun w hF => below_any (f :: r) ((Lib.cut f.path [47]).1 ++ [47]) (.slice (some ⟨g0, o, none⟩) (f :: r).length cap) w hF (by omega)
        have HBEL : Hid (∀ w, Fs w (.slice (some ⟨g0, o, none⟩) (f :: r).length cap) (f :: r) → Calls Tryz.prog 298 #[.slice (some ⟨g0, o, none⟩) (f :: r).length cap, .string ⟨((Lib.cut f.path [47]).1 ++ [47]).toArray⟩] w fun e w' => (∃ v', e = .returned v' ∧ w'.ownsRow w.heap.size 114 3 v' (Pf.below ((Lib.cut f.path [47]).1 ++ [47]) (f :: r)).length (cellsF (Pf.below ((Lib.cut f.path [47]).1 ++ [47]) (f :: r)))) ∧ Kx (fun _ => False) w w') := hbel
        clear hEE HNF' HND hct HE d1 d2 hbel
        generalize Pf.below ((Lib.cut f.path [47]).1 ++ [47]) (f :: r) = ins at *
        generalize (Lib.cut f.path [47]).1 = nm at *
        generalize (Lib.cut f.path [47]).2.1 = nm2 at *
        go_wp2_with fail
        refine (HBEL.out _ hF2).mono ?_
        rintro _ w3 ⟨⟨vI, rfl, hownI⟩, hk3⟩
        have hI3 := hI2.keep hk3
        have hgl3 := hgl2.kept hk3 (fun _ _ => id)
        have hK3 := hK2.kept hk3 id
        have hFI := Fs.of_own hownI
        obtain ⟨aI, cI, hvI⟩ : ∃ aI cI, vI = .slice aI ins.length cI := by
          obtain ⟨q, c, e, _⟩ := hFI
          exact ⟨q, c, e⟩
        subst hvI
        clear HBEL hcat
        go_wp2_with fail
        refine (IH.out ins _ w3 (by omega) hgl3 hK3 hFI hfb (by omega)).mono ?_
        rintro _ w4 ⟨p, bs', rfl, hTr, hbs', hk4⟩
        have hI4 := hI3.keep hk4
        obtain ⟨vc, pc, hcbp, _⟩ : ∃ v ps, Cb p #[.int .i64 2, .string ⟨(Pf.tree KK ins).1.toArray⟩, .string ⟨(Sh.idK KK 2 (Pf.tree KK ins).1).toArray⟩, v] 391 w4 ∧ True := by
          have h := hTr
          unfold IsTr at h
          obtain ⟨v, ps, h1, _⟩ := h
          exact ⟨v, ps, h1, trivial⟩
        have hid : Sh.idK KK 2 (Pf.tree KK ins).1 = Sh.hex (Sh.ofK KK (Sh.text 2 (Pf.tree KK ins).1)) := rfl
        rw [hid] at hcbp
        clear hid
        have hdl := ofK_len KK (Sh.text 2 (Pf.tree KK ins).1)
        generalize Sh.ofK KK (Sh.text 2 (Pf.tree KK ins).1) = dd at *
        have e2 : w4.cell? ⟨p, 2, none⟩ = some (.string ⟨(Sh.hex dd).toArray⟩) := hcbp.cell 2
        go_wp2_with fail
        refine (writeEntry_any (T + 1) c [52, 48, 48, 48, 48] nm dd g _ hI4.bd hdl (by simp) (by omega) (by omega)).mono ?_
        rintro _ w5 ⟨rfl, g5, hb5, hg5, hk5⟩
        have hI5 := hI4.write hb5 hg5 hk5
        have hw23 : w2.heap.size ≤ w3.heap.size := hk3.size
        have hbd5 : ∀ k ∈ bs', T + 1 < k ∧ k < w5.heap.size ∧ g5 ≠ some k ∧ vW.ownBlock ≠ some k := fun k hk => by
          obtain ⟨a1, a2⟩ := hbs' k hk
          have hB3 := hI3.bd.lt
          refine ⟨by omega, Nat.lt_of_lt_of_le a2 hk5.size, ?_, ?_⟩
          · rcases hg5 with e | ⟨j, e, hj⟩
            · rw [e]; intro e2; have := hI3.bd.rowLt k e2; omega
            · rw [e]; intro e2; have := Option.some.inj e2; omega
          · intro e; have := (OwnB.lt hI3.row k e).2; omega
        have hTr5 := hTr.kept hk5 (fun k hk e => by
          obtain ⟨a1, a2⟩ := hbs' k hk
          have hB3 := hI3.bd.lt
          rcases e with e | e
          · omega
          · have := hI3.bd.rowLt k e.symm; omega)
        have c3 : w5.cell? ⟨T, 3, none⟩ = some vW := hI5.cb.cell 3
        have hT5 := hI5.cb.lt
        have hpm : (ps.map fun p => Value.pointer (some ⟨p, 0, none⟩)).length = ps.length := by simp
        clear e2 hcbp hTr hI hI2 hI3 hI4
        go_wp2_with (at_builtin; refine wpList_append_B _ rfl (.tmp 56) (.tmp 58) 389 rfl 0 324 i0 _ 8 Tryz.underlying389 hi hz0 hz1 hz2 rfl _ (ps.map fun p => Value.pointer (some ⟨p, 0, none⟩)) rfl ?c0 ⟨w5.heap.size, 0, none⟩ 1 1 [.pointer (some ⟨p, 0, none⟩)] rfl rfl (by omega) ?c1 ?c2 ?c3 ?c4 ?c5 ?_)
        case c0 => exact OwnB.alloc hI5.row _
        case c1 => exact cells_new _ [_] _
        case c2 => simp [Value.oneCell']
        case c3 => rw [hpm]; unfold maxLen; omega
        case c4 => rw [hpm]; omega
        case c5 => omega
        intro v6 w6 hown6 hgr6 hor6
        have hI5a := hI5.keep ((Kx.refl (fun _ => False) w5).alloc (.cells #[.pointer (some ⟨p, 0, none⟩)] 324))
        have hTr5a := hTr5.kept ((Kx.refl (fun _ => False) w5).alloc (.cells #[.pointer (some ⟨p, 0, none⟩)] 324)) (fun _ _ => id)
        have hI6 := hI5a.add hTr5a (fun k hk => by obtain ⟨a1, a2, a3, a4⟩ := hbd5 k hk; exact ⟨a1, by simp; omega, a3, a4⟩) (by simpa using hown6) hgr6 (by rw [World.size_alloc]; exact hor6)
        have hcbT6 : Cb T #[.int .i64 0, .string ⟨#[]⟩, .string ⟨#[]⟩, vW] 391 w6 := by
          show w6.heap[T]? = _
          rw [hgr6.block T (by simp; omega) (fun e => by have := hI5.dv T e.symm; omega)]
          exact hI5a.cb
        have c36 : w6.cell? ⟨T, 3, none⟩ = some vW := hcbT6.cell 3
        have f36 : w6.frozen? ⟨T, 3, none⟩ = false := hcbT6.frozen 3
        obtain ⟨a6, c6, hv6⟩ : ∃ a6 c6, v6 = .slice a6 (ps.length + 1) c6 := by
          obtain ⟨a6, c6, e⟩ := hown6.slice
          exact ⟨a6, c6, by rw [e]; simp⟩
        have hdr := HD.out ins.length hbl
        rw [hlen, Nat.mul_comm 3 ins.length] at hdr
        have HDR : Hid (Fs w (.slice (if cap = ins.length then some ⟨g0, o, none⟩ else some ⟨g0, o + ins.length * 3, none⟩) (r.length + 1 - ins.length) (cap - ins.length)) ((f :: r).drop ins.length)) := hdr
        have hdl2 : ((f :: r).drop ins.length).length = (f :: r).length - ins.length := List.length_drop
        have HCC : Hid ((c ++ ([52, 48, 48, 48, 48] ++ 32 :: (nm ++ [0])) ++ dd).length + 300 * ((f :: r).drop ins.length).length ≤ 300 * l.length) := by
          show _ ≤ _
          simp only [List.length_append, List.length_cons, List.length_nil, hdl2, hdl] at hcl ⊢; omega
        have HX : Hid (Pf.tree KK l = (c ++ ([52, 48, 48, 48, 48] ++ 32 :: (nm ++ [0])) ++ dd ++ (Pf.tree KK ((f :: r).drop ins.length)).1, (ws.app (.cons (.mk (Pf.tree KK ins).1 (Pf.tree KK ins).2) .nil)).app (Pf.tree KK ((f :: r).drop ins.length)).2)) := by
          show _ = _
          rw [HEE.out, Trs.app_assoc]; unfold Pf.entry; simp only [List.append_assoc]; rfl
        have hfd : Fine ((f :: r).drop ins.length) := hfi.drop _
        have HFD : Hid (Fine ((f :: r).drop ins.length)) := hfd
        have hnum : ((f :: r).drop ins.length).length ≤ l.length ∧ (ps ++ [p]).length + ((f :: r).drop ins.length).length ≤ l.length ∧ Pf.weight ((f :: r).drop ins.length) ≤ Pf.weight l := by
          rw [hdl2, List.length_append, List.length_singleton]; omega
        have HNUM : Hid (((f :: r).drop ins.length).length ≤ l.length ∧ (ps ++ [p]).length + ((f :: r).drop ins.length).length ≤ l.length ∧ Pf.weight ((f :: r).drop ins.length) ≤ Pf.weight l) := hnum
        have hme : r.length + 1 - ins.length < (f :: r).length := by omega
        have HME : Hid (r.length + 1 - ins.length < (f :: r).length) := hme
        clear hnum hme hfd hdl2 HEE
        clear hgr6 hor6 hown6 hI5 hI5a hTr5 hTr5a hcbT6 hb5 hdr HD hbd5
        have hb1 : (ins.length : Int) ≤ (((f :: r).length : Nat) : Int) := by omega
        have hb2 : (ins.length : Int) ≤ (cap : Int) := by omega
        have hb3 : (((f :: r).length : Nat) : Int) ≤ (cap : Int) := by omega
        subst hv6
        go_wp2
        go_roundw
        case rel => exact ⟨(f :: r).drop ins.length, _, _, g5, _, ps ++ [p], _, hI6, HDR.out, HFD.out, HNUM.out.1, HNUM.out.2.2, HCC.out, HNUM.out.2.1, HX.out⟩
        case measure => exact HME.out

/-- Tree gives the tree of the files. -/
theorem tree_any (KK : List Int) (hKK : KK.length = 72) (mb : Nat) (mt : TypeId) : ∀ (n : Nat) (l : List Fi) (v : Value) (w : World), Pf.weight l < n → Gl w → Cb mb (A32 KK) mt w → Fs w v l → Fine l → l.length ≤ 60 →
    Calls Tryz.prog 229 #[.pointer (some ⟨mb, 0, none⟩), v] w (TreeGives KK l w)
  | 0, _, _, _, h, _, _, _, _, _ => absurd h (Nat.not_lt_zero _)
  | n + 1, l, v, w, h, hgl, hK, hF, hfi, hl => tree_step KK hKK l v mb mt w hgl hK hF hfi hl (fun l' v' w' h' hgl' hK' hF' hfi' hl' => tree_any KK hKK mb mt n l' v' w' (by omega) hgl' hK' hF' hfi' hl')

end Go.Proofs.YtepgoppgblfjbaaGreatDoor

/- Package history: AddTree. -/
namespace Go.Proofs.YtepgoppgblfjbaaGreatDoor
open Go.RowKit

mutual
def Tr.count : Tr → Nat
  | .mk _ ws => 1 + Trs.count ws
def Trs.count : Trs → Nat
  | .nil => 0
  | .cons t r => Tr.count t + Trs.count r
end

/-- What AddTree does with a tree. -/
def AT (KK : List Int) (x : Tr) : Prop := ∀ (d p m o c r t n q : Nat) (bs : List Nat) (g : Objs) (w : World), Dr w d p m → Hi w m o c r t → MpS w o n (objF g) → IsTr KK w x q bs → (∀ k ∈ bs, k ≠ o) → d ≠ o → m ≠ o → n + x.count ≤ maxLen →
  Calls Tryz.prog 231 #[.pointer (some ⟨d, 0, none⟩), .pointer (some ⟨q, 0, none⟩)] w fun e w' => e = .returned (.tuple #[]) ∧ MpS w' o (n + x.count) (objF (Pd.addTr KK x g)) ∧ Kx (Only o) w w'

def ATs (KK : List Int) : Trs → Prop
  | .nil => True
  | .cons t r => AT KK t ∧ ATs KK r

theorem idK_len (KK : List Int) (kind : Nat) (x : List UInt8) : (Sh.idK KK kind x).length = 64 := by unfold Sh.idK; rw [hex_len, ofK_len]

theorem addP {KK : List Int} {d p m o c r t n : Nat} {g : Objs} {kind : Nat} {x : List UInt8} {w : World} (hd : Dr w d p m) (hm : Hi w m o c r t) (hf : MpS w o n (objF g)) (hn : n < maxLen) :
    Calls Tryz.prog 300 #[.pointer (some ⟨d, 0, none⟩), objV kind x (Sh.idK KK kind x)] w fun e w' => e = .returned (.tuple #[]) ∧ MpS w' o (n + 1) (objF (Pd.add KK kind x g)) ∧ Kx (Only o) w w' := by
  have := add_any d p m o c r t n (objF g) kind x (Sh.idK KK kind x) w hd hm hf hn (by rw [idK_len]; decide)
  unfold Pd.add
  rw [objF_upd]
  exact this

set_option maxHeartbeats 1600000 in
set_option maxRecDepth 100000 in
theorem at_step (KK : List Int) (x : List UInt8) (ws : Trs) (ih : ATs KK ws) : AT KK (.mk x ws) := by
  intro d p m o c r t n q bs g w hd hm hf hT hbs hdo hmo hn
  unfold IsTr at hT
  obtain ⟨v, ps, hq, hps, hws, hqb, hvb⟩ := hT
  have hqo : q ≠ o := hbs q hqb
  have hn1 : n + 1 + Trs.count ws ≤ maxLen := by have : Tr.count (.mk x ws) = 1 + Trs.count ws := rfl; omega
  have HE : Hid (Pd.addTr KK (.mk x ws) g = Pd.addTrs KK ws (Pd.add KK 2 x g) ∧ n + Tr.count (.mk x ws) = n + 1 + Trs.count ws) := by
    refine ⟨rfl, ?_⟩
    show n + (1 + Trs.count ws) = _
    omega
  generalize n + Tr.count (.mk x ws) = N at *
  generalize Pd.addTr KK (.mk x ws) g = G at *
  have hb0 : w.cell? ⟨q, 0, none⟩ = some (.int .i64 2) := Cb.cell hq 0
  have hb1 : w.cell? ⟨q, 1, none⟩ = some (.string ⟨x.toArray⟩) := Cb.cell hq 1
  have hb2 : w.cell? ⟨q, 2, none⟩ = some (.string ⟨(Sh.idK KK 2 x).toArray⟩) := Cb.cell hq 2
  have hc := addP (KK := KK) (kind := 2) (x := x) hd hm hf (by omega)
  obtain ⟨a, cp, hv⟩ := hps.slice
  rw [List.length_map] at hv
  unfold objV at hc
  generalize Pd.add KK 2 x g = g1 at *
  generalize (Sh.idK KK 2 x) = i2 at *
  go_enter Tryz.func231, Tryz.ntmps231
  go_wp2_with fail
  refine hc.mono ?_
  rintro _ w2 ⟨rfl, hf2, hk2⟩
  have hX : ¬ Only o q := by unfold Only; exact hqo
  have hd2 := hd.kept hk2 (by unfold Only; exact hdo)
  have hm2 := hm.kept hk2 (by unfold Only; exact hmo)
  have hq2 := hq.kept hk2 hX
  have hps2 := hps.kept hk2 (fun k e => by unfold Only; exact hbs k (hvb k e))
  have hws2 := IsTrs.kept hk2 hws (fun k e => by unfold Only; exact hbs k e)
  have hb3 : w2.cell? ⟨q, 3, none⟩ = some (.slice a ps.length cp) := by rw [← hv]; exact Cb.cell hq2 3
  have hvo : ∀ k, (Value.slice a ps.length cp).ownBlock = some k → k ≠ o := fun k e => hbs k (hvb k (by rw [hv]; exact e))
  have hmx : maxLen = 9223372036854775807 := rfl
  have hpm : (ps.length : Int) ≤ 9223372036854775807 := by
    rcases hps2 with ⟨_, h⟩ | ⟨_, _, _, _, _, _, _, _, h1, h2, _⟩
    · have : ps.length = 0 := by simpa using congrArg List.length h
      omega
    · rw [List.length_map] at h1; omega
  rw [hv] at hps2
  clear hb0 hb1 hb2 hc hd hm hq hps hws hf hq2 hv hvb hX
  go_wp2
  go_loopw [17] (fun iv w' => ∃ (k : Nat) (rs : Trs) (n' : Nat) (g' : Objs), iv = .int .i64 k ∧ k ≤ ps.length ∧ Kx (Only o) w2 w' ∧ IsTrs KK w' rs (ps.drop k) bs ∧ ATs KK rs ∧ MpS w' o n' (objF g') ∧ n' + Trs.count rs = n + 1 + Trs.count ws ∧ Pd.addTrs KK rs g' = Pd.addTrs KK ws g1) (fun iv _ => ps.length - (intOf iv).toNat)
  case atStart => exact ⟨0, ws, n + 1, g1, rfl, by omega, Kx.refl _ _, hws2, ih, hf2, rfl, rfl⟩
  case round =>
    obtain ⟨k, rs, n', g', rfl, hk, hkx, hrs, hats, hmp, hcnt, heq⟩ := hrel
    by_cases hlt : k < ps.length
    · have hlt2 : (k : Int) < (ps.length : Int) := by omega
      obtain ⟨gb, cap, hsl, _, _, hcc, hcell⟩ := (PtrRow.kept hps2 hkx (fun k e => by unfold Only; exact hvo k e)).cell (by intro e; have h0 := congrArg List.length e; rw [List.length_map] at h0; rw [h0] at hlt; exact absurd hlt (Nat.not_lt_zero _))
      rw [List.length_map] at hsl
      cases hsl
      have hck := hcell k (.pointer (some ⟨ps[k], 0, none⟩)) (by simp [hlt])
      rw [List.drop_eq_getElem_cons hlt] at hrs
      cases rs with
      | nil => unfold IsTrs at hrs; cases hrs
      | cons t1 rr =>
        unfold IsTrs at hrs
        obtain ⟨q1, ps1, he, h1, h2⟩ := hrs
        cases he
        have hcn : n' + (Tr.count t1 + Trs.count rr) = n + 1 + Trs.count ws := hcnt
        have heq' : Pd.addTrs KK rr (Pd.addTr KK t1 g') = Pd.addTrs KK ws g1 := heq
        have hcall := hats.1 d p m o c r t n' ps[k] bs g' _ (hd2.kept hkx (by unfold Only; exact hdo)) (hm2.kept hkx (by unfold Only; exact hmo)) hmp h1 hbs hdo hmo (by omega)
        have HR : Hid (ATs KK rr) := hats.2
        have HC : Hid (n' + Tr.count t1 + Trs.count rr = n + 1 + Trs.count ws) := by show _ = _; omega
        have HQ : Hid (Pd.addTrs KK rr (Pd.addTr KK t1 g') = Pd.addTrs KK ws g1) := heq'
        clear hats heq heq' h1 hcell hcn hcnt
        generalize Pd.addTr KK t1 g' = g2 at *
        generalize ps[k] = qk at *
        go_wp2_with fail
        refine hcall.mono ?_
        rintro _ w3 ⟨rfl, hf3, hk3⟩
        have hk4 := hkx.trans hk3
        have h3 := IsTrs.kept hk3 h2 (fun k e => by unfold Only; exact hbs k e)
        clear hcall h2 hck
        go_wp2
        go_roundw
        case rel => exact ⟨k + 1, rr, n' + Tr.count t1, g2, by go_num, hlt, hk4, h3, HR.out, hf3, HC.out, HQ.out⟩
        case measure => simp [intOf]; omega
    · obtain rfl : k = ps.length := by omega
      have hlt2 : ¬ (ps.length : Int) < (ps.length : Int) := by omega
      rw [List.drop_of_length_le (Nat.le_refl _)] at hrs
      cases rs with
      | cons t1 rr => unfold IsTrs at hrs; obtain ⟨_, _, he, _⟩ := hrs; cases he
      | nil =>
        have hcn : n' = n + 1 + Trs.count ws := hcnt
        have heq' : g' = Pd.addTrs KK ws g1 := heq
        have hk4 := hk2.trans hkx
        obtain ⟨e1, e2⟩ := HE.out
        rw [← e2] at hcn
        rw [← e1] at heq'
        subst hcn heq'
        clear HE heq hcnt e1 e2
        go_wp2
        go_end0
        exact ⟨rfl, hmp, hk4⟩

mutual
theorem at_all (KK : List Int) : ∀ x : Tr, AT KK x
  | .mk c ws => at_step KK c ws (ats_all KK ws)
theorem ats_all (KK : List Int) : ∀ x : Trs, ATs KK x
  | .nil => trivial
  | .cons t r => ⟨at_all KK t, ats_all KK r⟩
end

end Go.Proofs.YtepgoppgblfjbaaGreatDoor

/- maps.Copy. -/
namespace Go.Proofs.YtepgoppgblfjbaaGreatDoor
open Go.RowKit

set_option maxHeartbeats 800000 in
theorem copyC_any (a b n m : Nat) (f g : List UInt8 → Option Value) (w : World) (hf : MpS w a n f) (hg : MpS w b m g) (hab : a ≠ b) (hn : n + m ≤ maxLen) :
    Calls Tryz.prog 125 #[.map (some a), .map (some b)] w fun e w' => e = .returned (.tuple #[]) ∧ MpS w' a (n + m) (orE g f) ∧ Kx (Only a) w w' := by
  have hla := hf.lt
  go_enter Tryz.func125, Tryz.ntmps125
  go_wp2_with (first | (at_range; refine wpList_rangeS rfl _ 147 rfl 101 (by kernel_rfl) (by kernel_rfl) b m g rfl hg ?_; intro w0 cnt0 hc0 hr0 hk0) | go_in)
  go_frame
  go_loopw [] (fun wr => ∃ (left : List UInt8 → Bool) (cnt n' : Nat), RngS Tryz.prog 9 wr b w.heap.size m g left cnt ∧ MpS wr a n' (over g f left) ∧ n' + cnt ≤ n + m ∧ Kx (Only a) w wr) (fun wr => wr.rangeLeft b w.heap.size)
  case atStart =>
    refine ⟨_, cnt0, n, hr0, ?_, by omega, hk0.mono (fun _ _ h => h.elim)⟩
    rw [over_start]
    exact hf.kept hk0 id
  case round =>
    obtain ⟨left, cnt, n', hr, hm, hle, hk⟩ := hrel
    go_wp2_with (first | (at_next; refine wpList_nextS rfl _ rfl (by kernel_rfl) b w.heap.size m g left cnt rfl hr ?_ ?_) | go_in)
    · intro hl
      rw [over_end g f left hl] at hm
      have hm' := hm.mono (m := n + m) (by omega)
      clear hm
      go_wp2
      go_end0
      exact ⟨rfl, hm', hk⟩
    · intro k v w2 cnt2 hkl hlk hgk hr2 hlt hk2 hs2 hen
      have hne : a ≠ w.heap.size := by omega
      have hm2 := hm.kept hk2 (by unfold Only; exact hne)
      have hk3 : Kx (Only a) w w2 := hk.andThen hk2 (fun j hj e => by unfold Only at e; omega)
      have hst := over_step g f left k v hgk
      clear hs2 hm hgk hlk hk2
      go_wp2_with (first | (refine wpList_putS rfl _ _ _ 147 rfl 101 (by kernel_rfl) (by kernel_rfl) a n' (over g f left) rfl hm2 (by omega) k rfl hkl v rfl ?_; intro w3 hm3 hk4) | go_in)
      rw [hst] at hm3
      have hr3 := hr2.kept hk4 (by unfold Only; exact Ne.symm hab) (by unfold Only; exact Ne.symm hne)
      have hk5 := hk3.trans hk4
      simp only [Act.put]
      go_roundw
      case rel => exact ⟨_, cnt2, n' + 1, hr3, hm3, by omega, hk5⟩
      case measure => rw [hr3.left_eq, hr.left_eq]; exact hlt

set_option maxHeartbeats 800000 in
theorem copyT_any (a b n m : Nat) (f g : List UInt8 → Option Value) (w : World) (hf : MpS w a n f) (hg : MpS w b m g) (hab : a ≠ b) (hn : n + m ≤ maxLen) :
    Calls Tryz.prog 126 #[.map (some a), .map (some b)] w fun e w' => e = .returned (.tuple #[]) ∧ MpS w' a (n + m) (orE g f) ∧ Kx (Only a) w w' := by
  have hla := hf.lt
  go_enter Tryz.func126, Tryz.ntmps126
  go_wp2_with (first | (at_range; refine wpList_rangeS rfl _ 148 rfl 185 (by kernel_rfl) (by kernel_rfl) b m g rfl hg ?_; intro w0 cnt0 hc0 hr0 hk0) | go_in)
  go_frame
  go_loopw [] (fun wr => ∃ (left : List UInt8 → Bool) (cnt n' : Nat), RngS Tryz.prog 9 wr b w.heap.size m g left cnt ∧ MpS wr a n' (over g f left) ∧ n' + cnt ≤ n + m ∧ Kx (Only a) w wr) (fun wr => wr.rangeLeft b w.heap.size)
  case atStart =>
    refine ⟨_, cnt0, n, hr0, ?_, by omega, hk0.mono (fun _ _ h => h.elim)⟩
    rw [over_start]
    exact hf.kept hk0 id
  case round =>
    obtain ⟨left, cnt, n', hr, hm, hle, hk⟩ := hrel
    go_wp2_with (first | (at_next; refine wpList_nextS rfl _ rfl (by kernel_rfl) b w.heap.size m g left cnt rfl hr ?_ ?_) | go_in)
    · intro hl
      rw [over_end g f left hl] at hm
      have hm' := hm.mono (m := n + m) (by omega)
      clear hm
      go_wp2
      go_end0
      exact ⟨rfl, hm', hk⟩
    · intro k v w2 cnt2 hkl hlk hgk hr2 hlt hk2 hs2 hen
      have hne : a ≠ w.heap.size := by omega
      have hm2 := hm.kept hk2 (by unfold Only; exact hne)
      have hk3 : Kx (Only a) w w2 := hk.andThen hk2 (fun j hj e => by unfold Only at e; omega)
      have hst := over_step g f left k v hgk
      clear hs2 hm hgk hlk hk2
      go_wp2_with (first | (refine wpList_putS rfl _ _ _ 148 rfl 185 (by kernel_rfl) (by kernel_rfl) a n' (over g f left) rfl hm2 (by omega) k rfl hkl v rfl ?_; intro w3 hm3 hk4) | go_in)
      rw [hst] at hm3
      have hr3 := hr2.kept hk4 (by unfold Only; exact Ne.symm hab) (by unfold Only; exact Ne.symm hne)
      have hk5 := hk3.trans hk4
      simp only [Act.put]
      go_roundw
      case rel => exact ⟨_, cnt2, n' + 1, hr3, hm3, by omega, hk5⟩
      case measure => rw [hr3.left_eq, hr.left_eq]; exact hlt

end Go.Proofs.YtepgoppgblfjbaaGreatDoor

/- maps.Copy. -/
namespace Go.Proofs.YtepgoppgblfjbaaGreatDoor
open Go.RowKit

set_option maxHeartbeats 800000 in
set_option maxRecDepth 100000 in
theorem copyO_any (a b n m : Nat) (f : List UInt8 → Option Value) (go : Objs) (w : World) (hf : MpS w a n f) (hg : MpS w b m (objF go)) (hab : a ≠ b) (hn : n + m ≤ maxLen) :
    Calls Tryz.prog 124 #[.map (some a), .map (some b)] w fun e w' => e = .returned (.tuple #[]) ∧ MpS w' a (n + m) (orE (objF go) f) ∧ Kx (Only a) w w' := by
  have hla := hf.lt
  have hob : ∀ k v, objF go k = some v → ∃ x y z, v = .agg #[.int .i64 (x : Nat), .string ⟨y⟩, .string ⟨z⟩] := by
    intro k v h
    unfold objF at h
    obtain ⟨x, _, rfl⟩ := Option.map_eq_some_iff.1 h
    exact ⟨_, _, _, rfl⟩
  generalize objF go = g at *
  go_enter Tryz.func124, Tryz.ntmps124
  go_wp2_with (first | (at_range; refine wpList_rangeS rfl _ 146 rfl 105 (by kernel_rfl) (by kernel_rfl) b m g rfl hg ?_; intro w0 cnt0 hc0 hr0 hk0) | go_in)
  go_frame
  go_loopw [] (fun wr => ∃ (left : List UInt8 → Bool) (cnt n' : Nat), RngS Tryz.prog 9 wr b w.heap.size m g left cnt ∧ MpS wr a n' (over g f left) ∧ n' + cnt ≤ n + m ∧ Kx (Only a) w wr) (fun wr => wr.rangeLeft b w.heap.size)
  case atStart =>
    refine ⟨_, cnt0, n, hr0, ?_, by omega, hk0.mono (fun _ _ h => h.elim)⟩
    rw [over_start]
    exact hf.kept hk0 id
  case round =>
    obtain ⟨left, cnt, n', hr, hm, hle, hk⟩ := hrel
    go_wp2_with (first | (at_next; refine wpList_nextS rfl _ rfl (by kernel_rfl) b w.heap.size m g left cnt rfl hr ?_ ?_) | go_in)
    · intro hl
      rw [over_end g f left hl] at hm
      have hm' := hm.mono (m := n + m) (by omega)
      clear hm
      go_wp2
      go_end0
      exact ⟨rfl, hm', hk⟩
    · intro k v w2 cnt2 hkl hlk hgk hr2 hlt hk2 hs2 hen
      have hne : a ≠ w.heap.size := by omega
      have hm2 := hm.kept hk2 (by unfold Only; exact hne)
      have hk3 : Kx (Only a) w w2 := hk.andThen hk2 (fun j hj e => by unfold Only at e; omega)
      have hst := over_step g f left k v hgk
      obtain ⟨x, y, z, rfl⟩ := hob k v hgk
      clear hs2 hm hgk hlk hk2
      have hA := (Kx.refl (fun _ => False) w2).alloc (.cells #[.int .i64 (x : Nat), .string ⟨y⟩, .string ⟨z⟩] 105)
      have hmA := hm2.kept hA id
      have hrA := hr2.kept hA id id
      have hkA := hk3.trans (hA.mono (fun _ _ h => h.elim))
      clear hm2 hr2 hk3 hA
      go_wp2_with (first | (refine wpList_putS rfl _ _ _ 146 rfl 105 (by kernel_rfl) (by kernel_rfl) a n' (over g f left) rfl hmA (by omega) k rfl hkl (.agg #[.int .i64 (x : Nat), .string ⟨y⟩, .string ⟨z⟩]) rfl ?_; intro w3 hm3 hk4) | go_in)
      rw [hst] at hm3
      have hr3 := hrA.kept hk4 (by unfold Only; exact Ne.symm hab) (by unfold Only; exact Ne.symm hne)
      have hk5 := hkA.trans hk4
      simp only [Act.put]
      go_roundw
      case rel => exact ⟨_, cnt2, n' + 1, hr3, hm3, by omega, hk5⟩
      case measure => rw [hr3.left_eq, hr.left_eq]; exact hlt

end Go.Proofs.YtepgoppgblfjbaaGreatDoor
