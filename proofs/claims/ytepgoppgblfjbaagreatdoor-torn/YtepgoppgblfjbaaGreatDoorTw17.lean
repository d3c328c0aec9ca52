import Derived.Test.YtepgoppgblfjbaaGreatDoorTw09
import Derived.Test.YtepgoppgblfjbaaGreatDoorTw16
import Derived.Test.YtepgoppgblfjbaaGreatDoorTw07
import Derived.Test.YtepgoppgblfjbaaGreatDoorTw01
import Derived.Test.YtepgoppgblfjbaaGreatDoorTw12
import Derived.Test.YtepgoppgblfjbaaGreatDoorTw05
/- Followed: what its streams do to a store, plainly. -/
namespace Go.Proofs.YtepgoppgblfjbaaGreatDoor

/-- The files behind the stream. -/
def folFiles (KK : List Int) (gone : Bool) (p : List UInt8) (d : Nat) (l : List Fi) : List Fi := if gone then Pf.delete p l else Pf.put ⟨p, Pu.s644, Pd.sum KK 1 (Pu.dig d)⟩ l

/-- The files of what main names. -/
def mainFiles (S : St) : List Fi := ((S.ref Pu.sMain).map Com.files).getD []

theorem fol_changes (KK : List Int) (S : St) (gone : Bool) (p : List UInt8) (d : Nat) (l : List Fi) (hl : l.length ≤ 59) :
    ∃ W : Wk, Pd.changes KK ⟨S, fun _ => none⟩ l [Pu.folCh gone p d] = (0, W, folFiles KK gone p d l) ∧ W.st.ref = S.ref ∧ W.st.com = S.com := by
  cases gone with
  | true => exact ⟨⟨S, fun _ => none⟩, by simp [Pd.changes, Pd.change1, Pu.folCh, folFiles], rfl, rfl⟩
  | false =>
    have hE : Pf.putE ⟨p, Pu.s644, Pd.sum KK 1 (Pu.dig d)⟩ l = 0 := by
      unfold Pf.putE Pf.withE
      have h := without_len (fun q => Pf.within q p || Pf.within p q) l
      rw [if_pos]
      show (Pf.without (fun q => Pf.within q p || Pf.within p q) l ++ [_]).length ≤ 60
      rw [List.length_append]
      simp only [List.length_cons, List.length_nil]
      omega
    exact ⟨Pd.addObj KK 1 (Pu.dig d) ⟨S, fun _ => none⟩, by simp [Pd.changes, Pd.change1, Pu.folCh, folFiles, hE], rfl, rfl⟩

theorem fol_commit (KK : List Int) (S : St) (gone : Bool) (p : List UInt8) (d : Nat) (hl : (mainFiles S).length ≤ 59) :
    ∃ (c : Com) (W : Wk), Pd.commit KK ⟨S, fun _ => none⟩ (Pu.folCo gone p d) = (0, W) ∧ W.st.ref = upd S.ref Pu.sMain (some c) ∧ W.st.com = upd S.com (Sh.hex c.sum) (some c) ∧ c.files = folFiles KK gone p d (mainFiles S) := by
  obtain ⟨W, h1, h2, h3⟩ := fol_changes KK S gone p d (mainFiles S) hl
  have hp : Pd.parents ⟨S, fun _ => none⟩ (Pu.folCo gone p d) = some ((S.ref Pu.sMain).toList, mainFiles S) := by
    simp [Pd.parents, Pd.first, Pd.merged, Pu.folCo, mainFiles]
  have hs : Pd.isSet ⟨S, fun _ => none⟩ (Pu.folCo gone p d).mark = false := rfl
  unfold Pd.commit
  rw [hs, hp]
  have hc : (Pu.folCo gone p d).changes = [Pu.folCh gone p d] := rfl
  simp only [Bool.false_eq_true, if_false, hc, h1, if_true]
  refine ⟨⟨Pd.sum KK 3 (Pd.comText (Pd.sum KK 2 (Pf.tree KK (folFiles KK gone p d (mainFiles S))).1) (S.ref Pu.sMain).toList ⟨[65], [97], 1⟩ []), folFiles KK gone p d (mainFiles S)⟩, _, rfl, ?_, ?_, rfl⟩
  · rw [← h2]
    rfl
  · rw [← h3]
    rfl

theorem fol_imp (KK : List Int) (S : St) (gone : Bool) (p : List UInt8) (d : Nat) (hp : p ∈ Pu.pathsL) (hd : d < 30) (hl : (mainFiles S).length ≤ 59) :
    ∃ c : Com, (Pd.imp KK S (Pu.folS gone p d)).1 = (1, 0) ∧ (Pd.imp KK S (Pu.folS gone p d)).2.ref = upd S.ref Pu.sMain (some c) ∧ (Pd.imp KK S (Pu.folS gone p d)).2.com = upd S.com (Sh.hex c.sum) (some c) ∧ c.files = folFiles KK gone p d (mainFiles S) := by
  obtain ⟨h1, h2, _⟩ := Pu.fol_ok gone p d hp hd
  obtain ⟨c, W, h3, h4, h5, h6⟩ := fol_commit KK S gone p d hl
  have ho : Pd.one KK ⟨S, fun _ => none⟩ (Pu.folCo gone p d) = (0, W) := by
    have e1 : ¬ Pu.sCommit = Pu.sBlob := by decide
    have hw : (Pu.folCo gone p d).word = Pu.sCommit := rfl
    unfold Pd.one
    rw [hw, if_neg e1, if_pos rfl]
    exact h3
  have ha : Pd.all KK ⟨S, fun _ => none⟩ [Pu.folCo gone p d] 0 = ((1, 0), W) := by
    simp [Pd.all, ho]
  refine ⟨c, ?_⟩
  unfold Pd.imp
  rw [h2, h1, ha]
  simp only [if_true]
  exact ⟨trivial, h4, h5, h6⟩

/-- The paths that must be there. -/
def folWant (gone : Bool) (p : List UInt8) (want : List (List UInt8)) : List (List UInt8) := (want.filter fun k => !Pf.within k p && (gone || !Pf.within p k)) ++ if gone then [] else [p]

theorem folWant_len (gone : Bool) (p : List UInt8) (want : List (List UInt8)) : (folWant gone p want).length ≤ want.length + 1 := by
  unfold folWant
  have := List.length_filter_le (fun k => !Pf.within k p && (gone || !Pf.within p k)) want
  rw [List.length_append]
  cases gone <;> simp at * <;> omega

/-- The files are at the paths that must be there. -/
structure FI (l : List Fi) (want : List (List UInt8)) : Prop where
  own : Own1 l
  sorted : SortedF l
  perm : (l.map Fi.path).Perm want
  known : ∀ p ∈ want, p ∈ Pu.pathsL
  shape : ∀ f ∈ l, f.mode.length = 6 ∧ f.sum.length = 32

theorem FI.nil : FI [] [] := ⟨List.Pairwise.nil, List.Pairwise.nil, List.Perm.refl _, fun _ h => by simp at h, fun _ h => by simp at h⟩

theorem map_without (gone : List UInt8 → Bool) (l : List Fi) : (Pf.without gone l).map Fi.path = (l.map Fi.path).filter (fun p => !gone p) := by
  unfold Pf.without
  rw [List.filter_map]
  rfl

theorem FI.step {l : List Fi} {want : List (List UInt8)} (h : FI l want) (KK : List Int) (gone : Bool) (p : List UInt8) (d : Nat) (hp : p ∈ Pu.pathsL) : FI (folFiles KK gone p d l) (folWant gone p want) := by
  cases gone with
  | true =>
    refine ⟨h.own.delete, List.Pairwise.filter _ h.sorted, ?_, fun q hq => ?_, fun f hf => ?_⟩
    · show ((Pf.without (fun q => Pf.within q p) l).map Fi.path).Perm (folWant true p want)
      rw [map_without]
      have e : folWant true p want = want.filter (fun q => !Pf.within q p) := by simp [folWant]
      rw [e]
      exact h.perm.filter _
    · simp only [folWant, List.mem_append, List.mem_filter, if_true, List.not_mem_nil, or_false] at hq
      exact h.known q hq.1
    · exact h.shape f (List.mem_filter.1 hf).1
  | false =>
    refine ⟨h.own.put, sortF_sorted _, ?_, fun q hq => ?_, fun f hf => ?_⟩
    · show ((Pf.sortF (Pf.withoutAround p l ++ [_])).map Fi.path).Perm (folWant false p want)
      refine ((sortF_perm _).map Fi.path).trans ?_
      rw [List.map_append]
      show ((Pf.without (fun q => Pf.within q p || Pf.within p q) l).map Fi.path ++ [p]).Perm _
      rw [map_without]
      have e : folWant false p want = want.filter (fun q => !(Pf.within q p || Pf.within p q)) ++ [p] := by simp [folWant]
      rw [e]
      exact (h.perm.filter _).append_right _
    · simp only [folWant, List.mem_append, List.mem_filter, Bool.false_eq_true, if_false, List.mem_singleton] at hq
      rcases hq with hq | rfl
      · exact h.known q hq.1
      · exact hp
    · have := (sortF_perm _).mem_iff.1 hf
      rcases List.mem_append.1 this with h1 | h1
      · exact h.shape f (List.mem_filter.1 h1).1
      · obtain rfl := List.mem_singleton.1 h1
        exact ⟨rfl, ofK_len _ _⟩

end Go.Proofs.YtepgoppgblfjbaaGreatDoor

/- Package history: a draft's four maps. -/
namespace Go.Proofs.YtepgoppgblfjbaaGreatDoor
open Go.RowKit

/-- A history's block: its four maps. -/
def Hi (w : World) (h o c r t : Nat) : Prop := Cb h #[.map (some o), .map (some c), .map (some r), .map (some t)] 150 w

/-- A draft's block: what was, what is made. -/
def Dr (w : World) (d p m : Nat) : Prop := Cb d #[.pointer (some ⟨p, 0, none⟩), .pointer (some ⟨m, 0, none⟩)] 224 w

theorem Hi.kept {w w' : World} {h o c r t : Nat} {X : Nat → Prop} (x : Hi w h o c r t) (hk : Kx X w w') (hX : ¬ X h) : Hi w' h o c r t := Cb.kept x hk hX
theorem Dr.kept {w w' : World} {d p m : Nat} {X : Nat → Prop} (x : Dr w d p m) (hk : Kx X w w') (hX : ¬ X d) : Dr w' d p m := Cb.kept x hk hX

/-- A map of texts, as it lies. -/
abbrev MpS (w : World) (b n : Nat) (f : List UInt8 → Option Value) : Prop := MapS Tryz.prog 9 w b n f

def objV (kind : Nat) (c id : List UInt8) : Value := .agg #[.int .i64 (kind : Int), .string ⟨c.toArray⟩, .string ⟨id.toArray⟩]

set_option maxHeartbeats 800000 in
set_option maxRecDepth 100000 in
theorem add_any (d p m o c r t n : Nat) (f : List UInt8 → Option Value) (kind : Nat) (x i : List UInt8) (w : World) (hd : Dr w d p m) (hm : Hi w m o c r t) (hf : MpS w o n f) (hn : n < maxLen) (hi : i.length ≤ maxLen) :
    Calls Tryz.prog 300 #[.pointer (some ⟨d, 0, none⟩), objV kind x i] w fun e w' => e = .returned (.tuple #[]) ∧ MpS w' o (n + 1) (upd f i (some (objV kind x i))) ∧ Kx (Only o) w w' := by
  unfold objV
  have hkxW := (Kx.refl (fun _ => False) w).alloc (.cells #[.int .i64 (kind : Int), .string ⟨x.toArray⟩, .string ⟨i.toArray⟩] 105)
  have hdW := hd.kept hkxW id
  have hmW := hm.kept hkxW id
  have hfW := hf.kept hkxW id
  have hB := Cb.new #[.int .i64 (kind : Int), .string ⟨x.toArray⟩, .string ⟨i.toArray⟩] 105 w
  obtain ⟨B, hBB⟩ : ∃ B, w.heap.size = B := ⟨_, rfl⟩
  rw [hBB] at hB
  go_enter Tryz.func300, Tryz.ntmps300
  go_wp2_with fail
  clear hBB
  have hBw : ∀ W, Kx (fun _ => False) w W → Kx (Only o) w W := fun W h => h.mono (fun _ _ h => h.elim)
  revert hkxW hdW hmW hfW hB
  generalize w.alloc (.cells #[.int .i64 (kind : Int), .string ⟨x.toArray⟩, .string ⟨i.toArray⟩] 105) = W
  intro hkxW hdW hmW hfW hB
  refine wp_region_quiet_tail (C := fun w' => Kx (fun _ => False) W w') 10 (by kernel_rfl) (by kernel_rfl) (Kx.refl _ _).drew ?_
  refine quiet_val rfl (.pointer (some ⟨d, 0, none⟩)) (fun w' hC => by go_simp) ?_
  refine quiet_val rfl (.pointer (some ⟨d, 0, none⟩)) (fun w' hC => by go_simp) ?_
  refine quiet_val rfl (.pointer (some ⟨d, 1, none⟩)) (fun w' hC => by go_simp) ?_
  refine quiet_val rfl (.pointer (some ⟨m, 0, none⟩)) (fun w' hC => by
    have hcw : w'.cell? ⟨d, 1, none⟩ = some (.pointer (some ⟨m, 0, none⟩)) := Cb.cell (hdW.kept hC id) 1
    go_simp) ?_
  refine quiet_val rfl (.pointer (some ⟨m, 0, none⟩)) (fun w' hC => by go_simp) ?_
  refine quiet_val rfl (.pointer (some ⟨m, 0, none⟩)) (fun w' hC => by go_simp) ?_
  refine quiet_val rfl (.map (some o)) (fun w' hC => by
    have hcw : w'.cell? ⟨m, 0, none⟩ = some (.map (some o)) := Cb.cell (hmW.kept hC id) 0
    go_simp) ?_
  refine quiet_val rfl (.pointer (some ⟨B, 2, none⟩)) (fun w' hC => by go_simp) ?_
  refine quiet_val rfl (.string ⟨i.toArray⟩) (fun w' hC => by
    have hcw : w'.cell? ⟨B, 2, none⟩ = some (.string ⟨i.toArray⟩) := Cb.cell (hB.kept hC id) 2
    go_simp) ?_
  refine quiet_val rfl (.agg #[.int .i64 (kind : Int), .string ⟨x.toArray⟩, .string ⟨i.toArray⟩]) (fun w' hC => by
    have hc0 : w'.cell? ⟨B, 0, none⟩ = some (.int .i64 (kind : Int)) := Cb.cell (hB.kept hC id) 0
    have hc1 : w'.cell? ⟨B, 1, none⟩ = some (.string ⟨x.toArray⟩) := Cb.cell (hB.kept hC id) 1
    have hc2 : w'.cell? ⟨B, 2, none⟩ = some (.string ⟨i.toArray⟩) := Cb.cell (hB.kept hC id) 2
    go_simp) ?_
  refine wpQuiet_nil (fun w' hC => ?_)
  simp only [Act.put, List.setIfInBounds_toArray, List.set_cons_succ, List.set_cons_zero, List.drop_succ_cons, List.drop_zero]
  have hf' := hfW.kept hC id
  have hk' := hkxW.trans hC
  refine wpList_putS rfl _ _ _ 146 rfl 105 (by kernel_rfl) (by kernel_rfl) o n f rfl hf' hn i rfl hi _ rfl ?_
  intro w2 hf2 hk2
  go_wp2
  go_end0
  exact ⟨rfl, hf2, (hBw _ hk').trans hk2⟩

theorem addBlob_any (d p m o c r t n : Nat) (f : List UInt8 → Option Value) (kind : Nat) (x i : List UInt8) (w : World) (hd : Dr w d p m) (hm : Hi w m o c r t) (hf : MpS w o n f) (hn : n < maxLen) (hi : i.length ≤ maxLen) :
    Calls Tryz.prog 290 #[.pointer (some ⟨d, 0, none⟩), objV kind x i] w fun e w' => e = .returned (.tuple #[]) ∧ MpS w' o (n + 1) (upd f i (some (objV kind x i))) ∧ Kx (Only o) w w' := by
  have hkxW := (Kx.refl (fun _ => False) w).alloc (.cells #[.int .i64 (kind : Int), .string ⟨x.toArray⟩, .string ⟨i.toArray⟩] 105)
  have hBw : Kx (Only o) w _ := hkxW.mono (fun _ _ h => h.elim)
  have hc := add_any d p m o c r t n f kind x i _ (hd.kept hkxW id) (hm.kept hkxW id) (hf.kept hkxW id) hn hi
  unfold objV at *
  clear hd hm hf hkxW
  go_enter Tryz.func290, Tryz.ntmps290
  go_wp2_with fail
  refine hc.mono ?_
  rintro _ w2 ⟨rfl, hf2, hk2⟩
  have hk3 := hBw.trans hk2
  clear hc hBw hk2
  go_wp2
  go_end0
  exact ⟨rfl, hf2, hk3⟩

theorem setRef_any (d p m o c r t n : Nat) (f : List UInt8 → Option Value) (name : List UInt8) (v : Value) (w : World) (hd : Dr w d p m) (hm : Hi w m o c r t) (hf : MpS w r n f) (hn : n < maxLen) (hi : name.length ≤ maxLen) :
    Calls Tryz.prog 233 #[.pointer (some ⟨d, 0, none⟩), .string ⟨name.toArray⟩, v] w fun e w' => e = .returned (.tuple #[]) ∧ MpS w' r (n + 1) (upd f name (some v)) ∧ Kx (Only r) w w' := by
  have hc1 : w.cell? ⟨d, 1, none⟩ = some (.pointer (some ⟨m, 0, none⟩)) := Cb.cell hd 1
  have hc2 : w.cell? ⟨m, 2, none⟩ = some (.map (some r)) := Cb.cell hm 2
  go_enter Tryz.func233, Tryz.ntmps233
  go_wp2_with (refine wpList_putS rfl _ _ _ 147 rfl 101 (by kernel_rfl) (by kernel_rfl) r n f rfl hf hn name rfl hi _ rfl ?_)
  intro w2 hf2 hk2
  go_wp2
  go_end0
  exact ⟨rfl, hf2, hk2⟩

theorem href_any (h o c r t n : Nat) (f : List UInt8 → Option Value) (name : List UInt8) (w : World) (hm : Hi w h o c r t) (hf : MpS w r n f) (hi : name.length ≤ maxLen) :
    Calls Tryz.prog 139 #[.pointer (some ⟨h, 0, none⟩), .string ⟨name.toArray⟩] w fun e w' => e = .returned ((f name).getD (.pointer none)) ∧ w' = w := by
  have hc2 : w.cell? ⟨h, 2, none⟩ = some (.map (some r)) := Cb.cell hm 2
  generalize hx : (f name).getD (.pointer none) = x
  go_enter Tryz.func139, Tryz.ntmps139
  go_wp2_with (refine wpList_lookS rfl _ _ 147 rfl 101 (by kernel_rfl) (by kernel_rfl) (.pointer none) (by kernel_rfl) r n f rfl hf name rfl hi ?_)
  go_ret
  exact ⟨rfl, rfl⟩

/-- What a draft's ref names. -/
def drefV (fm fp : List UInt8 → Option Value) (name : List UInt8) : Value := match fm name with | some v => v | none => (fp name).getD (.pointer none)

theorem dref_any (d p m o c r t n o' c' r' t' n' : Nat) (fm fp : List UInt8 → Option Value) (name : List UInt8) (w : World) (hd : Dr w d p m) (hm : Hi w m o c r t) (hf : MpS w r n fm) (hp : Hi w p o' c' r' t') (hfp : MpS w r' n' fp) (hi : name.length ≤ maxLen) :
    Calls Tryz.prog 303 #[.pointer (some ⟨d, 0, none⟩), .string ⟨name.toArray⟩] w fun e w' => e = .returned (drefV fm fp name) ∧ w' = w := by
  have hc0 : w.cell? ⟨d, 0, none⟩ = some (.pointer (some ⟨p, 0, none⟩)) := Cb.cell hd 0
  have hc1 : w.cell? ⟨d, 1, none⟩ = some (.pointer (some ⟨m, 0, none⟩)) := Cb.cell hd 1
  have hc2 : w.cell? ⟨m, 2, none⟩ = some (.map (some r)) := Cb.cell hm 2
  have hc := href_any p o' c' r' t' n' fp name w hp hfp hi
  have HX : Hid (drefV fm fp name = match fm name with | some v => v | none => (fp name).getD (.pointer none)) := rfl
  generalize drefV fm fp name = X at *
  generalize (fp name).getD (.pointer none) = Y at *
  cases hfn : fm name with
  | some v =>
    have e : X = v := by rw [HX.out, hfn]
    subst e
    clear HX
    go_enter Tryz.func303, Tryz.ntmps303
    go_wp2_with (refine wpList_lookOkS rfl _ _ 147 rfl 101 (by kernel_rfl) (by kernel_rfl) (.pointer none) (by kernel_rfl) r n fm rfl hf name rfl hi ?_)
    go_ret
    exact ⟨rfl, rfl⟩
  | none =>
    have e : X = Y := by rw [HX.out, hfn]
    subst e
    clear HX
    go_enter Tryz.func303, Tryz.ntmps303
    go_wp2_with (first | refine wpList_lookOkS rfl _ _ 147 rfl 101 (by kernel_rfl) (by kernel_rfl) (.pointer none) (by kernel_rfl) r n fm rfl hf name rfl hi ?_ | (go_at_call 139; refine hc.mono ?_; rintro _ _ ⟨rfl, rfl⟩))
    go_ret
    exact ⟨rfl, rfl⟩

end Go.Proofs.YtepgoppgblfjbaaGreatDoor

/- Objects, as they lie in a map. -/
namespace Go.Proofs.YtepgoppgblfjbaaGreatDoor
open Go.RowKit

abbrev Objs := List UInt8 → Option (Nat × List UInt8)

/-- Objects, as they lie in a map. -/
def objF (g : Objs) : List UInt8 → Option Value := fun k => (g k).map fun x => objV x.1 x.2 k

theorem objF_upd (g : Objs) (i : List UInt8) (kind : Nat) (c : List UInt8) : objF (upd g i (some (kind, c))) = upd (objF g) i (some (objV kind c i)) := by
  funext k
  unfold objF upd
  by_cases h : k = i
  · subst h; simp
  · simp [h]

end Go.Proofs.YtepgoppgblfjbaaGreatDoor

/- Loops over maps of texts. -/
namespace Go.Proofs.YtepgoppgblfjbaaGreatDoor
open Go.RowKit Go.Maps Go.WideMaps

theorem Kx.andThen {X Y : Nat → Prop} {a c d : World} (h : Kx X a c) (k : Kx Y c d) (hXY : ∀ j, j < a.heap.size → Y j → X j) : Kx X a d :=
  ⟨k.os.trans h.os, k.tape.trans h.tape, k.output.trans h.output, Nat.le_trans h.size k.size,
   fun i hi hx => (k.block i (Nat.lt_of_lt_of_le hi h.size) (fun y => hx (hXY i hi y))).trans (h.block i hi hx)⟩

/-- A loop over a map of texts: what is left, and how much. -/
def RngS (P : Program) (K : TypeId) (w : World) (b r n : Nat) (f : List UInt8 → Option Value) (left : List UInt8 → Bool) (cnt : Nat) : Prop :=
  ∃ (D : DataW Value) (L : Lit → Bool), w.ranges P K Rv b r n D L cnt ∧ (∀ k zd, D.atKey (.string k) zd = heldOr (f k) zd) ∧ ∀ k, L (.string k) = left k

section
variable {P : Program} {K : TypeId} {w w' : World} {b r n cnt : Nat} {f : List UInt8 → Option Value} {left : List UInt8 → Bool}

theorem RngS.map (h : RngS P K w b r n f left cnt) : MapS P K w b n f := by
  obtain ⟨D, L, h, ha, _⟩ := h
  exact ⟨D, h.owns, ha⟩
theorem RngS.left_eq (h : RngS P K w b r n f left cnt) : w.rangeLeft b r = cnt := by
  obtain ⟨D, L, h, _⟩ := h
  exact h.left_eq
theorem RngS.ne (h : RngS P K w b r n f left cnt) : r ≠ b := by
  obtain ⟨D, L, h, _⟩ := h
  exact h.ne
theorem RngS.lt (h : RngS P K w b r n f left cnt) : r < w.heap.size := by
  obtain ⟨D, L, h, _⟩ := h
  exact h.lt

theorem RngS.kept {X : Nat → Prop} (h : RngS P K w b r n f left cnt) (hk : Kx X w w') (hb : ¬ X b) (hr : ¬ X r) : RngS P K w' b r n f left cnt := by
  obtain ⟨D, L, h, ha, hl⟩ := h
  refine ⟨D, L, ?_, ha, hl⟩
  have h1 := h.owns.lt
  have h2 := h.lt
  obtain ⟨es, clock, since, seen, c0, e1, F, hs, hD, e2, rest⟩ := h
  exact ⟨es, clock, since, seen, c0, (hk.block b h1 hb).trans e1, F, hs, hD, (hk.block r h2 hr).trans e2, rest⟩

theorem string_inv (hK : P.underlying K = some .string) {key : Value} {kl : Lit} (h : keyOf P K key = some kl) : ∃ k : List UInt8, key = .string ⟨k.toArray⟩ ∧ kl = .string k ∧ k.length ≤ maxLen := by
  cases key with
  | string s =>
    simp [keyOf, hK, mapKey] at h
    refine ⟨s.data.toList, by simp, ?_, ?_⟩
    · exact h.2.symm
    · have h1 := h.1
      show s.data.toList.length ≤ maxLen
      rw [Array.length_toList]
      exact h1
  | _ => simp [keyOf, hK, mapKey] at h

section
variable {ops : Array Oper} {rest : List Oper} {o : Oper} {a : Act} {Q : Exit → Act → World → Prop}

/-- 'range m'. -/
theorem wpList_rangeS (hg : o.guard = none) (m : Operand) (t : TypeId) (hop : o.op = Op.range t m) (e : TypeId) (hK : P.underlying K = some .string) (ht : P.underlying t = some (.map K e))
    (b n : Nat) (f : List UInt8 → Option Value) (hm : a.eval m = .map (some b)) (h : MapS P K w b n f)
    (hc : ∀ w' cnt, cnt ≤ n → RngS P K w' b w.heap.size n f (fun k => (f k).isSome) cnt → Kx (fun _ => False) w w' → wpList P ops Q rest (a.put o.dst (.pointer (some ⟨w.heap.size, 0, none⟩))) w') : wpList P ops Q (o :: rest) a w := by
  obtain ⟨D, hown, ha⟩ := h
  refine wpList_range_own w hg m t hop K e (string_keyed hK) ht Rv b n D hm hown ?_
  intro w' hr hgr _
  exact hc w' _ hown.size_le ⟨D, _, hr, ha, fun k => has_of_heldOr (ha k)⟩ ((Kx.of_grown hgr).mono (fun j _ e => by cases e))

/-- The loop's step. -/
theorem wpList_nextS (hg : o.guard = none) (it : Operand) (hop : o.op = Op.next it false) (hK : P.underlying K = some .string) (b r n : Nat) (f : List UInt8 → Option Value) (left : List UInt8 → Bool) (cnt : Nat)
    (hit : a.eval it = .pointer (some ⟨r, 0, none⟩)) (h : RngS P K w b r n f left cnt)
    (hDone : (∀ k, left k = false) → wpList P ops Q rest (a.put o.dst (.tuple #[.bool false])) w)
    (hMore : ∀ (k : List UInt8) (v : Value) (w' : World) (cnt' : Nat), k.length ≤ maxLen → left k = true → f k = some v → RngS P K w' b r n f (fun z => left z && !decide (z = k)) cnt' → cnt' < cnt → Kx (Only r) w w' → w'.heap.size = w.heap.size →
      (Instr.entry (.pointer (some ⟨r, 0, none⟩))).run P w' = .ok (.tuple #[.string ⟨k.toArray⟩, v]) w' → wpList P ops Q rest (a.put o.dst (.tuple #[.bool true, .string ⟨k.toArray⟩, v])) w') : wpList P ops Q (o :: rest) a w := by
  obtain ⟨D, L, h, ha, hl⟩ := h
  refine wpList_next_ranges (α := List UInt8) (β := Value) w hg it hop K (string_keyed hK) Rv (fun k => .string ⟨k.toArray⟩) id (fun key kl h => by obtain ⟨k, hk, _⟩ := string_inv hK h; exact ⟨k, hk⟩) (fun v _ _ => ⟨v, rfl⟩) b r n D L cnt hit h ?_ ?_
  · intro _ hf
    exact hDone (fun k => by rw [← hl]; exact hf _)
  · intro k v kl y w' cnt' hkey hlk hv hat hrg hlt hgr hsz hen
    obtain ⟨k', ek, rfl, hlen⟩ := string_inv hK hkey
    obtain rfl : k = k' := by simpa using ek
    refine hMore k v w' cnt' hlen (by rw [← hl]; exact hlk) ?_ ⟨D, _, hrg, ha, fun z => ?_⟩ hlt ((Kx.of_grown hgr).mono (fun j _ e => by unfold Only; exact Option.some.inj e)) hsz hen
    · have h1 := hat (.held (.bool true))
      rw [ha] at h1
      have hy : y.1 = .held v := by
        unfold Rv at hv
        simp at hv
        rw [← hv]
      rw [hy] at h1
      cases hx : f k with
      | some u => rw [hx] at h1; simp [heldOr] at h1; rw [h1]
      | none =>
        have h2 := hat (.held (.bool true))
        have h3 := hat (.held (.bool false))
        rw [ha, hx] at h2 h3
        simp [heldOr] at h2 h3
        rw [← h2] at h3
        simp at h3
    · show (L (.string z) && !(Lit.string z).sameKey (.string k)) = _
      rw [hl]
      have e : (Lit.string z).sameKey (.string k) = decide (z = k) := by
        by_cases h : z = k
        · subst h; simp [Lit.sameKey]
        · simp [Lit.sameKey, h]
      rw [e]
end
end

/-- The one laid over the other. -/
def orE {α β : Type} (f g : α → Option β) : α → Option β := fun k => match f k with | some v => some v | none => g k

theorem orE_upd {α β : Type} [DecidableEq α] (f g : α → Option β) (k : α) (v : β) : orE (upd f k (some v)) g = upd (orE f g) k (some v) := by
  funext z
  unfold orE upd
  by_cases e : z = k
  · simp [e]
  · simp [e]

/-- What is laid so far. -/
def over (f g : List UInt8 → Option Value) (left : List UInt8 → Bool) : List UInt8 → Option Value := fun k => if (f k).isSome && !left k then f k else g k

theorem over_start (f g : List UInt8 → Option Value) : over f g (fun k => (f k).isSome) = g := by
  funext k
  unfold over
  cases h : f k <;> simp [h]

theorem over_end (f g : List UInt8 → Option Value) (left : List UInt8 → Bool) (h : ∀ k, left k = false) : over f g left = orE f g := by
  funext k
  unfold over orE
  rw [h]
  cases f k <;> simp

theorem over_step (f g : List UInt8 → Option Value) (left : List UInt8 → Bool) (k : List UInt8) (v : Value) (h : f k = some v) : upd (over f g left) k (some v) = over f g (fun z => left z && !decide (z = k)) := by
  funext z
  unfold upd over
  by_cases e : z = k
  · subst e
    simp [h]
  · simp [e]

end Go.Proofs.YtepgoppgblfjbaaGreatDoor

/- Commits as they lie in memory. -/
namespace Go.Proofs.YtepgoppgblfjbaaGreatDoor
open Go.RowKit

def ptrV (b : Nat) : Value := .pointer (some ⟨b, 0, none⟩)

/-- What is asked of a commit's files. -/
structure FOk (l : List Fi) : Prop where
  own : Own1 l
  len : l.length ≤ 60
  fine : Fine l

/-- A commit in memory: its id and its files; M: the blocks that may yet turn. -/
structure Cmt (M : Nat → Prop) (w : World) (b : Nat) (c : Com) : Prop where
  lies : ∃ (x : List UInt8) (v : Value) (rest : List Value), Cb b (.int .i64 3 :: .string ⟨x.toArray⟩ :: .string ⟨(Sh.hex c.sum).toArray⟩ :: v :: rest).toArray 112 w ∧ Fs w v c.files ∧ ∀ k, v.ownBlock = some k → ¬ M k ∧ k < w.heap.size
  still : ¬ M b
  sum : c.sum.length = 32
  ok : FOk c.files

theorem Cmt.kept {M X : Nat → Prop} {w w' : World} {b : Nat} {c : Com} (h : Cmt M w b c) (hk : Kx X w w') (hX : ∀ k, k < w.heap.size → X k → M k) : Cmt M w' b c := by
  obtain ⟨⟨x, v, rest, h1, h2, h3⟩, h4, h5, h6⟩ := h
  exact ⟨⟨x, v, rest, h1.kept hk (fun e => h4 (hX b h1.lt e)), h2.kept hk (fun k e hx => (h3 k e).1 (hX k (h3 k e).2 hx)), fun k e => ⟨(h3 k e).1, Nat.lt_of_lt_of_le (h3 k e).2 hk.size⟩⟩, h4, h5, h6⟩

theorem Cmt.lt {M : Nat → Prop} {w : World} {b : Nat} {c : Com} (h : Cmt M w b c) : b < w.heap.size := by
  obtain ⟨x, v, rest, h1, _⟩ := h.lies
  exact h1.lt

theorem Cmt.mono {M M' : Nat → Prop} {w : World} {b : Nat} {c : Com} (h : Cmt M w b c) (hM : ∀ k, k < w.heap.size → M' k → M k) : Cmt M' w b c := by
  have hl := h.lt
  obtain ⟨⟨x, v, rest, h1, h2, h3⟩, h4, h5, h6⟩ := h
  exact ⟨⟨x, v, rest, h1, h2, fun k e => ⟨fun m => (h3 k e).1 (hM k (h3 k e).2 m), (h3 k e).2⟩⟩, fun m => h4 (hM b hl m), h5, h6⟩

theorem Cmt.id {M : Nat → Prop} {w : World} {b : Nat} {c : Com} (h : Cmt M w b c) : w.cell? ⟨b, 2, none⟩ = some (.string ⟨(Sh.hex c.sum).toArray⟩) := by
  obtain ⟨x, v, rest, h1, _⟩ := h.lies
  exact Cb.cell h1 2

theorem Cmt.files {M : Nat → Prop} {w : World} {b : Nat} {c : Com} (h : Cmt M w b c) : ∃ v, w.cell? ⟨b, 3, none⟩ = some v ∧ Fs w v c.files ∧ ∀ k, v.ownBlock = some k → ¬ M k ∧ k < w.heap.size := by
  obtain ⟨x, v, rest, h1, h2, h3⟩ := h.lies
  exact ⟨v, Cb.cell h1 3, h2, h3⟩

/-- The pointers and the commits that they lead to. -/
def CmtL (M : Nat → Prop) (w : World) : List Nat → List Com → Prop
  | [], [] => True
  | p :: ps, c :: cs => Cmt M w p c ∧ CmtL M w ps cs
  | _, _ => False

theorem CmtL.kept {M X : Nat → Prop} {w w' : World} (hk : Kx X w w') (hX : ∀ k, k < w.heap.size → X k → M k) : ∀ {ps : List Nat} {cs : List Com}, CmtL M w ps cs → CmtL M w' ps cs
  | [], [], _ => trivial
  | _ :: _, _ :: _, h => ⟨h.1.kept hk hX, CmtL.kept hk hX h.2⟩
  | [], _ :: _, h => h.elim
  | _ :: _, [], h => h.elim

theorem CmtL.len {M : Nat → Prop} {w : World} : ∀ {ps : List Nat} {cs : List Com}, CmtL M w ps cs → ps.length = cs.length
  | [], [], _ => rfl
  | _ :: _, _ :: _, h => by simp [CmtL.len h.2]
  | [], _ :: _, h => h.elim
  | _ :: _, [], h => h.elim

theorem CmtL.at {M : Nat → Prop} {w : World} : ∀ {ps : List Nat} {cs : List Com}, CmtL M w ps cs → ∀ (k : Nat) (h1 : k < ps.length) (h2 : k < cs.length), Cmt M w ps[k] cs[k]
  | [], _, _, k, h1, _ => absurd h1 (Nat.not_lt_zero _)
  | _ :: _, _ :: _, h, 0, _, _ => h.1
  | _ :: _, _ :: _, h, k + 1, h1, h2 => CmtL.at h.2 k (by simpa using h1) (by simpa using h2)
  | _ :: _, [], h, _, _, _ => h.elim

theorem CmtL.snoc {M : Nat → Prop} {w : World} {p : Nat} {c : Com} (hc : Cmt M w p c) : ∀ {ps : List Nat} {cs : List Com}, CmtL M w ps cs → CmtL M w (ps ++ [p]) (cs ++ [c])
  | [], [], _ => ⟨hc, trivial⟩
  | _ :: _, _ :: _, h => ⟨h.1, CmtL.snoc hc h.2⟩
  | [], _ :: _, h => h.elim
  | _ :: _, [], h => h.elim

end Go.Proofs.YtepgoppgblfjbaaGreatDoor

/- Package history: New, Draft, AddCommit, AddTag. -/
namespace Go.Proofs.YtepgoppgblfjbaaGreatDoor
open Go.RowKit

def none4 : List UInt8 → Option Value := fun _ => none

/-- A new history. -/
structure HiNew (w w' : World) (h o c r t : Nat) : Prop where
  hi : Hi w' h o c r t
  fo : MpS w' o 0 none4
  fc : MpS w' c 0 none4
  fr : MpS w' r 0 none4
  ft : MpS w' t 0 none4
  new : w.heap.size ≤ o ∧ o < c ∧ c < r ∧ r < t ∧ t < h
  kx : Kx (fun _ => False) w w'

set_option maxHeartbeats 800000 in
theorem hnew_any (w : World) : Calls Tryz.prog 50 #[] w fun e w' => ∃ h o c r t, e = .returned (.pointer (some ⟨h, 0, none⟩)) ∧ HiNew w w' h o c r t := by
  have h1 := MapS.made (P := Tryz.prog) (K := 9) w
  have k1 := (Kx.refl (fun _ => False) w).alloc (.map #[] 0)
  have h2 := MapS.made (P := Tryz.prog) (K := 9) (w.alloc (.map #[] 0))
  have k2 := (Kx.refl (fun _ => False) (w.alloc (.map #[] 0))).alloc (.map #[] 0)
  have h3 := MapS.made (P := Tryz.prog) (K := 9) ((w.alloc (.map #[] 0)).alloc (.map #[] 0))
  have k3 := (Kx.refl (fun _ => False) ((w.alloc (.map #[] 0)).alloc (.map #[] 0))).alloc (.map #[] 0)
  have h4 := MapS.made (P := Tryz.prog) (K := 9) (((w.alloc (.map #[] 0)).alloc (.map #[] 0)).alloc (.map #[] 0))
  have k4 := (Kx.refl (fun _ => False) (((w.alloc (.map #[] 0)).alloc (.map #[] 0)).alloc (.map #[] 0))).alloc (.map #[] 0)
  have k5 := (Kx.refl (fun _ => False) ((((w.alloc (.map #[] 0)).alloc (.map #[] 0)).alloc (.map #[] 0)).alloc (.map #[] 0))).alloc (.cells #[.map (some w.heap.size), .map (some (w.alloc (.map #[] 0)).heap.size), .map (some ((w.alloc (.map #[] 0)).alloc (.map #[] 0)).heap.size), .map (some (((w.alloc (.map #[] 0)).alloc (.map #[] 0)).alloc (.map #[] 0)).heap.size)] 150)
  have hN : HiNew w _ _ _ _ _ _ := ⟨Cb.new _ _ _, ((((h1.kept k2 id).kept k3 id).kept k4 id).kept k5 id), (((h2.kept k3 id).kept k4 id).kept k5 id), ((h3.kept k4 id).kept k5 id), h4.kept k5 id, ⟨Nat.le_refl _, by simp, by simp, by simp, by simp⟩, (((k1.trans k2).trans k3).trans k4).trans k5⟩
  simp only [World.size_alloc] at hN
  clear h1 h2 h3 h4 k1 k2 k3 k4 k5
  have hmk : ∀ t w, Sem.run Tryz.prog (Instr.makeMap t none) w = .ok (.map (some w.heap.size)) (w.alloc (.map #[] 0)) := fun _ _ => rfl
  go_enter Tryz.func50, Tryz.ntmps50
  go_wp2
  go_ret
  exact ⟨_, _, _, _, _, rfl, hN⟩

theorem draft_any (p : Nat) (w : World) : Calls Tryz.prog 121 #[.pointer (some ⟨p, 0, none⟩)] w fun e w' => ∃ d h o c r t, e = .returned (.pointer (some ⟨d, 0, none⟩)) ∧ Dr w' d p h ∧ h < d ∧ HiNew w w' h o c r t := by
  go_enter Tryz.func121, Tryz.ntmps121
  go_wp2_with (go_at_call 50; refine (hnew_any _).mono ?_; rintro _ w2 ⟨h, o, c, r, t, rfl, hN⟩)
  go_ret
  have k := (Kx.refl (fun _ => False) w2).alloc (.cells #[.pointer (some ⟨p, 0, none⟩), .pointer (some ⟨h, 0, none⟩)] 224)
  exact ⟨_, h, o, c, r, t, rfl, Cb.new _ _ _, Cb.lt hN.hi, hN.hi.kept k id, hN.fo.kept k id, hN.fc.kept k id, hN.fr.kept k id, hN.ft.kept k id, hN.new, hN.kx.trans k⟩

set_option maxHeartbeats 800000 in
theorem addCommit_any (d p m o c r t n n' : Nat) (f g : List UInt8 → Option Value) (b : Nat) (x i : List UInt8) (rest : List Value) (w : World) (hd : Dr w d p m) (hm : Hi w m o c r t) (hf : MpS w o n f) (hg : MpS w c n' g) (hn : n < maxLen) (hn' : n' < maxLen) (hi : i.length ≤ maxLen)
    (hb : Cb b (.int .i64 3 :: .string ⟨x.toArray⟩ :: .string ⟨i.toArray⟩ :: rest).toArray 112 w) (hoc : o ≠ c) (hod : d ≠ o) (hom : m ≠ o) (hob : b ≠ o) :
    Calls Tryz.prog 232 #[.pointer (some ⟨d, 0, none⟩), .pointer (some ⟨b, 0, none⟩)] w fun e w' => e = .returned (.tuple #[]) ∧ MpS w' o (n + 1) (upd f i (some (objV 3 x i))) ∧ MpS w' c (n' + 1) (upd g i (some (.pointer (some ⟨b, 0, none⟩)))) ∧ Kx (fun k => k = o ∨ k = c) w w' := by
  have hb0 : w.cell? ⟨b, 0, none⟩ = some (.int .i64 3) := Cb.cell hb 0
  have hb1 : w.cell? ⟨b, 1, none⟩ = some (.string ⟨x.toArray⟩) := Cb.cell hb 1
  have hb2 : w.cell? ⟨b, 2, none⟩ = some (.string ⟨i.toArray⟩) := Cb.cell hb 2
  have hc := add_any d p m o c r t n f 3 x i w hd hm hf hn hi
  unfold objV at *
  go_enter Tryz.func232, Tryz.ntmps232
  go_wp2_with (go_at_call 300; refine hc.mono ?_; rintro _ w2 ⟨rfl, hf2, hk2⟩)
  have hdW := hd.kept hk2 (by unfold Only; exact hod)
  have hmW := hm.kept hk2 (by unfold Only; exact hom)
  have hbW := hb.kept hk2 (by unfold Only; exact hob)
  have hgW := hg.kept hk2 (by unfold Only; exact Ne.symm hoc)
  clear hc hd hm hb hg hf hb0 hb1 hb2
  refine wp_region_quiet_tail (C := fun w' => Kx (fun _ => False) w2 w') 13 (by kernel_rfl) (by kernel_rfl) (Kx.refl _ _).drew ?_
  refine quiet_val rfl (.pointer (some ⟨d, 0, none⟩)) (fun w' hC => by go_simp) ?_
  refine quiet_val rfl (.pointer (some ⟨d, 0, none⟩)) (fun w' hC => by go_simp) ?_
  refine quiet_val rfl (.pointer (some ⟨d, 1, none⟩)) (fun w' hC => by go_simp) ?_
  refine quiet_val rfl (.pointer (some ⟨m, 0, none⟩)) (fun w' hC => by
    have hcw : w'.cell? ⟨d, 1, none⟩ = some (.pointer (some ⟨m, 0, none⟩)) := Cb.cell (hdW.kept hC id) 1
    go_simp) ?_
  refine quiet_val rfl (.pointer (some ⟨m, 0, none⟩)) (fun w' hC => by go_simp) ?_
  refine quiet_val rfl (.pointer (some ⟨m, 1, none⟩)) (fun w' hC => by go_simp) ?_
  refine quiet_val rfl (.map (some c)) (fun w' hC => by
    have hcw : w'.cell? ⟨m, 1, none⟩ = some (.map (some c)) := Cb.cell (hmW.kept hC id) 1
    go_simp) ?_
  refine quiet_val rfl (.pointer (some ⟨b, 0, none⟩)) (fun w' hC => by go_simp) ?_
  refine quiet_val rfl (.pointer (some ⟨b, 0, none⟩)) (fun w' hC => by go_simp) ?_
  refine quiet_val rfl (.pointer (some ⟨b, 0, none⟩)) (fun w' hC => by go_simp) ?_
  refine quiet_val rfl (.pointer (some ⟨b, 2, none⟩)) (fun w' hC => by go_simp) ?_
  refine quiet_val rfl (.string ⟨i.toArray⟩) (fun w' hC => by
    have hcw : w'.cell? ⟨b, 2, none⟩ = some (.string ⟨i.toArray⟩) := Cb.cell (hbW.kept hC id) 2
    go_simp) ?_
  refine quiet_val rfl (.pointer (some ⟨b, 0, none⟩)) (fun w' hC => by go_simp) ?_
  refine wpQuiet_nil (fun w' hC => ?_)
  simp only [Act.put, List.setIfInBounds_toArray, List.set_cons_succ, List.set_cons_zero, List.drop_succ_cons, List.drop_zero]
  have hg' := hgW.kept hC id
  have hf' := hf2.kept hC id
  have hk' : Kx (fun k => k = o ∨ k = c) w w' := (hk2.mono (fun _ _ h => .inl h)).trans (hC.mono (fun _ _ h => h.elim))
  refine wpList_putS rfl _ _ _ 147 rfl 101 (by kernel_rfl) (by kernel_rfl) c n' g rfl hg' hn' i rfl hi _ rfl ?_
  intro w3 hg3 hk3
  go_wp2
  go_end0
  exact ⟨rfl, hf'.kept hk3 (by unfold Only; exact hoc), hg3, hk'.trans (hk3.mono (fun _ _ h => .inr h))⟩

set_option maxHeartbeats 800000 in
theorem addTag_any (d p m o c r t n n' : Nat) (f g : List UInt8 → Option Value) (b : Nat) (x i name : List UInt8) (rest : List Value) (w : World) (hd : Dr w d p m) (hm : Hi w m o c r t) (hf : MpS w o n f) (hg : MpS w t n' g) (hn : n < maxLen) (hn' : n' < maxLen) (hi : i.length ≤ maxLen) (hname : name.length ≤ maxLen)
    (hb : Cb b (.int .i64 4 :: .string ⟨x.toArray⟩ :: .string ⟨i.toArray⟩ :: .string ⟨name.toArray⟩ :: rest).toArray 187 w) (hoc : o ≠ t) (hod : d ≠ o) (hom : m ≠ o) (hob : b ≠ o) :
    Calls Tryz.prog 240 #[.pointer (some ⟨d, 0, none⟩), .pointer (some ⟨b, 0, none⟩)] w fun e w' => e = .returned (.tuple #[]) ∧ MpS w' o (n + 1) (upd f i (some (objV 4 x i))) ∧ MpS w' t (n' + 1) (upd g name (some (.pointer (some ⟨b, 0, none⟩)))) ∧ Kx (fun k => k = o ∨ k = t) w w' := by
  have hb0 : w.cell? ⟨b, 0, none⟩ = some (.int .i64 4) := Cb.cell hb 0
  have hb1 : w.cell? ⟨b, 1, none⟩ = some (.string ⟨x.toArray⟩) := Cb.cell hb 1
  have hb2 : w.cell? ⟨b, 2, none⟩ = some (.string ⟨i.toArray⟩) := Cb.cell hb 2
  have hc := add_any d p m o c r t n f 4 x i w hd hm hf hn hi
  unfold objV at *
  go_enter Tryz.func240, Tryz.ntmps240
  go_wp2_with (go_at_call 300; refine hc.mono ?_; rintro _ w2 ⟨rfl, hf2, hk2⟩)
  have hdW := hd.kept hk2 (by unfold Only; exact hod)
  have hmW := hm.kept hk2 (by unfold Only; exact hom)
  have hbW := hb.kept hk2 (by unfold Only; exact hob)
  have hgW := hg.kept hk2 (by unfold Only; exact Ne.symm hoc)
  clear hc hd hm hb hg hf hb0 hb1 hb2
  refine wp_region_quiet_tail (C := fun w' => Kx (fun _ => False) w2 w') 12 (by kernel_rfl) (by kernel_rfl) (Kx.refl _ _).drew ?_
  refine quiet_val rfl (.pointer (some ⟨d, 0, none⟩)) (fun w' hC => by go_simp) ?_
  refine quiet_val rfl (.pointer (some ⟨d, 0, none⟩)) (fun w' hC => by go_simp) ?_
  refine quiet_val rfl (.pointer (some ⟨d, 1, none⟩)) (fun w' hC => by go_simp) ?_
  refine quiet_val rfl (.pointer (some ⟨m, 0, none⟩)) (fun w' hC => by
    have hcw : w'.cell? ⟨d, 1, none⟩ = some (.pointer (some ⟨m, 0, none⟩)) := Cb.cell (hdW.kept hC id) 1
    go_simp) ?_
  refine quiet_val rfl (.pointer (some ⟨m, 0, none⟩)) (fun w' hC => by go_simp) ?_
  refine quiet_val rfl (.pointer (some ⟨m, 3, none⟩)) (fun w' hC => by go_simp) ?_
  refine quiet_val rfl (.map (some t)) (fun w' hC => by
    have hcw : w'.cell? ⟨m, 3, none⟩ = some (.map (some t)) := Cb.cell (hmW.kept hC id) 3
    go_simp) ?_
  refine quiet_val rfl (.pointer (some ⟨b, 0, none⟩)) (fun w' hC => by go_simp) ?_
  refine quiet_val rfl (.pointer (some ⟨b, 0, none⟩)) (fun w' hC => by go_simp) ?_
  refine quiet_val rfl (.pointer (some ⟨b, 3, none⟩)) (fun w' hC => by go_simp) ?_
  refine quiet_val rfl (.string ⟨name.toArray⟩) (fun w' hC => by
    have hcw : w'.cell? ⟨b, 3, none⟩ = some (.string ⟨name.toArray⟩) := Cb.cell (hbW.kept hC id) 3
    go_simp) ?_
  refine quiet_val rfl (.pointer (some ⟨b, 0, none⟩)) (fun w' hC => by go_simp) ?_
  refine wpQuiet_nil (fun w' hC => ?_)
  simp only [Act.put, List.setIfInBounds_toArray, List.set_cons_succ, List.set_cons_zero, List.drop_succ_cons, List.drop_zero]
  have hg' := hgW.kept hC id
  have hf' := hf2.kept hC id
  have hk' : Kx (fun k => k = o ∨ k = t) w w' := (hk2.mono (fun _ _ h => .inl h)).trans (hC.mono (fun _ _ h => h.elim))
  refine wpList_putS rfl _ _ _ 148 rfl 185 (by kernel_rfl) (by kernel_rfl) t n' g rfl hg' hn' name rfl hname _ rfl ?_
  intro w3 hg3 hk3
  go_wp2
  go_end0
  exact ⟨rfl, hf'.kept hk3 (by unfold Only; exact hoc), hg3, hk'.trans (hk3.mono (fun _ _ h => .inr h))⟩

end Go.Proofs.YtepgoppgblfjbaaGreatDoor
