import Derived.Test.YtepgoppgblfjbaaGreatDoorTw01
import Derived.Laws.AppendOwn
import Derived.Laws.IdiomStrings
import Derived.Lib.AppendStr
import Derived.KernelRfl
import Derived.Test.YtepgoppgblfjbaaGreatDoorTw04
import Derived.OwnWalk
/- Rows of bytes of the call's own; also those that came of a string (their mark lies behind their last cell). -/
namespace Go.Proofs.YtepgoppgblfjbaaGreatDoor
open Go.RowKit

/-- The slice owns these cells (of one cell each); whatever is frozen of its row lies behind its last cell. -/
def OwnB (w : World) (base : Nat) (e : TypeId) (v : Value) (xs : List Value) : Prop :=
  (v = .slice none 0 0 ∧ xs = []) ∨
  ∃ g cap cur fz, v = .slice (some ⟨g, 0, none⟩) xs.length cap ∧ base ≤ g ∧ w.heap[g]? = some (.cells cur e fz) ∧ (fz.2 = 0 ∨ cur.size ≤ fz.1) ∧ xs.length ≤ cap ∧ cap ≤ maxLen ∧ cur.size = cap ∧ cur.toList.take xs.length = xs

theorem OwnB.slice {w : World} {base : Nat} {e : TypeId} {v : Value} {xs : List Value} (h : OwnB w base e v xs) : ∃ a c, v = .slice a xs.length c := by
  rcases h with ⟨rfl, rfl⟩ | ⟨g, cap, cur, fz, rfl, _⟩
  · exact ⟨_, _, rfl⟩
  · exact ⟨_, _, rfl⟩

theorem OwnB.lt {w : World} {base : Nat} {e : TypeId} {v : Value} {xs : List Value} (h : OwnB w base e v xs) : ∀ k, v.ownBlock = some k → base ≤ k ∧ k < w.heap.size := by
  intro k hk
  rcases h with ⟨rfl, _⟩ | ⟨g, cap, cur, fz, rfl, hb, hg, _⟩
  · simp [Value.ownBlock] at hk
  · simp [Value.ownBlock] at hk
    subst hk
    exact ⟨hb, (Array.getElem?_eq_some_iff.1 hg).1⟩

theorem OwnB.kept {w w' : World} {base : Nat} {e : TypeId} {v : Value} {xs : List Value} {X : Nat → Prop} (h : OwnB w base e v xs) (hk : Kx X w w') (hX : ∀ k, k < w.heap.size → v.ownBlock = some k → ¬ X k) : OwnB w' base e v xs := by
  rcases h with hn | ⟨g, cap, cur, fz, rfl, hbg, hgg, rest⟩
  · exact .inl hn
  · refine .inr ⟨g, cap, cur, fz, rfl, hbg, ?_, rest⟩
    have hl := (Array.getElem?_eq_some_iff.1 hgg).1
    rw [hk.block g hl (hX g hl rfl)]
    exact hgg

theorem OwnB.alloc {w : World} {base : Nat} {e : TypeId} {v : Value} {xs : List Value} (h : OwnB w base e v xs) (o : Obj) : OwnB (w.alloc o) base e v xs :=
  h.kept (X := fun _ => False) ((Kx.refl _ _).alloc o) (fun _ _ _ => id)

theorem OwnB.cell {w : World} {base : Nat} {e : TypeId} {v : Value} {xs : List Value} (h : OwnB w base e v xs) (hn : xs ≠ []) :
    ∃ g cap, v = .slice (some ⟨g, 0, none⟩) xs.length cap ∧ base ≤ g ∧ g < w.heap.size ∧ xs.length ≤ cap ∧ ∀ k x, xs[k]? = some x → w.cell? ⟨g, k, none⟩ = some x := by
  rcases h with ⟨_, rfl⟩ | ⟨g, cap, cur, fz, rfl, hb, hg, hz, hc, hm, hs, ht⟩
  · exact absurd rfl hn
  · refine ⟨g, cap, rfl, hb, (Array.getElem?_eq_some_iff.1 hg).1, hc, fun k x hx => ?_⟩
    have hk : k < xs.length := (List.getElem?_eq_some_iff.1 hx).1
    rw [← ht, List.getElem?_take_of_lt hk] at hx
    unfold World.cell?
    rw [hg]
    simpa using hx

theorem storeCells_B (P : Program) (g o : Nat) (t : TypeId) (fz : Nat × Nat) : ∀ (vs : List Value) (i : Nat) (cur : Array Value) (w : World), w.heap[g]? = some (.cells cur t fz) → (fz.2 = 0 ∨ cur.size ≤ fz.1) → o + i + vs.length ≤ cur.size → (∀ v ∈ vs, v.oneCell' = true) →
    (storeCells ⟨g, o, none⟩ vs i).run P w = .ok () (w.setRow g (cur.toList.take (o + i) ++ vs ++ cur.toList.drop (o + i + vs.length)).toArray)
  | [], i, cur, w, hg, _, _, _ => by
    simp only [storeCells, List.append_nil, List.length_nil, Nat.add_zero, List.take_append_drop, Array.toArray_toList]
    rw [setRow_self w g cur t fz hg]
    rfl
  | v :: rest, i, cur, w, hg, hz, hl, h1 => by
    have hi : o + i < cur.size := by simp at hl; omega
    have hadd : (⟨g, o, none⟩ : Addr).add i = ⟨g, o + i, none⟩ := by unfold Addr.add; split <;> simp_all
    have hcell : w.cell? ⟨g, o + i, none⟩ = some cur[o + i] := by simp [World.cell?, hg, hi]
    have hfro : w.frozen? ⟨g, o + i, none⟩ = false := by
      obtain ⟨lo, hi'⟩ := fz
      simp [World.frozen?, hg]
      intro h
      rcases hz with hz | hz <;> simp at hz <;> omega
    have hst : (store ((⟨g, o, none⟩ : Addr).add i) v).run P w = .ok () (w.setRow g (cur.setIfInBounds (o + i) v)) := by
      rw [hadd, run_store P w _ v _ (h1 v (by simp)), hcell]
      simp [hfro, setCell_eq_setRow w g (o + i) cur t fz v hg]
    have ih := storeCells_B P g o t fz rest (i + 1) (cur.setIfInBounds (o + i) v) (w.setRow g (cur.setIfInBounds (o + i) v)) (setRow_heap w g cur _ t _ hg) (by simpa using hz) (by simp at hl ⊢; omega) (fun x hx => h1 x (by simp [hx]))
    simp only [storeCells, Sem.run_bind, hst, Result.andThen_ok, ih, setRow_setRow]
    congr 3
    have e := list_seg_step cur.toList (o + i) v rest (by simp at hl ⊢; omega)
    simpa [Array.toList_setIfInBounds, Nat.add_assoc] using e

theorem run_append_B {P : Program} (w : World) (base : Nat) (t ty e : TypeId) (i : TypeInfo) (z : Value) (bytes : Nat) (ht : P.underlying t = some (.slice e)) (hi : P.info? e = some i) (hz : i.zero = some z)
    (hsize : i.size = 1) (hby : i.bytes = bytes) (hzs : z.cells.size = 1)
    (v : Value) (xs : List Value) (hown : OwnB w base e v xs)
    (a : Addr) (m c : Nat) (news : List Value) (hl : news.length = m) (hm0 : 0 < m) (hnews : ∀ j u, news[j]? = some u → w.cell? (a.add j) = some u) (h1 : ∀ u ∈ news, u.oneCell' = true)
    (h63 : xs.length + m ≤ maxLen) (hbytes : (xs.length + m) * bytes ≤ 140737488355328) (hbase : base ≤ w.heap.size) :
    ∃ v' w', (Builtin.append_ #[t, t] ty #[v, .slice (some a) m c]).run P w = .ok v' w' ∧ OwnB w' base e v' (xs ++ news) ∧ w.grownBy w' v.ownBlock ∧ (v'.ownBlock = v.ownBlock ∨ v'.ownBlock = some w.heap.size) := by
  subst hby
  have hsmall : xs.length + m ≤ 9223372036854775807 := by simp only [maxLen] at h63; omega
  have hlen : (xs ++ news).length = xs.length + m := by rw [List.length_append, hl]
  have grown : ∀ (old : Nat), old < xs.length + m → ∀ (row : Option Nat),
      OwnB (w.drew.alloc (.cells (xs.toArray ++ news.toArray ++ Builtin.zeroCells z.cells (grownCap w (xs.length + m) old e - (xs.length + m))) e)) base e
        (.slice (some ⟨w.heap.size, 0, none⟩) (xs.length + m) (grownCap w (xs.length + m) old e)) (xs ++ news) ∧
      w.grownBy (w.drew.alloc (.cells (xs.toArray ++ news.toArray ++ Builtin.zeroCells z.cells (grownCap w (xs.length + m) old e - (xs.length + m))) e)) row := by
    intro old ho row
    have hge := grownCap_ge w (xs.length + m) old e
    have hcm : grownCap w (xs.length + m) old e ≤ maxLen := grownCap_le_maxLen w (xs.length + m) old e h63
    refine ⟨.inr ⟨w.heap.size, _, _, (0, 0), by rw [hlen], hbase, heap_alloc_new w.drew _, .inl rfl, by rw [hlen]; exact hge, hcm, ?_, ?_⟩, ⟨rfl, rfl, rfl, by simp, fun k hk _ => Below.heap_alloc w.drew _ k hk⟩⟩
    · simp only [Array.size_append, List.size_toArray, size_zeroCells, hzs, hl, Nat.mul_one]
      omega
    · simp only [Array.toList_append, List.append_assoc]
      rw [← List.append_assoc]
      exact List.take_left
  rcases hown with ⟨rfl, rfl⟩ | ⟨g, cap, cur, fz, rfl, hbg, hg, hfz, hnc, hcm, hcs, htake⟩
  · have hr := run_append_nil (P := P) w t ty e i z ht hi hz a m c news (by rw [hl, hsize, Nat.mul_one]) hnews (by omega) (by simp at hsmall; omega) (by have hb := hbytes; simp only [List.length_nil, Nat.zero_add] at hb; omega)
    have hgr := grown 0 (by simp; omega) (Value.ownBlock (.slice none 0 0))
    simp only [List.length_nil, Nat.zero_add, List.nil_append, Array.empty_append] at hgr ⊢
    exact ⟨_, _, hr, hgr.1, hgr.2, .inr rfl⟩
  · by_cases hroom : xs.length + m ≤ cap
    · have hf := run_firstCells_some (P := P) w i.size m a m c news (by rw [hl, hsize, Nat.mul_one]) hnews
      have hst := storeCells_B P g xs.length e fz news 0 cur w hg hfz (by rw [hl, hcs]; omega) h1
      simp only [Nat.add_zero] at hst
      rw [hsize] at hf
      refine ⟨.slice (some ⟨g, 0, none⟩) (xs.length + m) cap, w.setRow g (cur.toList.take xs.length ++ news ++ cur.toList.drop (xs.length + news.length)).toArray, ?_, .inr ⟨g, cap, _, fz, by rw [hlen], hbg, setRow_heap w g cur _ e _ hg, ?_, by rw [hlen]; exact hroom, hcm, ?_, ?_⟩, ⟨rfl, rfl, rfl, by simp, fun k _ hk => setRow_other w g k _ (fun e => hk (by simp [Value.ownBlock, e]))⟩, .inl rfl⟩
      · simp [Builtin.append_, run_underlying ht, sizeOf, typeInfo, hi, Builtin.lenOf, hroom, hf, Addr.add_lit, hsize, hst]
      · rcases hfz with h | h
        · exact .inl h
        · refine .inr ?_
          simp only [List.size_toArray, List.length_append, List.length_take, List.length_drop, Array.length_toList]
          omega
      · simp only [List.size_toArray, List.length_append, List.length_take, List.length_drop, Array.length_toList]
        omega
      · rw [htake]
        simp only [List.append_assoc]
        rw [← List.append_assoc]
        exact List.take_left
    · have holds : ∀ j u, xs[j]? = some u → w.cell? ((⟨g, 0, none⟩ : Addr).add j) = some u := by
        intro j u hu
        have hadd : (⟨g, 0, none⟩ : Addr).add j = ⟨g, j, none⟩ := by unfold Addr.add; split <;> simp_all
        have hj : j < xs.length := (List.getElem?_eq_some_iff.1 hu).1
        rw [← htake, List.getElem?_take_of_lt hj] at hu
        rw [hadd]
        unfold World.cell?
        rw [hg]
        simpa using hu
      have hr := run_append_grow (P := P) w t ty e i z ht hi hz ⟨g, 0, none⟩ xs.length cap xs (by rw [hsize, Nat.mul_one]) holds a m c news (by rw [hl, hsize, Nat.mul_one]) hnews (by omega) (by omega) (growslice_fits (by omega) hbytes)
      have hgr := grown cap (by omega) (Value.ownBlock (.slice (some ⟨g, 0, none⟩) xs.length cap))
      exact ⟨_, _, hr, hgr.1, hgr.2, .inr rfl⟩

theorem wpList_append_B {P : Program} (w : World) {ops : Array Oper} {rest : List Oper} {o : Oper} {a : Act} {Q : Exit → Act → World → Prop} (hgd : o.guard = none) (s x : Operand) (t : TypeId)
    (ho : o.op = .call { callee := .builtin .append, args := #[s, x], argTypes := #[t, t] })
    (base : Nat) (e : TypeId) (i : TypeInfo) (z : Value) (bytes : Nat) (ht : P.underlying t = some (.slice e)) (hi : P.info? e = some i) (hz : i.zero = some z)
    (hsize : i.size = 1) (hby : i.bytes = bytes) (hzs : z.cells.size = 1)
    (v : Value) (xs : List Value) (hs : a.eval s = v) (hown : OwnB w base e v xs)
    (ad : Addr) (m c : Nat) (news : List Value) (hx : a.eval x = .slice (some ad) m c) (hl : news.length = m) (hm0 : 0 < m) (hnews : ∀ j u, news[j]? = some u → w.cell? (ad.add j) = some u) (h1 : ∀ u ∈ news, u.oneCell' = true)
    (h63 : xs.length + m ≤ maxLen) (hbytes : (xs.length + m) * bytes ≤ 140737488355328) (hbase : base ≤ w.heap.size)
    (h : ∀ v' w', OwnB w' base e v' (xs ++ news) → w.grownBy w' v.ownBlock → (v'.ownBlock = v.ownBlock ∨ v'.ownBlock = some w.heap.size) → wpList P ops Q rest (a.put o.dst v') w') : wpList P ops Q (o :: rest) a w := by
  refine wpList_plain hgd fun K' hK' => ?_
  obtain ⟨v', w', hr, h2, h3, h4⟩ := run_append_B (P := P) w base t o.type e i z bytes ht hi hz hsize hby hzs v xs hown ad m c news hl hm0 hnews h1 h63 hbytes hbase
  unfold Oper.wp execOp
  simp only [ho, resolve, invoke, builtin, Sem.run_bind, Sem.run_pure, Result.andThen_ok, List.map_toArray, List.map_cons, List.map_nil, hs, hx, hr]
  exact hK' _ _ (h v' w' h2 h3 h4)

/-- Bytes as cells. -/
def A8 (l : List UInt8) : List Value := l.map fun b => .int .u8 (b.toNat : Int)

theorem A8_len (l : List UInt8) : (A8 l).length = l.length := by simp [A8]

theorem strCells_A8 (l : List UInt8) : Lib.strCells ⟨l.toArray⟩ = A8 l := rfl

theorem A8_one (l : List UInt8) : ∀ v ∈ A8 l, v.oneCell' = true := by
  intro v hv
  simp [A8] at hv
  obtain ⟨x, _, rfl⟩ := hv
  rfl

theorem A8_app (a b : List UInt8) : A8 (a ++ b) = A8 a ++ A8 b := by simp [A8]

theorem run_append_Bs {P : Program} (w : World) (base : Nat) (t u ty e : TypeId) (i : TypeInfo) (ht : P.underlying t = some (.slice e)) (hu : P.underlying u = some .string) (hi : P.info? e = some i) (hz : i.zero = some (.int .u8 0))
    (hsize : i.size = 1) (hby : i.bytes = 1)
    (v : Value) (xs : List Value) (hown : OwnB w base e v xs) (s : List UInt8) (hs0 : 0 < s.length)
    (h63 : xs.length + s.length ≤ maxLen) (hbytes : (xs.length + s.length) * 1 ≤ 140737488355328) (hbase : base ≤ w.heap.size) :
    ∃ v' w', (Builtin.append_ #[t, u] ty #[v, .string ⟨s.toArray⟩]).run P w = .ok v' w' ∧ OwnB w' base e v' (xs ++ A8 s) ∧ w.grownBy w' v.ownBlock ∧ (v'.ownBlock = v.ownBlock ∨ v'.ownBlock = some w.heap.size) := by
  have hsz : (⟨s.toArray⟩ : ByteArray).size = s.length := by simp [ByteArray.size]
  have hsmall : xs.length + s.length ≤ 9223372036854775807 := by simp only [maxLen] at h63; omega
  have hlen : (xs ++ A8 s).length = xs.length + s.length := by rw [List.length_append, A8_len]
  have grown : ∀ (old : Nat), old < xs.length + s.length → ∀ (row : Option Nat),
      OwnB (w.drew.alloc (.cells (xs.toArray ++ (A8 s).toArray ++ Builtin.zeroCells (Value.int .u8 0).cells (grownCap w (xs.length + s.length) old e - (xs.length + s.length))) e)) base e
        (.slice (some ⟨w.heap.size, 0, none⟩) (xs.length + s.length) (grownCap w (xs.length + s.length) old e)) (xs ++ A8 s) ∧
      w.grownBy (w.drew.alloc (.cells (xs.toArray ++ (A8 s).toArray ++ Builtin.zeroCells (Value.int .u8 0).cells (grownCap w (xs.length + s.length) old e - (xs.length + s.length))) e)) row := by
    intro old ho row
    have hge := grownCap_ge w (xs.length + s.length) old e
    have hcm : grownCap w (xs.length + s.length) old e ≤ maxLen := grownCap_le_maxLen w (xs.length + s.length) old e h63
    have hz1 : (Value.int IntKind.u8 0).cells.size = 1 := rfl
    refine ⟨.inr ⟨w.heap.size, _, _, (0, 0), by rw [hlen], hbase, heap_alloc_new w.drew _, .inl rfl, by rw [hlen]; exact hge, hcm, ?_, ?_⟩, ⟨rfl, rfl, rfl, by simp, fun k hk _ => Below.heap_alloc w.drew _ k hk⟩⟩
    · simp only [Array.size_append, List.size_toArray, size_zeroCells, hz1, A8_len, Nat.mul_one]
      omega
    · simp only [Array.toList_append, List.append_assoc]
      rw [← List.append_assoc]
      exact List.take_left
  rcases hown with ⟨rfl, rfl⟩ | ⟨g, cap, cur, fz, rfl, hbg, hg, hfz, hnc, hcm, hcs, htake⟩
  · have hr := run_append_nil_string (P := P) w t u ty e i (.int .u8 0) ht hu hi hz ⟨s.toArray⟩ (by rw [hsz]; omega) (by rw [hsz]; simp at hsmall; omega) (by rw [hby, hsz]; simp at hbytes; omega)
    have hgr := grown 0 (by simp; omega) (Value.ownBlock (.slice none 0 0))
    have e1 : ((⟨s.toArray⟩ : ByteArray).data.map fun b => Value.int .u8 b.toNat) = (A8 s).toArray := by
      apply Array.ext'
      simp [A8]
    rw [e1, hsz] at hr
    simp only [List.length_nil, Nat.zero_add, List.nil_append, Array.empty_append] at hgr ⊢
    exact ⟨_, _, hr, hgr.1, hgr.2, .inr rfl⟩
  · by_cases hroom : xs.length + s.length ≤ cap
    · have hf := Lib.run_firstCells_string (P := P) w 1 ⟨s.toArray⟩
      rw [hsz, strCells_A8] at hf
      have hst := storeCells_B P g xs.length e fz (A8 s) 0 cur w hg hfz (by rw [A8_len, hcs]; omega) (A8_one s)
      simp only [Nat.add_zero] at hst
      refine ⟨.slice (some ⟨g, 0, none⟩) (xs.length + s.length) cap, w.setRow g (cur.toList.take xs.length ++ A8 s ++ cur.toList.drop (xs.length + (A8 s).length)).toArray, ?_, .inr ⟨g, cap, _, fz, by rw [hlen], hbg, setRow_heap w g cur _ e _ hg, ?_, by rw [hlen]; exact hroom, hcm, ?_, ?_⟩, ⟨rfl, rfl, rfl, by simp, fun k _ hk => setRow_other w g k _ (fun e => hk (by simp [Value.ownBlock, e]))⟩, .inl rfl⟩
      · simp [Builtin.append_, run_underlying ht, run_underlying hu, sizeOf, typeInfo, hi, hsize, Builtin.lenOf, hsz, hroom, hf, Addr.add_lit, hst]
      · rcases hfz with h | h
        · exact .inl h
        · refine .inr ?_
          simp only [List.size_toArray, List.length_append, List.length_take, List.length_drop, Array.length_toList, A8_len]
          omega
      · simp only [List.size_toArray, List.length_append, List.length_take, List.length_drop, Array.length_toList, A8_len]
        omega
      · rw [htake]
        simp only [List.append_assoc]
        rw [← List.append_assoc]
        exact List.take_left
    · have holds : ∀ j u, xs[j]? = some u → w.cell? ((⟨g, 0, none⟩ : Addr).add j) = some u := by
        intro j u hu
        have hadd : (⟨g, 0, none⟩ : Addr).add j = ⟨g, j, none⟩ := by unfold Addr.add; split <;> simp_all
        have hj : j < xs.length := (List.getElem?_eq_some_iff.1 hu).1
        rw [← htake, List.getElem?_take_of_lt hj] at hu
        rw [hadd]
        unfold World.cell?
        rw [hg]
        simpa using hu
      have hr := Lib.run_append_grow_string (P := P) w t u ty e i (.int .u8 0) ht hu hi hz ⟨g, 0, none⟩ xs.length cap xs (by rw [hsize, Nat.mul_one]) holds ⟨s.toArray⟩ (by rw [hsz]; omega) (by rw [hsz]; omega) (by rw [hsz, hby]; exact growslice_fits (by omega) hbytes)
      rw [hsz, strCells_A8] at hr
      have hgr := grown cap (by omega) (Value.ownBlock (.slice (some ⟨g, 0, none⟩) xs.length cap))
      exact ⟨_, _, hr, hgr.1, hgr.2, .inr rfl⟩

theorem wpList_append_Bs {P : Program} (w : World) {ops : Array Oper} {rest : List Oper} {o : Oper} {a : Act} {Q : Exit → Act → World → Prop} (hgd : o.guard = none) (sl x : Operand) (t u : TypeId)
    (ho : o.op = .call { callee := .builtin .append, args := #[sl, x], argTypes := #[t, u] })
    (base : Nat) (e : TypeId) (i : TypeInfo) (ht : P.underlying t = some (.slice e)) (hu : P.underlying u = some .string) (hi : P.info? e = some i) (hz : i.zero = some (.int .u8 0))
    (hsize : i.size = 1) (hby : i.bytes = 1)
    (v : Value) (xs : List Value) (hv : a.eval sl = v) (hown : OwnB w base e v xs) (s : List UInt8) (hx : a.eval x = .string ⟨s.toArray⟩) (hs0 : 0 < s.length)
    (h63 : xs.length + s.length ≤ maxLen) (hbytes : (xs.length + s.length) * 1 ≤ 140737488355328) (hbase : base ≤ w.heap.size)
    (h : ∀ v' w', OwnB w' base e v' (xs ++ A8 s) → w.grownBy w' v.ownBlock → (v'.ownBlock = v.ownBlock ∨ v'.ownBlock = some w.heap.size) → wpList P ops Q rest (a.put o.dst v') w') : wpList P ops Q (o :: rest) a w := by
  refine wpList_plain hgd fun K' hK' => ?_
  obtain ⟨v', w', hr, h2, h3, h4⟩ := run_append_Bs (P := P) w base t u o.type e i ht hu hi hz hsize hby v xs hown s hs0 h63 hbytes hbase
  unfold Oper.wp execOp
  simp only [ho, resolve, invoke, builtin, Sem.run_bind, Sem.run_pure, Result.andThen_ok, List.map_toArray, List.map_cons, List.map_nil, hv, hx, hr]
  exact hK' _ _ (h v' w' h2 h3 h4)

/-- A string turned into a row of bytes: at the operation. -/
theorem wpList_bytesOf {P : Program} (w : World) {ops : Array Oper} {rest : List Oper} {o : Oper} {a : Act} {Q : Exit → Act → World → Prop} (hgd : o.guard = none) (src dst e : TypeId) (x : Operand) (ho : o.op = .convert src dst x)
    (hsrc : P.underlying src = some .string) (hd : P.underlying dst = some (.slice e)) (he : P.underlying e = some (.int .u8)) (l : List UInt8) (hx : a.eval x = .string ⟨l.toArray⟩) (hm : l.length ≤ maxLen)
    (h : ∀ v' w', OwnB w' w.heap.size e v' (A8 l) → Kx (fun _ => False) w w' → wpList P ops Q rest (a.put o.dst v') w') : wpList P ops Q (o :: rest) a w := by
  refine wpList_plain hgd fun K' hK' => ?_
  have hr := run_bytes_of_string (P := P) w src dst e ⟨l.toArray⟩ hsrc hd he
  have hsz : (⟨l.toArray⟩ : ByteArray).size = l.length := by simp [ByteArray.size]
  have hge := grownCap_ge w l.length 0 e
  have hcm : grownCap w l.length 0 e ≤ maxLen := grownCap_le_maxLen w l.length 0 e hm
  rw [hsz] at hr
  have hbr : (bytesRow ⟨l.toArray⟩ (grownCap w l.length 0 e)).size = grownCap w l.length 0 e := by
    simp [bytesRow, hsz]; omega
  have htk : (bytesRow ⟨l.toArray⟩ (grownCap w l.length 0 e)).toList.take (A8 l).length = A8 l := by
    simp [bytesRow, A8]
  unfold Oper.wp execOp
  simp only [ho, hx, Sem.run_bind, hr, Sem.run_pure, Result.andThen]
  refine hK' _ _ (h _ _ (.inr ⟨w.heap.size, grownCap w l.length 0 e, bytesRow ⟨l.toArray⟩ (grownCap w l.length 0 e), _, by rw [A8_len], Nat.le_refl _, heap_alloc_new w.drew _, .inr (Nat.le_refl _), by rw [A8_len]; exact hge, hcm, hbr, htk⟩) ((Kx.refl _ _).drew.alloc _))

end Go.Proofs.YtepgoppgblfjbaaGreatDoor

/- Package sum: the constants' arithmetic (Mul64, power, fraction, divided). -/
namespace Go.Proofs.YtepgoppgblfjbaaGreatDoor
open Go.RowKit

namespace Sh
/-- The upper word of a product, as the library's text has it. -/
def mulHi (x y : Int) : Int :=
  let x0 := bits .and .u64 x 4294967295
  let x1 := x / 4294967296
  let y0 := bits .and .u64 y 4294967295
  let y1 := y / 4294967296
  let w0 := IntKind.u64.wrap (x0 * y0)
  let t := IntKind.u64.wrap (IntKind.u64.wrap (x1 * y0) + w0 / 4294967296)
  let w1 := IntKind.u64.wrap (bits .and .u64 t 4294967295 + IntKind.u64.wrap (x0 * y1))
  IntKind.u64.wrap (IntKind.u64.wrap (IntKind.u64.wrap (x1 * y1) + t / 4294967296) + w1 / 4294967296)

/-- A number multiplied k times with itself: two words. -/
def pow (n : Int) : Nat → Int × Int
  | 0 => (0, 1)
  | k + 1 => (IntKind.u64.wrap (IntKind.u64.wrap ((pow n k).1 * n) + mulHi (pow n k).2 n), IntKind.u64.wrap ((pow n k).2 * n))

def fits (goal : Int) (p : Int × Int) : Bool := p.1 < goal || (p.1 == goal && p.2 == 0)

/-- The root, when k of its bits have been tried. -/
def root (goal : Int) (d : Nat) : Nat → Int
  | 0 => 0
  | k + 1 =>
    let r := bits .or .u64 (root goal d k) (68719476736 / 2 ^ k)
    if fits goal (pow r d) then r else root goal d k

def goal (n : Int) (d : Nat) : Int := IntKind.u64.wrap (n * 2 ^ (32 * d - 64))

def frac (n : Int) (d : Nat) : Int := root (goal n d) d 37 % 4294967296
end Sh

set_option maxHeartbeats 400000 in
theorem mul64_any (x y : Int) (w : World) :
    Calls Tryz.prog 242 #[.int .u64 x, .int .u64 y] w fun e w' => e = .returned (.tuple #[.int .u64 (Sh.mulHi x y), .int .u64 (IntKind.u64.wrap (x * y))]) ∧ w' = w := by
  go_enter Tryz.func242, Tryz.ntmps242
  go_wp2
  go_ret2
  exact ⟨rfl, rfl⟩

set_option maxHeartbeats 400000 in
theorem power_any (n : Int) (d : Nat) (hd : d ≤ 3) (w : World) :
    Calls Tryz.prog 177 #[.int .u64 n, .int .i64 (d : Int)] w fun e w' => e = .returned (.tuple #[.int .u64 (Sh.pow n d).1, .int .u64 (Sh.pow n d).2]) ∧ w' = w := by
  go_enter Tryz.func177, Tryz.ntmps177
  go_wp2
  go_loop [9, 4, 5] (fun i h l => ∃ k : Nat, k ≤ d ∧ i = .int .i64 k ∧ h = .int .u64 (Sh.pow n k).1 ∧ l = .int .u64 (Sh.pow n k).2) (fun i _ _ => d - (intOf i).toNat)
  case atStart => exact ⟨0, Nat.zero_le _, rfl, rfl, rfl⟩
  case round =>
    obtain ⟨k, hk, rfl, rfl, rfl⟩ := hrel
    have HP : Hid (Sh.pow n (k + 1) = (IntKind.u64.wrap (IntKind.u64.wrap ((Sh.pow n k).1 * n) + Sh.mulHi (Sh.pow n k).2 n), IntKind.u64.wrap ((Sh.pow n k).2 * n))) := rfl
    by_cases hlt : k < d
    · generalize (Sh.pow n k).1 = x at *
      generalize (Sh.pow n k).2 = y at *
      have hlt2 : (k : Int) < (d : Int) := by omega
      go_wp2_with fail
      refine (mul64_any y n _).mono ?_
      rintro _ _ ⟨rfl, rfl⟩
      go_wp2
      go_round
      case rel => exact ⟨k + 1, by omega, by go_num, by rw [HP.out], by rw [HP.out]⟩
      case measure => simp [intOf]; omega
    · obtain rfl : k = d := by omega
      go_wp2
      go_ret2
      exact ⟨rfl, rfl⟩

theorem halves (k : Nat) (hk : k < 37) : (68719476736 : Int) / 2 ^ k / 2 = 68719476736 / 2 ^ (k + 1) ∧ (0 : Int) < 68719476736 / 2 ^ k := by
  have h : ∀ k : Fin 37, (68719476736 : Int) / 2 ^ k.val / 2 = 68719476736 / 2 ^ (k.val + 1) ∧ (0 : Int) < 68719476736 / 2 ^ k.val := by decide +kernel
  exact h ⟨k, hk⟩

set_option maxHeartbeats 400000 in
theorem fraction_any (n : Int) (d : Nat) (i : Int) (hi : (d : Int) = i) (hd : 2 ≤ d ∧ d ≤ 3) (w : World) :
    Calls Tryz.prog 128 #[.int .u64 n, .int .i64 i] w fun e w' => e = .returned (.int .u32 (Sh.frac n d)) ∧ w' = w := by
  subst hi
  have hs : (0 : Int) ≤ 32 * (d : Int) - 64 := by omega
  have ht : (32 * (d : Int) - 64).toNat = 32 * d - 64 := by omega
  have hm : min (32 * d - 64) 64 = 32 * d - 64 := by omega
  have HG : Hid (Sh.goal n d = IntKind.u64.wrap (n * 2 ^ (32 * d - 64))) := rfl
  have HF : Hid (Sh.frac n d = Sh.root (Sh.goal n d) d 37 % 4294967296) := rfl
  go_enter Tryz.func128, Tryz.ntmps128
  go_wp2
  rw [← HG.out]
  generalize Sh.goal n d = g at *
  go_loop [6, 7] (fun r b => ∃ k : Nat, k ≤ 37 ∧ r = .int .u64 (Sh.root g d k) ∧ b = .int .u64 (68719476736 / 2 ^ k)) (fun _ b => (intOf b).toNat)
  case atStart => exact ⟨0, Nat.zero_le _, rfl, rfl⟩
  case round =>
    obtain ⟨k, hk, rfl, rfl⟩ := hrel
    by_cases hlt : k < 37
    · obtain ⟨q1, q2⟩ := halves k hlt
      have HR : Hid (Sh.root g d (k + 1) = if Sh.fits g (Sh.pow (bits .or .u64 (Sh.root g d k) (68719476736 / 2 ^ k)) d) then bits .or .u64 (Sh.root g d k) (68719476736 / 2 ^ k) else Sh.root g d k) := rfl
      have HQ : Hid ((68719476736 : Int) / 2 ^ k / 2 = 68719476736 / 2 ^ (k + 1)) := q1
      clear q1
      generalize Sh.root g d k = r at *
      generalize (68719476736 : Int) / 2 ^ k = b at *
      go_wp2_with fail
      refine (power_any (bits .or .u64 r b) d hd.2 _).mono ?_
      rintro _ _ ⟨rfl, rfl⟩
      generalize Sh.pow (bits .or .u64 r b) d = P at *
      obtain ⟨h, l⟩ := P
      have HX : Hid (Sh.fits g (h, l) = (decide (h < g) || (h == g && l == 0))) := rfl
      by_cases h1 : h < g
      · have HY : Hid (Sh.fits g (h, l) = true) := by show _ = _; rw [HX.out, decide_eq_true h1]; rfl
        clear HX
        go_wp2
        go_round
        case rel => exact ⟨k + 1, by omega, by rw [HR.out, HY.out]; rfl, by rw [← HQ.out]⟩
        case measure => simp [intOf]; omega
      · have h1' : decide (h < g) = false := by simpa using h1
        by_cases h2 : h = g
        · subst h2
          by_cases h3 : l = 0
          · subst h3
            have HY : Hid (Sh.fits h (h, 0) = true) := by show _ = _; rw [HX.out]; simp
            clear HX
            go_wp2
            go_round
            case rel => exact ⟨k + 1, by omega, by rw [HR.out, HY.out]; rfl, by rw [← HQ.out]⟩
            case measure => simp [intOf]; omega
          · have h3' : (l == 0) = false := by simpa using h3
            have HY : Hid (Sh.fits h (h, l) = false) := by show _ = _; rw [HX.out]; simp [h3]
            clear HX
            go_wp2
            go_round
            case rel => exact ⟨k + 1, by omega, by rw [HR.out, HY.out]; rfl, by rw [← HQ.out]⟩
            case measure => simp [intOf]; omega
        · have h2' : (h == g) = false := by simpa using h2
          have HY : Hid (Sh.fits g (h, l) = false) := by show _ = _; rw [HX.out, h1', h2']; rfl
          clear HX
          go_wp2
          go_round
          case rel => exact ⟨k + 1, by omega, by rw [HR.out, HY.out]; rfl, by rw [← HQ.out]⟩
          case measure => simp [intOf]; omega
    · obtain rfl : k = 37 := by omega
      have e0 : (68719476736 : Int) / 2 ^ 37 = 0 := by decide
      rw [e0]
      go_wp2
      go_ret
      exact ⟨by rw [HF.out]; rfl, rfl⟩

/-- Is a number divided by one of these? -/
def Sh.divided (n : Int) (l : List Int) : Bool := l.any fun d => n % d == 0

def A64 (l : List Int) : List Value := l.map (Value.int .u64)

end Go.Proofs.YtepgoppgblfjbaaGreatDoor

/- Package sum: divided, primes. -/
namespace Go.Proofs.YtepgoppgblfjbaaGreatDoor
open Go.RowKit

/-- A row of one's own that is not empty: where it lies. -/
theorem own_cells {w : World} {base : Nat} {e : TypeId} {size n : Nat} {v : Value} {xs : List Value} (h : w.ownsRow base e size v n xs) (hn : 0 < n) :
    ∃ g cap, v = .slice (some ⟨g, 0, none⟩) n cap ∧ base ≤ g ∧ g < w.heap.size ∧ ∀ k x, xs[k]? = some x → w.cell? ⟨g, k, none⟩ = some x := by
  rcases h.2 with ⟨_, rfl⟩ | ⟨g, cap, cur, rfl, hb, hg, hc, hm, hs, ht⟩
  · omega
  · refine ⟨g, cap, rfl, hb, (Array.getElem?_eq_some_iff.1 hg).1, fun k x hx => ?_⟩
    rw [← ht] at hx
    have hk : k < n * size := by
      have := (List.getElem?_eq_some_iff.1 hx).1
      simp at this; omega
    rw [List.getElem?_take_of_lt hk] at hx
    unfold World.cell?
    rw [hg]
    simpa using hx

set_option maxHeartbeats 400000 in
theorem divided_any (x : Int) (hx : 0 ≤ x) (l : List Int) (hl : ∀ d ∈ l, 0 < d) (v : Value) (base : Nat) (w : World) (hown : w.ownsRow base 229 1 v l.length (A64 l)) (hm : l.length ≤ 1000) :
    Calls Tryz.prog 176 #[.int .u64 x, v] w fun e w' => e = .returned (.bool (Sh.divided x l)) ∧ w' = w := by
  obtain ⟨av, nv, cv, hv, hnv⟩ : ∃ av nv cv, v = .slice av nv cv ∧ nv = l.length := by
    rcases hown.2 with ⟨rfl, h⟩ | ⟨g, cap, cur, rfl, _⟩
    · exact ⟨_, _, _, rfl, h.symm⟩
    · exact ⟨_, _, _, rfl, rfl⟩
  subst hv hnv
  go_enter Tryz.func176, Tryz.ntmps176
  go_wp2
  go_loop [9] (fun i => ∃ k : Nat, k ≤ l.length ∧ i = .int .i64 k ∧ (l.take k).any (fun d => x % d == 0) = false) (fun i => l.length - (intOf i).toNat)
  case atStart => exact ⟨0, Nat.zero_le _, rfl, by simp⟩
  case round =>
    obtain ⟨k, hk, rfl, ha⟩ := hrel
    have HA : Hid ((l.take k).any (fun d => x % d == 0) = false) := ha
    clear ha
    by_cases hlt : k < l.length
    · obtain ⟨g, cap, hv, _, _, hc⟩ := own_cells hown (by omega)
      cases hv
      have hck : w.cell? ⟨g, k, none⟩ = some (.int .u64 l[k]) := hc k _ (by simp [A64, hlt])
      have hpos : 0 < l[k] := hl _ (List.getElem_mem hlt)
      have hne : l[k] ≠ 0 := by omega
      have HS : Hid ((l.take (k + 1)).any (fun d => x % d == 0) = ((l.take k).any (fun d => x % d == 0) || x % l[k] == 0)) := by
        show _ = _
        rw [List.take_succ_eq_append_getElem hlt, List.any_append, List.any_cons, List.any_nil, Bool.or_false]
      have HD : Hid (x % l[k] = 0 → Sh.divided x l = true) := by
        show _ → _
        intro hb
        unfold Sh.divided
        rw [List.any_eq_true]
        exact ⟨l[k], List.getElem_mem hlt, by rw [hb]; rfl⟩
      generalize l[k] = d at *
      by_cases hz : x % d = 0
      · have HDD : Hid (Sh.divided x l = true) := HD.out hz
        clear HD HS
        go_wp2
        go_ret
        exact ⟨by rw [HDD.out]; rfl, rfl⟩
      · have hz2 : (x % d == 0) = false := by simpa using hz
        have HSS : Hid ((l.take (k + 1)).any (fun d => x % d == 0) = false) := by
          show _ = _
          rw [HS.out, HA.out, hz2]; rfl
        clear HD HS
        go_wp2
        go_round
        case rel => exact ⟨k + 1, by omega, by go_num, HSS.out⟩
        case measure => simp [intOf]; omega
    · have HDD : Hid (Sh.divided x l = false) := by
        show _ = _
        have h := HA.out
        rw [List.take_of_length_le (by omega)] at h
        exact h
      have hlt2 : ¬ (k : Int) < (l.length : Int) := by omega
      go_wp2
      go_ret
      exact ⟨by rw [HDD.out]; rfl, rfl⟩

namespace Sh
/-- The first 64 primes: next is the number that is looked at, l those that were found. -/
def primesF : Nat → Int → List Int → List Int
  | 0, _, l => l
  | f + 1, next, l => if l.length < 64 then primesF f (next + 1) (if divided next l then l else l ++ [next]) else l

def primes : List Int := primesF 310 2 []
end Sh

theorem primes_len : Sh.primes.length = 64 := by decide +kernel

theorem primesF_stop (f : Nat) (n : Int) (l : List Int) (h : ¬ l.length < 64) : Sh.primesF f n l = l := by
  cases f with
  | zero => rfl
  | succ f => simp [Sh.primesF, h]

theorem A64_snoc (l : List Int) (x : Int) : A64 l ++ [.int .u64 x] = A64 (l ++ [x]) := by simp [A64]

theorem info218 : (Tryz.prog.info? 229).map (fun i => (i.zero, i.size, i.bytes)) = some (some (.int .u64 0), 1, 8) := by kernel_rfl

theorem all_snoc (l : List Int) (k : Nat) (hk : 2 ≤ k) (hl : ∀ d ∈ l, 0 < d) : ∀ d ∈ l ++ [(k : Int)], 0 < d := by
  intro d hd
  rcases List.mem_append.1 hd with h | h
  · exact hl d h
  · simp at h; omega

set_option maxHeartbeats 800000 in
set_option maxRecDepth 100000 in
theorem primes_any (w : World) :
    Calls Tryz.prog 127 #[.int .i64 64] w fun e w' => (∃ v, e = .returned v ∧ w'.ownsRow w.heap.size 229 1 v 64 (A64 Sh.primes)) ∧ Kx (fun _ => False) w w' := by
  obtain ⟨i0, hi, hz0, hz1, hz2⟩ := info_parts info218
  go_enter Tryz.func127, Tryz.ntmps127
  go_wp2
  go_loopw [3, 4] (fun v nv w' => ∃ (k : Nat) (l : List Int), nv = .int .u64 (k : Int) ∧ 2 ≤ k ∧ k ≤ 312 ∧ l.length ≤ k ∧ (∀ d ∈ l, 0 < d) ∧ Kx (fun _ => False) w w' ∧ w'.ownsRow w.heap.size 229 1 v l.length (A64 l) ∧ Sh.primes = Sh.primesF (312 - k) (k : Int) l) (fun _ nv _ => 312 - (intOf nv).toNat)
  case atStart => exact ⟨2, [], rfl, by omega, by omega, by simp, by simp, Kx.refl _ _, World.ownsRow_nil _ _ _ _, rfl⟩
  case round =>
    obtain ⟨k, l, rfl, hk2, hk312, hlk, hl, hkx, hown, hE⟩ := hrel
    have HE : Hid (Sh.primes = Sh.primesF (312 - k) (k : Int) l) := hE
    clear hE
    obtain ⟨av, nv, cv, hv, hnv⟩ : ∃ av nv cv, u3 = .slice av nv cv ∧ nv = l.length := by
      rcases hown.2 with ⟨rfl, h⟩ | ⟨g, cap, cur, rfl, _⟩
      · exact ⟨_, _, _, rfl, h.symm⟩
      · exact ⟨_, _, _, rfl, rfl⟩
    subst hv hnv
    by_cases hlt : l.length < 64
    · have hlt2 : (l.length : Int) < 64 := by omega
      have hk : k < 312 := by
        rcases Nat.lt_or_ge k 312 with h | h
        · exact h
        · exfalso
          obtain rfl : k = 312 := by omega
          have h1 : Sh.primes = l := HE.out
          have := primes_len
          rw [h1] at this; omega
      have HE2 : Hid (Sh.primes = Sh.primesF (312 - (k + 1)) ((k + 1 : Nat) : Int) (if Sh.divided k l then l else l ++ [(k : Int)])) := by
        show _ = _
        rw [HE.out, show 312 - k = (312 - (k + 1)) + 1 by omega]
        simp [Sh.primesF, hlt]
      clear HE
      go_wp2_with fail
      refine (divided_any k (by omega) l hl _ _ _ hown (by omega)).mono ?_
      rintro _ w2 ⟨rfl, hw2⟩
      rw [hw2]
      clear hw2
      cases hd : Sh.divided k l
      · rw [hd] at HE2
        have HE3 : Hid (Sh.primes = Sh.primesF (312 - (k + 1)) ((k + 1 : Nat) : Int) (l ++ [(k : Int)])) := HE2.out
        clear HE2 hd
        go_wp2_with (at_builtin; refine wpList_append_own _ rfl (.tmp 15) (.tmp 17) 227 rfl w.heap.size 229 i0 _ 1 8 Tryz.underlying227 hi hz0 hz1 hz2 rfl (by decide) _ _ _ rfl (hown.alloc _) ⟨wr.heap.size, 0, none⟩ 1 1 [.int .u64 k] rfl rfl ?c1 ?c2 ?c3 ?c4 ?c5 ?_)
        case c1 => exact cells_new _ [_] _
        case c2 => simp [Value.oneCell']
        case c3 => unfold maxLen; omega
        case c4 => omega
        case c5 => have := hkx.size; simp; omega
        intro v4 w4 hown4 hgrow4 _
        have hk4 : Kx (fun _ => False) w w4 := (hkx.alloc _).grown hgrow4 (fun k he => (hown.lt k he).1)
        rw [A64_snoc] at hown4
        go_wp2
        go_roundw
        case rel => exact ⟨k + 1, l ++ [(k : Int)], by go_num, by omega, by omega, by simp; omega, all_snoc l k hk2 hl, hk4, by simpa using hown4, HE3.out⟩
        case measure => simp [intOf]; omega
      · rw [hd] at HE2
        have HE3 : Hid (Sh.primes = Sh.primesF (312 - (k + 1)) ((k + 1 : Nat) : Int) l) := HE2.out
        clear HE2 hd
        go_wp2
        go_roundw
        case rel => exact ⟨k + 1, l, by go_num, by omega, by omega, by omega, hl, hkx, hown, HE3.out⟩
        case measure => simp [intOf]; omega
    · have hlt2 : ¬ (l.length : Int) < 64 := by omega
      have e1 : Sh.primes = l := by rw [HE.out, primesF_stop _ _ _ hlt]
      have e2 : l.length = 64 := by rw [← e1]; exact primes_len
      have HE4 : Hid (Sh.primes = l) := e1
      clear HE e1
      go_wp2
      go_ret
      refine ⟨⟨_, rfl, ?_⟩, hkx⟩
      rw [HE4.out, ← e2]
      exact hown

end Go.Proofs.YtepgoppgblfjbaaGreatDoor

/- Package sum: padded. -/
namespace Go.Proofs.YtepgoppgblfjbaaGreatDoor
open Go.RowKit

namespace Sh
def zeros (n : Nat) : Nat := (119 - n % 64) % 64

/-- k bytes of a length, the highest first. -/
def lens (n : Nat) : Nat → List UInt8
  | 0 => []
  | k + 1 => lens n k ++ [UInt8.ofNat (n / 2 ^ (56 - 8 * k) % 256)]

def padded (t : List UInt8) : List UInt8 := t ++ [128] ++ List.replicate (zeros t.length) 0 ++ lens (t.length * 8) 8
end Sh

theorem info5 : (Tryz.prog.info? 5).map (fun i => (i.zero, i.size, i.bytes)) = some (some (.int .u8 0), 1, 1) := by kernel_rfl

theorem rep_succ (k : Nat) : (List.replicate (k + 1) (0 : UInt8)) = List.replicate k 0 ++ [0] := List.replicate_succ'

/-- How long a slice is. -/
def vlen : Value → Nat
  | .slice _ n _ => n
  | _ => 0

theorem lens_len (n k : Nat) : (Sh.lens n k).length = k := by
  induction k with
  | zero => rfl
  | succ k ih => simp [Sh.lens, ih]

theorem Kx.grownB {X : Nat → Prop} {a w w' : World} {base : Nat} {e : TypeId} {v : Value} {xs : List Value} (h : Kx X a w) (hown : OwnB w base e v xs) (hg : w.grownBy w' v.ownBlock) (hb : a.heap.size ≤ base) : Kx X a w' :=
  h.grown hg (fun k he => Nat.le_trans hb (hown.lt k he).1)

set_option maxHeartbeats 1000000 in
set_option maxRecDepth 100000 in
theorem padded_any (t : List UInt8) (ht : t.length ≤ 100000) (w : World) :
    Calls Tryz.prog 178 #[.string ⟨t.toArray⟩] w fun e w' => (∃ v, e = .returned v ∧ OwnB w' w.heap.size 5 v (A8 (Sh.padded t))) ∧ Kx (fun _ => False) w w' := by
  obtain ⟨i0, hi, hz0, hz1, hz2⟩ := info_parts info5
  have HP : Hid (Sh.padded t = t ++ [128] ++ List.replicate (Sh.zeros t.length) 0 ++ Sh.lens (t.length * 8) 8) := rfl
  have HZ : Hid (Sh.zeros t.length = (119 - t.length % 64) % 64) := rfl
  have HL : Hid (∀ k, Sh.lens (t.length * 8) (k + 1) = Sh.lens (t.length * 8) k ++ [UInt8.ofNat (t.length * 8 / 2 ^ (56 - 8 * k) % 256)]) := fun k => rfl
  go_enter Tryz.func178, Tryz.ntmps178
  go_wp2_with (refine wpList_bytesOf _ rfl 9 58 5 _ rfl Tryz.underlying9 Tryz.underlying58 Tryz.underlying5 t rfl (by unfold maxLen; omega) ?_)
  intro v1 w1 hown1 hk1
  go_wp2_with (at_builtin; refine wpList_append_B _ rfl (.tmp 7) (.tmp 8) 58 rfl w.heap.size 5 i0 _ 1 Tryz.underlying58 hi hz0 hz1 hz2 rfl _ _ rfl (hown1.alloc _) ⟨w1.heap.size, 0, none⟩ 1 1 [.int .u8 128] rfl rfl (by omega) ?c1 ?c2 ?c3 ?c4 ?c5 ?_)
  case c1 => exact cells_new _ [_] _
  case c2 => simp [Value.oneCell']
  case c3 => rw [A8_len]; unfold maxLen; omega
  case c4 => rw [A8_len]; omega
  case c5 => have := hk1.size; simp; omega
  intro v2 w2 hown2 hg2 _
  have hk2 : Kx (fun _ => False) w w2 := (hk1.alloc _).grownB (hown1.alloc _) hg2 (Nat.le_refl _)
  clear hg2 hown1 hk1
  have hown2' : OwnB w2 w.heap.size 5 v2 (A8 (t ++ [128])) := by rw [A8_app]; exact hown2
  clear hown2
  go_wp2
  go_loopw [3] (fun v w' => ∃ (k : Nat), k ≤ Sh.zeros t.length ∧ Kx (fun _ => False) w w' ∧ OwnB w' w.heap.size 5 v (A8 (t ++ [128] ++ List.replicate k 0)) ∧ (∃ a c, v = .slice a (t.length + 1 + k) c)) (fun v _ => 200000 - vlen v)
  case atStart =>
    refine ⟨0, Nat.zero_le _, hk2, by simpa using hown2', ?_⟩
    obtain ⟨a, c, e⟩ := hown2'.slice
    exact ⟨a, c, by rw [e]; simp [A8_len]⟩
  case round =>
    obtain ⟨k, hkz, hkx, hown, a, c, rfl⟩ := hrel
    have hzz := HZ.out
    obtain ⟨L, hL⟩ : ∃ L, t ++ [128] ++ List.replicate k 0 = L := ⟨_, rfl⟩
    have hlen : L.length = t.length + 1 + k := by rw [← hL]; simp; omega
    have HLL : Hid (t ++ [128] ++ List.replicate k 0 = L) := hL
    rw [hL] at hown
    clear hL
    have hlen2 : (A8 L).length = t.length + 1 + k := by rw [A8_len, hlen]
    by_cases hlt : k < Sh.zeros t.length
    · have hr : (((t.length + 1 + k : Nat) : Int) % 64 != 56) = true := by simp; omega
      generalize hn : t.length + 1 + k = n at *
      go_wp2_with (at_builtin; refine wpList_append_B _ rfl (.tmp 14) (.tmp 15) 58 rfl w.heap.size 5 i0 _ 1 Tryz.underlying58 hi hz0 hz1 hz2 rfl _ _ rfl (hown.alloc _) ⟨wr.heap.size, 0, none⟩ 1 1 [.int .u8 0] rfl rfl (by omega) ?c1 ?c2 ?c3 ?c4 ?c5 ?_)
      case c1 => exact cells_new _ [_] _
      case c2 => simp [Value.oneCell']
      case c3 => rw [hlen2]; unfold maxLen; omega
      case c4 => rw [hlen2]; omega
      case c5 => have := hkx.size; simp; omega
      intro v2 w3 hown3 hg3 _
      have hk3 : Kx (fun _ => False) w w3 := (hkx.alloc _).grownB (hown.alloc _) hg3 (Nat.le_refl _)
      have hown3' : OwnB w3 w.heap.size 5 v2 (A8 (L ++ [0])) := by rw [A8_app]; exact hown3
      clear hg3 hown3
      obtain ⟨a', c', hv⟩ := hown3'.slice
      have hv2 : v2 = .slice a' (n + 1) c' := by rw [hv, A8_len]; simp [hlen]
      clear hv
      go_wp2
      go_roundw
      case rel =>
        refine ⟨k + 1, hlt, hk3, ?_, a', c', by rw [hv2]; congr 1; omega⟩
        rw [rep_succ, ← List.append_assoc, HLL.out]; exact hown3'
      case measure => rw [hv2]; simp [vlen]; omega
    · obtain rfl : k = Sh.zeros t.length := by omega
      have hr : (((t.length + 1 + Sh.zeros t.length : Nat) : Int) % 64 != 56) = false := by simp; omega
      have hz64 : Sh.zeros t.length < 64 := by omega
      have HP2 : Hid (Sh.padded t = L ++ Sh.lens (t.length * 8) 8) := by show _ = _; rw [HP.out, HLL.out]
      generalize hn : t.length + 1 + Sh.zeros t.length = n at *
      go_wp2
      clear HP hr
      go_loopw [5, 3] (fun sv v w' => ∃ (k : Nat), k ≤ 8 ∧ sv = .int .i64 (56 - 8 * (k : Int)) ∧ Kx (fun _ => False) w w' ∧ OwnB w' w.heap.size 5 v (A8 (L ++ Sh.lens (t.length * 8) k))) (fun sv _ _ => (intOf sv + 8).toNat)
      case atStart => exact ⟨0, by omega, rfl, hkx, by simpa [Sh.lens] using hown⟩
      case round =>
        clear hkx hown
        obtain ⟨k, hk8, rfl, hkx, hown⟩ := hrel
        have hlen3 : (A8 (L ++ Sh.lens (t.length * 8) k)).length = n + k := by rw [A8_len, List.length_append, hlen, lens_len]
        have HLk := HL.out k
        have HL2 : Hid (L ++ Sh.lens (t.length * 8) (k + 1) = L ++ Sh.lens (t.length * 8) k ++ [UInt8.ofNat (t.length * 8 / 2 ^ (56 - 8 * k) % 256)]) := by show _ = _; rw [HLk, List.append_assoc]
        clear HLk
        obtain ⟨M, hM⟩ : ∃ M, L ++ Sh.lens (t.length * 8) k = M := ⟨_, rfl⟩
        rw [hM] at hown hlen3 HL2
        by_cases hlt : k < 8
        · have hs0 : (0 : Int) ≤ 56 - 8 * (k : Int) := by omega
          have hs1 : (56 - 8 * (k : Int)).toNat = 56 - 8 * k := by omega
          have hs2 : min (56 - 8 * k) 64 = 56 - 8 * k := by omega
          have hb : ((t.length : Int) * 8 / 2 ^ (56 - 8 * k)) % 256 = (((UInt8.ofNat (t.length * 8 / 2 ^ (56 - 8 * k) % 256)).toNat : Nat) : Int) := by
            have : (t.length * 8 / 2 ^ (56 - 8 * k) % 256) < 256 := Nat.mod_lt _ (by omega)
            simp
          clear HL
          generalize UInt8.ofNat (t.length * 8 / 2 ^ (56 - 8 * k) % 256) = b at *
          have HN : Hid (L ++ Sh.lens (t.length * 8) (k + 1) = M ++ [b]) := HL2.out
          clear HL2 hM
          go_wp2_with (at_builtin; refine wpList_append_B _ rfl (.tmp 25) (.tmp 30) 58 rfl w.heap.size 5 i0 _ 1 Tryz.underlying58 hi hz0 hz1 hz2 rfl _ _ rfl (hown.alloc _) ⟨wr.heap.size, 0, none⟩ 1 1 [.int .u8 (b.toNat : Int)] rfl rfl (by omega) ?c1 ?c2 ?c3 ?c4 ?c5 ?_)
          case c1 => exact cells_new _ [_] _
          case c2 => simp [Value.oneCell']
          case c3 => rw [hlen3]; unfold maxLen; omega
          case c4 => rw [hlen3]; omega
          case c5 => have := hkx.size; simp; omega
          intro v2 w3 hown3 hg3 _
          have hk3 : Kx (fun _ => False) w w3 := (hkx.alloc _).grownB (hown.alloc _) hg3 (Nat.le_refl _)
          have hown3' : OwnB w3 w.heap.size 5 v2 (A8 (M ++ [b])) := by rw [A8_app]; exact hown3
          clear hg3 hown3
          go_wp2
          go_roundw
          case rel => exact ⟨k + 1, by omega, by congr 1; omega, hk3, by rw [HN.out]; exact hown3'⟩
          case measure => simp [intOf]; omega
        · obtain rfl : k = 8 := by omega
          have HP3 : Hid (Sh.padded t = M) := by show _ = _; rw [HP2.out, hM]
          clear HL HL2 hM
          go_wp2
          go_ret
          exact ⟨⟨_, rfl, by rw [HP3.out]; exact hown⟩, hkx⟩

end Go.Proofs.YtepgoppgblfjbaaGreatDoor
