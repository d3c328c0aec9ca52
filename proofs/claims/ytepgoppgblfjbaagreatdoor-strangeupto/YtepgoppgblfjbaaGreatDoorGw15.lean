import Derived.Test.YtepgoppgblfjbaaGreatDoorGw14
namespace Go.Proofs.YtepgoppgblfjbaaGreatDoor
open Go.RowKit

structure Lst (M : Nat → Prop) (w : World) (v : Value) (l : List Fi) : Prop where
  fs : Fs w v l
  ok : FOk l
  still : ∀ k, v.ownBlock = some k → ¬ M k ∧ k < w.heap.size

theorem Lst.kept {M X : Nat → Prop} {w w' : World} {v : Value} {l : List Fi} (h : Lst M w v l) (hk : Kx X w w') (hX : ∀ k, k < w.heap.size → X k → M k) : Lst M w' v l :=
  ⟨h.fs.kept hk (fun k e hx => (h.still k e).1 (hX k (h.still k e).2 hx)), h.ok, fun k e => ⟨(h.still k e).1, Nat.lt_of_lt_of_le (h.still k e).2 hk.size⟩⟩

theorem Lst.nil (M : Nat → Prop) (w : World) : Lst M w (.slice none 0 0) [] :=
  ⟨⟨none, 0, rfl, Nat.le_refl _, fun h => absurd rfl h, fun _ => rfl⟩, ⟨List.Pairwise.nil, by simp, fun f h => by cases h⟩, fun k e => by cases e⟩

theorem Cmt.lst {M : Nat → Prop} {w : World} {b : Nat} {c : Com} (h : Cmt M w b c) : ∃ a n, w.cell? ⟨b, 3, none⟩ = some (.slice a c.files.length n) ∧ Lst M w (.slice a c.files.length n) c.files := by
  obtain ⟨v, h1, h2, h3⟩ := h.files
  have h2' := h2
  obtain ⟨q, c', rfl, _⟩ := h2'
  exact ⟨q, c', h1, h2, h.ok, h3⟩

def ParR (M : Nat → Prop) (w w' : World) (r : Option (List Com × List Fi)) (e : Ending) : Prop :=
  match r with
  | none => e = .returned (.tuple #[.slice none 0 0, .slice none 0 0, .int .i64 4])
  | some (cs, l) => ∃ (ps : List Nat) (ap : Option Addr) (cp : Nat) (al : Option Addr) (cl : Nat), e = .returned (.tuple #[.slice ap ps.length cp, .slice al l.length cl, .int .i64 0]) ∧ Reads w' (.slice ap ps.length cp) ps.length (ps.map ptrV) ∧ CmtL M w ps cs ∧ cs.length ≤ 4 ∧
      Lst M w (.slice al l.length cl) l ∧ ∀ k, (Value.slice ap ps.length cp).ownBlock = some k → w.heap.size ≤ k

theorem info101 : (Tryz.prog.info? 101).map (fun i => (i.zero, i.size, i.bytes)) = some (some (.pointer none), 1, 8) := by kernel_rfl

set_option maxHeartbeats 3200000 in
set_option maxRecDepth 100000 in
theorem parentsW_any {M : Nat → Prop} {w : World} {B : Bl} {n : Nat} {S : St} {W : Wk} (h : Wrk M w B n S W) (c : Pu.Co) (hc : CoOk c) (am ac : Option Addr) (cm nc cc : Nat) (hr : Reads w (.slice am c.merges.length cm) c.merges.length (whsC c.merges)) :
    Calls Tryz.prog 227 #[.pointer (some ⟨B.q, 0, none⟩), .agg (coC c (.slice am c.merges.length cm) (.slice ac nc cc))] w fun e w' => ParR M w w' (Pd.parents W c) e ∧ Kx (fun _ => False) w w' := by
  obtain ⟨i0, hi, hz0, hz1, hz2⟩ := info_parts info101
  obtain ⟨qq, cq, hqq, hcq, hrow⟩ := hr
  cases hqq
  have hP : Pd.parents W c = match Pd.first W c with | none => none | some f => ((Pd.merged W c.merges).map (fun m => f.toList ++ m)).map (fun m => (m, (f.map Com.files).getD [])) := by
    unfold Pd.parents
    cases Pd.first W c with
    | none => rfl
    | some f => cases Pd.merged W c.merges <;> rfl
  rw [hP]
  clear hP
  obtain ⟨word, ref, mark, ⟨an, ama, at'⟩, data, ⟨fm, fr⟩, ms, cs0⟩ := c
  have hA := (Kx.refl (fun _ => False) w).alloc (.cells #[.string ⟨word.toArray⟩, .string ⟨ref.toArray⟩, .int .i64 mark, .string ⟨an.toArray⟩, .string ⟨ama.toArray⟩, .int .i64 at', .string ⟨data.toArray⟩, .int .i64 fm, .string ⟨fr.toArray⟩, .slice am ms.length cm, .slice ac nc cc] 158)
  have hbx := Cb.new #[.string ⟨word.toArray⟩, .string ⟨ref.toArray⟩, .int .i64 mark, .string ⟨an.toArray⟩, .string ⟨ama.toArray⟩, .int .i64 at', .string ⟨data.toArray⟩, .int .i64 fm, .string ⟨fr.toArray⟩, .slice am ms.length cm, .slice ac nc cc] 158 w
  have hfw := firstW_any h hA ⟨word, ref, mark, ⟨an, ama, at'⟩, data, ⟨fm, fr⟩, ms, cs0⟩ hc am ac ms.length cm nc cc
  have hms : ∀ x ∈ ms, WhOk x := hc.merges.2
  have hml : ms.length ≤ 3 := hc.merges.1
  unfold coC at *
  simp only at *
  have hmx : maxLen = 9223372036854775807 := rfl
  generalize Pd.first W ⟨word, ref, mark, ⟨an, ama, at'⟩, data, ⟨fm, fr⟩, ms, cs0⟩ = rf at *
  clear hc
  have b9A : (w.alloc (.cells #[.string ⟨word.toArray⟩, .string ⟨ref.toArray⟩, .int .i64 mark, .string ⟨an.toArray⟩, .string ⟨ama.toArray⟩, .int .i64 at', .string ⟨data.toArray⟩, .int .i64 fm, .string ⟨fr.toArray⟩, .slice am ms.length cm, .slice ac nc cc] 158)).cell? ⟨w.heap.size, 9, none⟩ = some (.slice am ms.length cm) := Cb.cell hbx 9
  cases rf with
  | none =>
    go_enter Tryz.func227, Tryz.ntmps227
    go_wp2_with fail
    refine hfw.mono ?_
    rintro e w2 ⟨hR, hk2⟩
    obtain rfl := hR
    have hk3 := hA.trans hk2
    clear hfw hA hbx hk2 b9A
    go_wp2
    go_ret3
    exact ⟨rfl, hk3⟩
  | some f =>
    obtain ⟨R, hR⟩ : ∃ R, (Pd.merged W ms).map (fun m => f.toList ++ m) = R := ⟨_, rfl⟩
    simp only at *
    rw [hR]
    cases f with
    | none =>
      have HR : Hid (R = (Pd.merged W (ms.drop 0)).map (fun m => [] ++ m)) := hR.symm
      have HP : Hid (R.map (fun m => (m, ((none : Option Com).map Com.files).getD [])) = R.map (fun m => (m, ([] : List Fi)))) := rfl
      clear hR
      generalize R.map (fun m => (m, ((none : Option Com).map Com.files).getD [])) = RR at *
      go_enter Tryz.func227, Tryz.ntmps227
      go_wp2_with fail
      refine hfw.mono ?_
      rintro e w2 ⟨hR, hk2⟩
      obtain rfl := hR
      have K0 := hA.trans hk2
      have b9 : w2.cell? ⟨w.heap.size, 9, none⟩ = some (.slice am ms.length cm) := (hk2.cell (p := ⟨w.heap.size, 9, none⟩) (lt_of_cell (p := ⟨w.heap.size, 9, none⟩) b9A) id).trans b9A
      have O0 : w2.ownsRow w.heap.size 101 1 (.slice none 0 0) ([] : List Nat).length (([] : List Nat).map ptrV) := World.ownsRow_nil _ _ _ _
      have C0 : CmtL M w [] [] := trivial
      clear hfw hA hbx hk2 b9A
      go_wp2
      go_loopw [37, 9] (fun iv v9 wr => ∃ (k : Nat) (ps : List Nat) (cs : List Com), iv = .int .i64 k ∧ k ≤ ms.length ∧ Kx (fun _ => False) w wr ∧ wr.ownsRow w.heap.size 101 1 v9 ps.length (ps.map ptrV) ∧ CmtL M w ps cs ∧ cs.length ≤ k + 1 ∧ Hid (R = (Pd.merged W (ms.drop k)).map (fun m => cs ++ m))) (fun iv _ _ => ms.length - (intOf iv).toNat)
      case atStart => exact ⟨0, [], [], rfl, by omega, K0, O0, C0, by simp, HR⟩
      case round =>
        obtain ⟨k, ps, cs, rfl, hk, hkx, hown, hcs, hcl, HQ⟩ := hrel
        have HPL : Hid (ps.length = cs.length) := hcs.len
        have hpb : ps.length ≤ 5 := by rw [HPL.out]; omega
        by_cases hlt : k < ms.length
        · have hlt2 : (k : Int) < (ms.length : Int) := by omega
          obtain ⟨gb, o, rfl, hcell⟩ := hrow (by omega)
          have hx0 := hcell _ _ (flat_at whC 2 (fun _ => rfl) ms k ms[k] (List.getElem?_eq_getElem hlt) 0 _ rfl)
          have hx1 := hcell _ _ (flat_at whC 2 (fun _ => rfl) ms k ms[k] (List.getElem?_eq_getElem hlt) 1 _ rfl)
          have hwk : WhOk ms[k] := hms ms[k] (List.getElem_mem hlt)
          have HD : Hid (ms.drop k = ms[k] :: ms.drop (k + 1)) := List.drop_eq_getElem_cons hlt
          generalize ms[k] = x at *
          obtain ⟨xm, xr⟩ := x
          have c0 : wr.cell? ⟨gb, o + k * 2, none⟩ = some (.int .i64 xm) := by
            rw [show o + k * 2 = o + (2 * k + 0) from by omega, hkx.cell (p := ⟨gb, o + (2 * k + 0), none⟩) (lt_of_cell (p := ⟨gb, o + (2 * k + 0), none⟩) hx0) id]
            exact hx0
          have c1 : wr.cell? ⟨gb, o + k * 2 + 1, none⟩ = some (.string ⟨xr.toArray⟩) := by
            rw [show o + k * 2 + 1 = o + (2 * k + 1) from by omega, hkx.cell (p := ⟨gb, o + (2 * k + 1), none⟩) (lt_of_cell (p := ⟨gb, o + (2 * k + 1), none⟩) hx1) id]
            exact hx1
          have hkA := hkx.alloc (.cells #[.int .i64 xm, .string ⟨xr.toArray⟩] 154)
          have hcom := commitW_any h hkA ⟨xm, xr⟩ hwk
          simp only at hcom
          have hoA := hown.alloc (.cells #[.int .i64 xm, .string ⟨xr.toArray⟩] 154)
          clear hx0 hx1 hcell
          go_wp2_with fail
          refine hcom.mono ?_
          rintro e w3 ⟨hR3, hk3⟩
          have HM : Hid (R = ((Pd.comOf W ⟨xm, xr⟩).bind fun c => (Pd.merged W (ms.drop (k + 1))).map (c :: ·)).map (fun m => cs ++ m)) := by
            have h1 := HQ.out
            rw [HD.out] at h1
            show R = _
            rw [h1, Pd.merged]
            cases Pd.comOf W ⟨xm, xr⟩ <;> rfl
          have hk4 := hkA.trans hk3
          have ho3 := own_kept' hoA hk3 (fun _ _ _ => id)
          clear hcom HQ HD hkA hoA hk3 c0 c1 hkx hown
          cases hcm : Pd.comOf W ⟨xm, xr⟩ with
          | none =>
            rw [hcm] at hR3
            obtain rfl := hR3
            have HE : Hid (R = none) := by
              show R = none
              rw [HM.out, hcm]
              rfl
            go_wp2
            go_ret3
            rw [HP.out, HE.out]
            exact ⟨rfl, hk4⟩
          | some cn =>
            rw [hcm] at hR3
            obtain ⟨bn, rfl, hcn⟩ := hR3
            have HE : Hid (R = (Pd.merged W (ms.drop (k + 1))).map (fun m => (cs ++ [cn]) ++ m)) := by
              show R = _
              rw [HM.out, hcm]
              cases Pd.merged W (ms.drop (k + 1)) <;> simp
            clear HM
            have hcs3 := hcs.snoc hcn
            go_wp2_with (at_builtin; refine wpList_append_own _ rfl (.tmp 50) (.tmp 52) 108 rfl w.heap.size 101 i0 _ 1 8 Tryz.underlying108 hi hz0 hz1 hz2 rfl (by decide) _ ps.length (ps.map ptrV) rfl (ho3.alloc _) ⟨w3.heap.size, 0, none⟩ 1 1 [.pointer (some ⟨bn, 0, none⟩)] rfl rfl ?c1 ?c2 ?c3 ?c4 ?c5 ?_)
            case c1 => exact cells_new w3 [.pointer (some ⟨bn, 0, none⟩)] 101
            case c2 => simp [Value.oneCell']
            case c3 => unfold maxLen; omega
            case c4 => omega
            case c5 => have := hk4.size; simp; omega
            intro v4 w4 hown4 hgrow4 _
            have hk5 : Kx (fun _ => False) w w4 := (hk4.alloc _).grown hgrow4 (fun k he => (ho3.lt k he).1)
            have hown5 : w4.ownsRow w.heap.size 101 1 v4 (ps ++ [bn]).length ((ps ++ [bn]).map ptrV) := by
              rw [List.map_append, List.length_append]
              exact hown4
            clear hown4 hgrow4 hk4 ho3
            go_wp2
            go_roundw
            case rel => exact ⟨k + 1, _, _, by go_num, hlt, hk5, hown5, hcs3, by simp; omega, HE⟩
            case measure => simp [intOf]; omega
        · obtain rfl : k = ms.length := by omega
          have hlt2 : ¬ (ms.length : Int) < (ms.length : Int) := by omega
          have HE : Hid (R = some cs) := by
            show R = _
            rw [HQ.out, List.drop_of_length_le (Nat.le_refl _)]
            simp [Pd.merged]
          have hrd := Reads.of_own hown
          obtain ⟨ap, cp, rfl, _⟩ := id hrd
          have hob := hown.lt
          clear HQ hown
          go_wp2
          go_ret3
          rw [HP.out, HE.out]
          exact ⟨⟨ps, ap, cp, none, 0, rfl, hrd, hcs, (by omega), Lst.nil M w, fun k e => (hob k e).1⟩, hkx⟩
    | some c0 =>
      have HR : Hid (R = (Pd.merged W (ms.drop 0)).map (fun m => [c0] ++ m)) := hR.symm
      have HP : Hid (R.map (fun m => (m, ((some c0).map Com.files).getD [])) = R.map (fun m => (m, c0.files))) := rfl
      clear hR
      generalize R.map (fun m => (m, ((some c0).map Com.files).getD [])) = RR at *
      go_enter Tryz.func227, Tryz.ntmps227
      go_wp2_with fail
      refine hfw.mono ?_
      rintro e w2 ⟨hR, hk2⟩
      obtain ⟨b0, rfl, hcm⟩ := hR
      have K2 := hA.trans hk2
      have b9 : w2.cell? ⟨w.heap.size, 9, none⟩ = some (.slice am ms.length cm) := (hk2.cell (p := ⟨w.heap.size, 9, none⟩) (lt_of_cell (p := ⟨w.heap.size, 9, none⟩) b9A) id).trans b9A
      obtain ⟨al, cl, hfc, hlst⟩ := hcm.lst
      have hbl : w.heap.size < w2.heap.size := lt_of_cell (p := ⟨w.heap.size, 9, none⟩) b9
      clear hfw hA hbx hk2 b9A
      go_wp2_with (at_builtin; refine wpList_append_own _ rfl (.tmp 26) (.tmp 28) 108 rfl w.heap.size 101 i0 _ 1 8 Tryz.underlying108 hi hz0 hz1 hz2 rfl (by decide) _ 0 [] rfl (World.ownsRow_nil _ _ _ _) ⟨w2.heap.size, 0, none⟩ 1 1 [.pointer (some ⟨b0, 0, none⟩)] rfl rfl ?c1 ?c2 ?c3 ?c4 ?c5 ?_)
      case c1 => exact cells_new w2 [.pointer (some ⟨b0, 0, none⟩)] 101
      case c2 => simp [Value.oneCell']
      case c3 => unfold maxLen; omega
      case c4 => omega
      case c5 => have := K2.size; simp; omega
      intro v4 w4 hown4 hgrow4 _
      have K0 : Kx (fun _ => False) w w4 := (K2.alloc _).grown hgrow4 (fun k he => by cases he)
      have O0 : w4.ownsRow w.heap.size 101 1 v4 ([b0] : List Nat).length (([b0] : List Nat).map ptrV) := hown4
      have C0 : CmtL M w [b0] [c0] := ⟨hcm, trivial⟩
      have kx24 : Kx (fun _ => False) w2 w4 := ((Kx.refl _ _).alloc _).grown hgrow4 (fun k he => by cases he)
      have b9' : w4.cell? ⟨w.heap.size, 9, none⟩ = some (.slice am ms.length cm) := (kx24.cell (p := ⟨w.heap.size, 9, none⟩) hbl id).trans b9
      have b3 : w4.cell? ⟨b0, 3, none⟩ = some (.slice al c0.files.length cl) := (K0.cell (p := ⟨b0, 3, none⟩) (lt_of_cell (p := ⟨b0, 3, none⟩) hfc) id).trans hfc
      clear hown4 hgrow4 K2 b9
      go_wp2
      go_loopw [37, 9] (fun iv v9 wr => ∃ (k : Nat) (ps : List Nat) (cs : List Com), iv = .int .i64 k ∧ k ≤ ms.length ∧ Kx (fun _ => False) w wr ∧ wr.ownsRow w.heap.size 101 1 v9 ps.length (ps.map ptrV) ∧ CmtL M w ps cs ∧ cs.length ≤ k + 1 ∧ Hid (R = (Pd.merged W (ms.drop k)).map (fun m => cs ++ m))) (fun iv _ _ => ms.length - (intOf iv).toNat)
      case atStart => exact ⟨0, [b0], [c0], rfl, by omega, K0, O0, C0, by simp, HR⟩
      case round =>
        obtain ⟨k, ps, cs, rfl, hk, hkx, hown, hcs, hcl, HQ⟩ := hrel
        have HPL : Hid (ps.length = cs.length) := hcs.len
        have hpb : ps.length ≤ 5 := by rw [HPL.out]; omega
        by_cases hlt : k < ms.length
        · have hlt2 : (k : Int) < (ms.length : Int) := by omega
          obtain ⟨gb, o, rfl, hcell⟩ := hrow (by omega)
          have hx0 := hcell _ _ (flat_at whC 2 (fun _ => rfl) ms k ms[k] (List.getElem?_eq_getElem hlt) 0 _ rfl)
          have hx1 := hcell _ _ (flat_at whC 2 (fun _ => rfl) ms k ms[k] (List.getElem?_eq_getElem hlt) 1 _ rfl)
          have hwk : WhOk ms[k] := hms ms[k] (List.getElem_mem hlt)
          have HD : Hid (ms.drop k = ms[k] :: ms.drop (k + 1)) := List.drop_eq_getElem_cons hlt
          generalize ms[k] = x at *
          obtain ⟨xm, xr⟩ := x
          have c0 : wr.cell? ⟨gb, o + k * 2, none⟩ = some (.int .i64 xm) := by
            rw [show o + k * 2 = o + (2 * k + 0) from by omega, hkx.cell (p := ⟨gb, o + (2 * k + 0), none⟩) (lt_of_cell (p := ⟨gb, o + (2 * k + 0), none⟩) hx0) id]
            exact hx0
          have c1 : wr.cell? ⟨gb, o + k * 2 + 1, none⟩ = some (.string ⟨xr.toArray⟩) := by
            rw [show o + k * 2 + 1 = o + (2 * k + 1) from by omega, hkx.cell (p := ⟨gb, o + (2 * k + 1), none⟩) (lt_of_cell (p := ⟨gb, o + (2 * k + 1), none⟩) hx1) id]
            exact hx1
          have hkA := hkx.alloc (.cells #[.int .i64 xm, .string ⟨xr.toArray⟩] 154)
          have hcom := commitW_any h hkA ⟨xm, xr⟩ hwk
          simp only at hcom
          have hoA := hown.alloc (.cells #[.int .i64 xm, .string ⟨xr.toArray⟩] 154)
          clear hx0 hx1 hcell
          go_wp2_with fail
          refine hcom.mono ?_
          rintro e w3 ⟨hR3, hk3⟩
          have HM : Hid (R = ((Pd.comOf W ⟨xm, xr⟩).bind fun c => (Pd.merged W (ms.drop (k + 1))).map (c :: ·)).map (fun m => cs ++ m)) := by
            have h1 := HQ.out
            rw [HD.out] at h1
            show R = _
            rw [h1, Pd.merged]
            cases Pd.comOf W ⟨xm, xr⟩ <;> rfl
          have hk4 := hkA.trans hk3
          have ho3 := own_kept' hoA hk3 (fun _ _ _ => id)
          clear hcom HQ HD hkA hoA hk3 c0 c1 hkx hown
          cases hcm : Pd.comOf W ⟨xm, xr⟩ with
          | none =>
            rw [hcm] at hR3
            obtain rfl := hR3
            have HE : Hid (R = none) := by
              show R = none
              rw [HM.out, hcm]
              rfl
            go_wp2
            go_ret3
            rw [HP.out, HE.out]
            exact ⟨rfl, hk4⟩
          | some cn =>
            rw [hcm] at hR3
            obtain ⟨bn, rfl, hcn⟩ := hR3
            have HE : Hid (R = (Pd.merged W (ms.drop (k + 1))).map (fun m => (cs ++ [cn]) ++ m)) := by
              show R = _
              rw [HM.out, hcm]
              cases Pd.merged W (ms.drop (k + 1)) <;> simp
            clear HM
            have hcs3 := hcs.snoc hcn
            go_wp2_with (at_builtin; refine wpList_append_own _ rfl (.tmp 50) (.tmp 52) 108 rfl w.heap.size 101 i0 _ 1 8 Tryz.underlying108 hi hz0 hz1 hz2 rfl (by decide) _ ps.length (ps.map ptrV) rfl (ho3.alloc _) ⟨w3.heap.size, 0, none⟩ 1 1 [.pointer (some ⟨bn, 0, none⟩)] rfl rfl ?c1 ?c2 ?c3 ?c4 ?c5 ?_)
            case c1 => exact cells_new w3 [.pointer (some ⟨bn, 0, none⟩)] 101
            case c2 => simp [Value.oneCell']
            case c3 => unfold maxLen; omega
            case c4 => omega
            case c5 => have := hk4.size; simp; omega
            intro v4 w4 hown4 hgrow4 _
            have hk5 : Kx (fun _ => False) w w4 := (hk4.alloc _).grown hgrow4 (fun k he => (ho3.lt k he).1)
            have hown5 : w4.ownsRow w.heap.size 101 1 v4 (ps ++ [bn]).length ((ps ++ [bn]).map ptrV) := by
              rw [List.map_append, List.length_append]
              exact hown4
            clear hown4 hgrow4 hk4 ho3
            go_wp2
            go_roundw
            case rel => exact ⟨k + 1, _, _, by go_num, hlt, hk5, hown5, hcs3, by simp; omega, HE⟩
            case measure => simp [intOf]; omega
        · obtain rfl : k = ms.length := by omega
          have hlt2 : ¬ (ms.length : Int) < (ms.length : Int) := by omega
          have HE : Hid (R = some cs) := by
            show R = _
            rw [HQ.out, List.drop_of_length_le (Nat.le_refl _)]
            simp [Pd.merged]
          have hrd := Reads.of_own hown
          obtain ⟨ap, cp, rfl, _⟩ := id hrd
          have hob := hown.lt
          clear HQ hown
          go_wp2
          go_ret3
          rw [HP.out, HE.out]
          exact ⟨⟨ps, ap, cp, al, cl, rfl, hrd, hcs, (by omega), hlst, fun k e => (hob k e).1⟩, hkx⟩

end Go.Proofs.YtepgoppgblfjbaaGreatDoor
namespace Go.Proofs.YtepgoppgblfjbaaGreatDoor

theorem Fine.sub {l l' : List Fi} (h : Fine l) (hs : ∀ f ∈ l', f ∈ l) : Fine l' := fun f hf => h f (hs f hf)

theorem FOk.delete {l : List Fi} (h : FOk l) (a : List UInt8) : FOk (Pf.delete a l) :=
  ⟨h.own.delete, Nat.le_trans (without_len _ _) h.len, h.fine.sub (fun _ hf => (List.mem_filter.1 hf).1)⟩

theorem withE_len {l : List Fi} (h : Pf.withE l = 0) : l.length ≤ 60 := by
  unfold Pf.withE at h
  split at h
  · assumption
  · cases h

theorem sortF_len (l : List Fi) : (Pf.sortF l).length = l.length := (sortF_perm l).length_eq

theorem FOk.put {l : List Fi} (h : FOk l) (f : Fi) (h1 : f.sum.length = 32) (h2 : f.path.length ≤ 100) (h3 : f.mode.length ≤ 20) (hE : Pf.putE f l = 0) : FOk (Pf.put f l) := by
  refine ⟨h.own.put, ?_, fun g hg => ?_⟩
  · show (Pf.sortF _).length ≤ 60
    rw [sortF_len]
    exact withE_len hE
  · rcases List.mem_append.1 ((sortF_perm _).mem_iff.1 hg) with h4 | h4
    · exact h.fine g (List.mem_filter.1 h4).1
    · obtain rfl := List.mem_singleton.1 h4
      exact ⟨h1, h2, h3⟩

theorem taken_fine {a b : List UInt8} {l : List Fi} (h : Fine l) (hE : Pf.takenE a b l = 0) : Fine (Pf.taken a b l) := by
  intro g hg
  obtain ⟨f, hf, hw, rfl⟩ := taken_mem hg
  have h1 := h f hf
  refine ⟨h1.1, ?_, h1.2.2⟩
  unfold Pf.takenE at hE
  split at hE
  · rename_i hn
    rw [hn] at hg
    cases hg
  · split at hE
    · cases hE
    · rename_i hn
      have h2 : Pf.tooLong (Pf.move a b f.path) = false := by
        cases ht : Pf.tooLong (Pf.move a b f.path) with
        | false => rfl
        | true => exact absurd (List.any_eq_true.2 ⟨_, hg, ht⟩) hn
      unfold Pf.tooLong at h2
      simp only [Bool.or_eq_false_iff, decide_eq_false_iff_not] at h2
      show (Pf.move a b f.path).length ≤ 100
      omega

theorem copyE_zero {a b : List UInt8} {l : List Fi} (h : Pf.copyE a b l = 0) : Pf.takenE a b l = 0 ∧ Pf.withE (Pf.withoutAround b l ++ Pf.taken a b l) = 0 := by
  unfold Pf.copyE at h
  split at h
  · rename_i h0; exact ⟨h0, h⟩
  · rename_i h0; exact absurd h h0

theorem moveE_zero {a b : List UInt8} {l : List Fi} (h : Pf.moveE a b l = 0) : Pf.takenE a b l = 0 ∧ Pf.withE (Pf.withoutAround b (Pf.delete a l) ++ Pf.taken a b l) = 0 := by
  unfold Pf.moveE at h
  split at h
  · rename_i h0; exact ⟨h0, h⟩
  · rename_i h0; exact absurd h h0

theorem FOk.copy {l : List Fi} (h : FOk l) {a b : List UInt8} (hE : Pf.copyE a b l = 0) : FOk (Pf.copy a b l) := by
  obtain ⟨h1, h2⟩ := copyE_zero hE
  refine ⟨h.own.copy, ?_, fun g hg => ?_⟩
  · show (Pf.sortF _).length ≤ 60
    rw [sortF_len]
    exact withE_len h2
  · rcases List.mem_append.1 ((sortF_perm _).mem_iff.1 hg) with h4 | h4
    · exact h.fine g (List.mem_filter.1 h4).1
    · exact taken_fine h.fine h1 g h4

theorem FOk.moved {l : List Fi} (h : FOk l) {a b : List UInt8} (hE : Pf.moveE a b l = 0) : FOk (Pf.moved a b l) := by
  obtain ⟨h1, h2⟩ := moveE_zero hE
  refine ⟨h.own.moved, ?_, fun g hg => ?_⟩
  · show (Pf.sortF _).length ≤ 60
    rw [sortF_len]
    exact withE_len h2
  · rcases List.mem_append.1 ((sortF_perm _).mem_iff.1 hg) with h4 | h4
    · exact h.fine g (List.mem_filter.1 (List.mem_filter.1 h4).1).1
    · exact taken_fine h.fine h1 g h4

end Go.Proofs.YtepgoppgblfjbaaGreatDoor
namespace Go.Proofs.YtepgoppgblfjbaaGreatDoor
open Go.RowKit

def conR (W : Wk) (c : Pu.Ch) : Option (List UInt8) × Wk :=
  if c.mark = 0 then (some (Pd.sum Sh.K 1 c.data), Pd.addObj Sh.K 1 c.data W) else match W.ms c.mark with | some (.blob s) => (some s, W) | _ => (none, W)

def conV (x : Option (List UInt8)) : Value := match x with | some s => .tuple #[.string ⟨(Sh.hex s).toArray⟩, .int .i64 0] | none => .tuple #[.string ⟨#[]⟩, .int .i64 4]

def mkTxt (x : Option Mkd) : List UInt8 := match x with | some (.blob s) => Sh.hex s | _ => []

theorem mk_txt {M : Nat → Prop} {w : World} {f : Int → Option Value} {g : Int → Option Mkd} (h : MksF M w f g) (k : Int) : ∃ p, (f k).getD zMk = .agg #[.pointer p, .string ⟨(mkTxt (g k)).toArray⟩] := by
  cases hg : g k with
  | none =>
    rw [(h k).1 hg]
    exact ⟨none, rfl⟩
  | some m =>
    cases m with
    | blob s =>
      rw [((h k).2.1 s hg).1]
      exact ⟨_, rfl⟩
    | com c =>
      obtain ⟨b, hb, _⟩ := (h k).2.2 c hg
      rw [hb]
      exact ⟨_, rfl⟩

theorem mk_len {M : Nat → Prop} {w : World} {f : Int → Option Value} {g : Int → Option Mkd} (h : MksF M w f g) (k : Int) : (∃ s, g k = some (.blob s) ∧ s.length = 32) ∨ ((∀ s, g k ≠ some (.blob s)) ∧ mkTxt (g k) = []) := by
  cases hg : g k with
  | none => exact .inr ⟨fun s e => (by cases e), rfl⟩
  | some m =>
    cases m with
    | blob s => exact .inl ⟨s, rfl, ((h k).2.1 s hg).2⟩
    | com c => exact .inr ⟨fun s e => (by cases e), rfl⟩

set_option maxHeartbeats 1600000 in
set_option maxRecDepth 100000 in
theorem contentW_any {M : Nat → Prop} {w : World} {B : Bl} {n : Nat} {S : St} {W : Wk} (h : Wrk M w B n S W) (hn : n < maxLen) (c : Pu.Ch) (hc : ChOk c) :
    Calls Tryz.prog 342 #[.pointer (some ⟨B.q, 0, none⟩), .agg (chC c)] w fun e w' => e = .returned (conV (conR W c).1) ∧ (∀ s, (conR W c).1 = some s → s.length = 32) ∧ Wrk M w' B (n + 1) S (conR W c).2 ∧ Kx (Only B.mo) w w' := by
  obtain ⟨f, hf, hM⟩ := h.marks
  obtain ⟨word, mode, mark, data, path, tto⟩ := c
  obtain ⟨p1, hv⟩ := mk_txt hM mark
  have hln := mk_len hM mark
  have hA := (Kx.refl (fun _ => False) w).alloc (.cells #[.string ⟨word.toArray⟩, .string ⟨mode.toArray⟩, .int .i64 mark, .string ⟨data.toArray⟩, .string ⟨path.toArray⟩, .string ⟨tto.toArray⟩] 332)
  have hbx := Cb.new #[.string ⟨word.toArray⟩, .string ⟨mode.toArray⟩, .int .i64 mark, .string ⟨data.toArray⟩, .string ⟨path.toArray⟩, .string ⟨tto.toArray⟩] 332 w
  have h1 := h.kept hA
  have hf1 := hf.kept hA id
  obtain ⟨⟨m0, m1⟩, hmo, hda, hpa, hto⟩ := hc
  simp only at *
  unfold chC
  simp only
  by_cases hm0 : mark = 0
  · subst hm0
    have hCR : conR W ⟨word, mode, 0, data, path, tto⟩ = (some (Pd.sum Sh.K 1 data), Pd.addObj Sh.K 1 data W) := if_pos rfl
    rw [hCR]
    clear hCR
    have hblob := blobW_any h1 data (by omega) hn
    have c2 : (w.alloc (.cells #[.string ⟨word.toArray⟩, .string ⟨mode.toArray⟩, .int .i64 0, .string ⟨data.toArray⟩, .string ⟨path.toArray⟩, .string ⟨tto.toArray⟩] 332)).cell? ⟨w.heap.size, 2, none⟩ = some (.int .i64 0) := Cb.cell hbx 2
    have c3 : (w.alloc (.cells #[.string ⟨word.toArray⟩, .string ⟨mode.toArray⟩, .int .i64 0, .string ⟨data.toArray⟩, .string ⟨path.toArray⟩, .string ⟨tto.toArray⟩] 332)).cell? ⟨w.heap.size, 3, none⟩ = some (.string ⟨data.toArray⟩) := Cb.cell hbx 3
    simp only
    unfold conV
    simp only
    have hsl : (Pd.sum Sh.K 1 data).length = 32 := ofK_len _ _
    generalize Pd.sum Sh.K 1 data = sm at *
    generalize Pd.addObj Sh.K 1 data W = Wn at *
    go_enter Tryz.func342, Tryz.ntmps342
    go_wp2_with fail
    refine hblob.mono ?_
    rintro _ w2 ⟨rfl, hw2, hk2⟩
    have hk3 : Kx (Only B.mo) w w2 := (hA.mono (fun _ _ h => h.elim)).trans hk2
    clear hblob hA hbx h1 hf1 c2 c3 hk2
    go_wp2
    go_ret2
    exact ⟨rfl, fun s e => (by rw [← Option.some.inj e]; exact hsl), hw2, hk3⟩
  · rcases hln with ⟨s, hs, hsl⟩ | ⟨hs, hst⟩
    · have hCR : conR W ⟨word, mode, mark, data, path, tto⟩ = (some s, W) := by
        unfold conR
        rw [if_neg hm0, hs]
      rw [hCR]
      clear hCR
      have hne : (Sh.hex s).isEmpty = false := by
        have := hex_len s
        rw [hsl] at this
        cases hx : Sh.hex s with
        | nil => rw [hx] at this; simp at this
        | cons a r => rfl
      rw [hs] at hv
      have hv' : (f mark).getD zMk = .agg #[.pointer p1, .string ⟨(Sh.hex s).toArray⟩] := hv
      clear hv hM
      unfold conV
      simp only
      have hfl := field1
      go_enter Tryz.func342, Tryz.ntmps342
      go_wp2_with fail
      revert hA hbx h1 hf1
      generalize w.alloc (.cells #[.string ⟨word.toArray⟩, .string ⟨mode.toArray⟩, .int .i64 mark, .string ⟨data.toArray⟩, .string ⟨path.toArray⟩, .string ⟨tto.toArray⟩] 332) = W1
      generalize w.heap.size = b1
      intro hA hbx h1 hf1
      refine wp_region_quiet_tail (C := fun w' => Kx (fun _ => False) W1 w') 6 (by kernel_rfl) (by kernel_rfl) (Kx.refl _ _).drew ?_
      refine quiet_val rfl (.pointer (some ⟨B.q, 0, none⟩)) (fun w' hC => by go_simp) ?_
      refine quiet_val rfl (.pointer (some ⟨B.q, 0, none⟩)) (fun w' hC => by go_simp) ?_
      refine quiet_val rfl (.pointer (some ⟨B.q, 2, none⟩)) (fun w' hC => by go_simp) ?_
      refine quiet_val rfl (.map (some B.kb)) (fun w' hC => by
        have hc0 : w'.cell? ⟨B.q, 2, none⟩ = some (.map (some B.kb)) := Cb.cell (h1.wq.kept hC id) 2
        go_simp) ?_
      refine quiet_val rfl (.pointer (some ⟨b1, 2, none⟩)) (fun w' hC => by go_simp) ?_
      refine quiet_val rfl (.int .i64 mark) (fun w' hC => by
        have hc0 : w'.cell? ⟨b1, 2, none⟩ = some (.int .i64 mark) := Cb.cell (hbx.kept hC id) 2
        go_simp) ?_
      refine wpQuiet_nil (fun w' hC => ?_)
      simp only [Act.put, sI, sS, sZ, List.drop_succ_cons, List.drop_zero]
      have h2 := (h1.kept hC).mono (Nat.le_succ n)
      have hf2 := hf1.kept hC id
      have hk2 : Kx (Only B.mo) w w' := (hA.trans hC).mono (fun _ _ h => h.elim)
      clear h1 hf1 hbx hA hC
      go_wp2_with (refine wpList_lookI rfl _ _ 168 rfl 314 (by kernel_rfl) (by kernel_rfl) zMk (by kernel_rfl) B.kb n f rfl hf2 mark rfl (by omega) (by omega) ?_)
      go_ret2
      exact ⟨rfl, fun s' e => (by rw [← Option.some.inj e]; exact hsl), h2, hk2⟩
    · have hCR : conR W ⟨word, mode, mark, data, path, tto⟩ = (none, W) := by
        unfold conR
        rw [if_neg hm0]
        cases hg : W.ms mark with
        | none => rfl
        | some m =>
          cases m with
          | blob s => exact absurd hg (hs s)
          | com c => rfl
      rw [hCR]
      clear hCR
      rw [hst] at hv
      have hv' : (f mark).getD zMk = .agg #[.pointer p1, .string ⟨#[]⟩] := hv
      clear hv hM
      unfold conV
      simp only
      have hfl := field1
      go_enter Tryz.func342, Tryz.ntmps342
      go_wp2_with fail
      revert hA hbx h1 hf1
      generalize w.alloc (.cells #[.string ⟨word.toArray⟩, .string ⟨mode.toArray⟩, .int .i64 mark, .string ⟨data.toArray⟩, .string ⟨path.toArray⟩, .string ⟨tto.toArray⟩] 332) = W1
      generalize w.heap.size = b1
      intro hA hbx h1 hf1
      refine wp_region_quiet_tail (C := fun w' => Kx (fun _ => False) W1 w') 6 (by kernel_rfl) (by kernel_rfl) (Kx.refl _ _).drew ?_
      refine quiet_val rfl (.pointer (some ⟨B.q, 0, none⟩)) (fun w' hC => by go_simp) ?_
      refine quiet_val rfl (.pointer (some ⟨B.q, 0, none⟩)) (fun w' hC => by go_simp) ?_
      refine quiet_val rfl (.pointer (some ⟨B.q, 2, none⟩)) (fun w' hC => by go_simp) ?_
      refine quiet_val rfl (.map (some B.kb)) (fun w' hC => by
        have hc0 : w'.cell? ⟨B.q, 2, none⟩ = some (.map (some B.kb)) := Cb.cell (h1.wq.kept hC id) 2
        go_simp) ?_
      refine quiet_val rfl (.pointer (some ⟨b1, 2, none⟩)) (fun w' hC => by go_simp) ?_
      refine quiet_val rfl (.int .i64 mark) (fun w' hC => by
        have hc0 : w'.cell? ⟨b1, 2, none⟩ = some (.int .i64 mark) := Cb.cell (hbx.kept hC id) 2
        go_simp) ?_
      refine wpQuiet_nil (fun w' hC => ?_)
      simp only [Act.put, sI, sS, sZ, List.drop_succ_cons, List.drop_zero]
      have h2 := (h1.kept hC).mono (Nat.le_succ n)
      have hf2 := hf1.kept hC id
      have hk2 : Kx (Only B.mo) w w' := (hA.trans hC).mono (fun _ _ h => h.elim)
      clear h1 hf1 hbx hA hC
      go_wp2_with (refine wpList_lookI rfl _ _ 168 rfl 314 (by kernel_rfl) (by kernel_rfl) zMk (by kernel_rfl) B.kb n f rfl hf2 mark rfl (by omega) (by omega) ?_)
      go_ret2
      exact ⟨rfl, fun s' e => (by cases e), h2, hk2⟩

end Go.Proofs.YtepgoppgblfjbaaGreatDoor
