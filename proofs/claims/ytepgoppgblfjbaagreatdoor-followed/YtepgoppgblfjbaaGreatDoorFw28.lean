import Derived.Test.YtepgoppgblfjbaaGreatDoorFw27
import Derived.Test.YtepgoppgblfjbaaGreatDoorFw07
import Derived.Shelf.Vars
import Derived.Test.YtepgoppgblfjbaaGreatDoorRows
import Derived.ProofKit
import Derived.Deep.DeepHandedRow
import Derived.Test.YtepgoppgblfjbaaGreatDoorFw09
import Derived.OpenShut
import Derived.ChangeOld
import Derived.Deep.Slices
import Derived.Lib.LaidTab
import Derived.Test.YtepgoppgblfjbaaGreatDoorFw13
import Derived.LaidSub
import Derived.LaidMore
/- Followed itself. -/
namespace Go.Proofs.YtepgoppgblfjbaaGreatDoor
open Go.RowKit

/-- Does a path stay? -/
def stays (gone : Bool) (p k : List UInt8) : Bool := !Pf.within k p && (gone || !Pf.within p k)

theorem folWant_gone (p : List UInt8) (want : List (List UInt8)) : folWant true p want = want.filter (stays true p) := by
  show want.filter (stays true p) ++ [] = _
  simp
theorem folWant_put (p : List UInt8) (want : List (List UInt8)) : folWant false p want = want.filter (stays false p) ++ [p] := rfl

theorem filter_succ (g : List UInt8 → Bool) (l : List (List UInt8)) (k : Nat) (h : k < l.length) : (l.take (k + 1)).filter g = (l.take k).filter g ++ if g l[k] then [l[k]] else [] := by
  rw [List.take_succ_eq_append_getElem h, List.filter_append]
  cases hg : g l[k] <;> simp [hg]

set_option maxHeartbeats 6400000 in
set_option maxRecDepth 100000 in
theorem followed_any (b off len cap : Nat) (f : Nat → Ac) (w : World) (hgl : Gl w) (h7 : 7 ≤ w.heap.size) (hlen : len ≤ maxLen) (hok : ∀ i, i < len → (f i).ok)
    (h0 : ∀ i, i < len → w.cell? ⟨b, off + i * 5, none⟩ = some (.int .i64 (f i).K))
    (h3 : ∀ i, i < len → w.cell? ⟨b, off + i * 5 + 3, none⟩ = some (.int .i64 (f i).C))
    (h4 : ∀ i, i < len → w.cell? ⟨b, off + i * 5 + 4, none⟩ = some (.int .i64 (f i).D)) :
    Calls Tryz.prog 6 #[.slice (some ⟨b, off, none⟩) len cap] w fun e w' => e = .returned (.bool true) ∧ Kx (fun _ => False) w w' := by
  have hmx : maxLen = 9223372036854775807 := rfl
  rw [hmx] at hlen
  obtain ⟨i0, hi0, hz0, hz1, hz2⟩ := info_parts info9
  have happ := app_str
  go_enter Tryz.func6, Tryz.ntmps6
  go_wp2_with fail
  refine (imported_any w hgl h7).mono ?_
  rintro _ w1 ⟨rfl, hk1⟩
  have hgl1 := hgl.kept hk1 (fun _ _ => id)
  have h71 : 7 ≤ w1.heap.size := Nat.le_trans h7 hk1.size
  go_wp2_with fail
  refine (new_any (fun _ => False) w1 (fun _ h => h.elim) h71).mono ?_
  rintro _ w2 ⟨s, h, o, c, r, t, rfl, hN⟩
  have hC2 := FolC.start hk1 h7 (hgl1.kept hN.kx (fun _ _ => id)) hN
  clear hgl hgl1 h71 hN
  generalize (fun k => False ∨ k = s ∨ Fo o c r t k) = M0 at hC2
  go_wp2_with fail
  refine (paths_any _).mono ?_
  rintro _ w3 ⟨rfl, hL⟩
  have hC3 := hC2.kept (hL.kx _)
  have hpM : ¬ M0 w2.heap.size := fun e => by
    have := (hC2.new _ e).2
    omega
  have hpc : ∀ i, i < 7 → w3.cell? ⟨w2.heap.size, i, none⟩ = some (.string ⟨(pathAt i).toArray⟩) := fun i hi => hL.path i hi
  clear hC2 hL hk1
  generalize w2.heap.size = pb at *
  go_wp2_with fail
  go_loopw [7, 6] (fun iv wv wr => ∃ (i : Nat) (want : List (List UInt8)) (M : Nat → Prop) (S : St) (aw : Option Addr) (cw : Nat), iv = .int .i64 i ∧ i ≤ len ∧ i ≤ 20 ∧ wv = .slice aw want.length cw ∧ FolC w wr s i want M S ∧ Hid (Reads wr (.slice aw want.length cw) want.length (strsV want)) ∧ Hid (∀ k, (Value.slice aw want.length cw).ownBlock = some k → ¬ M k ∧ k < wr.heap.size) ∧ Hid (¬ M pb) ∧ Hid (∀ i, i < 7 → wr.cell? ⟨pb, i, none⟩ = some (.string ⟨(pathAt i).toArray⟩))) (fun iv _ _ => 20 - (intOf iv).toNat)
  case atStart =>
    refine ⟨0, [], M0, _, none, 0, rfl, by omega, by omega, rfl, hC3, ?_, ?_, hpM, hpc⟩
    · exact ⟨none, 0, rfl, Nat.le_refl _, fun h => absurd rfl h⟩
    · intro k e
      cases e
  case round =>
    obtain ⟨i, want, M, S, aw, cw, rfl, hil, hi20, rfl, hC, HR, HRM, HpM, Hpc⟩ := hrel
    by_cases hc : i < len ∧ i < 20
    · obtain ⟨hc1, hc2⟩ := hc
      have hcl := fun p hp => hC.kx.cell (p := p) hp id
      have e0 := h0 i hc1
      have e3 := h3 i hc1
      have e4 := h4 i hc1
      have c0 := (hcl _ (lt_of_cell e0)).trans e0
      have c3 := (hcl _ (lt_of_cell e3)).trans e3
      have c4 := (hcl _ (lt_of_cell e4)).trans e4
      obtain ⟨⟨oK1, oK2⟩, oA, oB, ⟨oC1, oC2⟩, ⟨oD1, oD2⟩⟩ := hok i hc1
      clear e0 e3 e4 hcl h0 h3 h4 hok oA oB hpc hpM hC3
      generalize (f i).K = aK at *
      generalize (f i).C = aC at *
      generalize (f i).D = aD at *
      have q1 : pickN aC 7 < 7 := pickN_lt aC 7 (by omega)
      have q2 : pickN aD 30 < 30 := pickN_lt aD 30 (by omega)
      have hp := pathAt_mem _ q1
      have hcp := Hpc.out _ q1
      have hpick1 := pick_any aC 7 wr (by omega) (by omega) oC1 oC2
      have hpick2 := fun w => pick_any aD 30 w (by omega) (by omega) oD1 oD2
      have hpick3 := fun w => pick_any aK 3 w (by omega) (by omega) oK1 oK2
      clear oC1 oC2 oD1 oD2 oK1 oK2
      generalize pickN aC 7 = i1 at *
      generalize pathAt i1 = p at *
      generalize pickN aD 30 = d at *
      have HP : Hid (p ∈ Pu.pathsL) := hp
      have hps := paths_short p hp
      have hdl := dig_len d
      have HD : Hid ((Pu.dig d).length = (Pu.dig d).length) := rfl
      clear hp
      go_wp2_with fail
      refine hpick1.mono ?_
      rintro _ _ ⟨rfl, rfl⟩
      clear hpick1
      go_wp2_with fail
      refine (hpick2 _).mono ?_
      rintro _ _ ⟨rfl, rfl⟩
      clear hpick2
      go_wp2_with fail
      refine (digits_any (d : Int) _ (by omega) (by omega)).mono ?_
      rintro _ w5 ⟨rfl, hk5⟩
      have hk5 := hk5 (fun _ => False)
      rw [Int.toNat_natCast]
      have d0 := (hk5.cell (p := ⟨b, off + i * 5, none⟩) (lt_of_cell (p := ⟨b, off + i * 5, none⟩) c0) id).trans c0
      clear c0 c3 c4 hcp
      go_wp2_with fail
      refine (digits_any ((Pu.dig d).length : Int) _ (by omega) (by omega)).mono ?_
      rintro _ w6 ⟨rfl, hk6⟩
      have hk6 := hk6 (fun _ => False)
      rw [Int.toNat_natCast]
      have f0 := (hk6.cell (p := ⟨b, off + i * 5, none⟩) (lt_of_cell (p := ⟨b, off + i * 5, none⟩) d0) id).trans d0
      have hk46 := hk5.trans hk6
      have hC6 := hC.kept hk46
      have HR6 : Hid (Reads w6 (.slice aw want.length cw) want.length (strsV want)) := HR.out.kept hk46 (fun _ _ => id)
      have HRM6 : Hid (∀ k, (Value.slice aw want.length cw).ownBlock = some k → ¬ M k ∧ k < w6.heap.size) := fun k e => ⟨(HRM.out k e).1, Nat.lt_of_lt_of_le (HRM.out k e).2 hk46.size⟩
      have Hpc6 : Hid (∀ i, i < 7 → w6.cell? ⟨pb, i, none⟩ = some (.string ⟨(pathAt i).toArray⟩)) := fun i hi => (hk46.cell (p := ⟨pb, i, none⟩) (lt_of_cell (p := ⟨pb, i, none⟩) (Hpc.out i hi)) id).trans (Hpc.out i hi)
      clear d0 hC HR HRM Hpc hk5 hk6 hk46
      have hdl2 := dig_len (Pu.dig d).length
      generalize hDD : Pu.dig (Pu.dig d).length = DD at *
      generalize hD1 : Pu.dig d = D1 at *
      obtain ⟨hd1, hd2⟩ := hdl
      obtain ⟨hd3, hd4⟩ := hdl2
      have HDD : Hid (Pu.dig D1.length = DD) := hDD
      have HD1 : Hid (Pu.dig d = D1) := hD1
      clear hDD hD1 HD
      go_wp2_with fail
      refine (hpick3 _).mono ?_
      rintro _ w7 ⟨rfl, rfl⟩
      clear hpick3 f0
      generalize pickN aK 3 = gK at *
      by_cases hg : gK = 0
      · subst hg
        have himp := fol_import hC6 true p d HP.out q2 hc2
        rw [show Pu.folS true p d = Pu.folHead ++ ([68, 32] ++ p ++ [10]) ++ [10, 100, 111, 110, 101, 10] from rfl] at himp
        have HW : Hid (folWant true p want = want.filter (stays true p)) := folWant_gone p want
        unfold Pu.folHead at himp
        generalize folWant true p want = want2 at *
        simp only [List.append_assoc, List.cons_append, List.nil_append] at himp
        go_wp2_with fail
        refine himp.mono ?_
        rintro _ w8 ⟨rfl, M2, S2, hC8, hM2, hkM⟩
        clear himp
        have HR8 : Hid (Reads w8 (.slice aw want.length cw) want.length (strsV want)) := HR6.out.kept hkM (fun k e => (HRM6.out k e).1)
        have Hpc8 : Hid (∀ i, i < 7 → w8.cell? ⟨pb, i, none⟩ = some (.string ⟨(pathAt i).toArray⟩)) := fun i hi => (hkM.cell (p := ⟨pb, i, none⟩) (lt_of_cell (p := ⟨pb, i, none⟩) (Hpc6.out i hi)) HpM.out).trans (Hpc6.out i hi)
        have HpM2 : Hid (¬ M2 pb) := fun e => (hM2 pb e).elim HpM.out (fun h => by have := lt_of_cell (p := ⟨pb, 0, none⟩) (Hpc6.out 0 (by omega)); exact absurd h (Nat.not_le.2 this))
        have HK : Hid (∀ k ∈ want, k.length ≤ 5) := fun k hk => paths_short k (hC6.fi.known k hk)
        have hwl : want.length ≤ 20 := by have := hC6.len; omega
        clear hM2 hkM hC6 HR6 HRM6 Hpc6 HpM
        go_wp2_with fail
        go_loopw [15, 14] (fun kv nv wq => ∃ (k : Nat) (N : List (List UInt8)), kv = .int .i64 k ∧ k ≤ want.length ∧ Kx (fun _ => False) w8 wq ∧ wq.ownsRow w8.heap.size 9 1 nv N.length (strsV N) ∧ N.length ≤ k ∧ Hid (N = (want.take k).filter (stays true p))) (fun kv _ _ => want.length - (intOf kv).toNat)
        case atStart => exact ⟨0, [], rfl, by omega, Kx.refl _ _, World.ownsRow_nil _ _ _ _, Nat.le_refl _, rfl⟩
        case round =>
          obtain ⟨k, N, rfl, hk, hkq, hown, hNk, HN⟩ := hrel
          by_cases hkl : k < want.length
          · have hkl2 : (k : Int) < (want.length : Int) := by omega
            obtain ⟨q, c9, he, _, hr⟩ := HR8.out
            cases he
            obtain ⟨g, og, rfl, hcell⟩ := hr (by omega)
            have e9 := hcell k (.string ⟨want[k].toArray⟩) (by simp [strsV, hkl])
            have c9 := (hkq.cell (p := ⟨g, og + k, none⟩) (lt_of_cell (p := ⟨g, og + k, none⟩) e9) id).trans e9
            have HF := filter_succ (stays true p) want k hkl
            have hw5 := HK.out want[k] (List.getElem_mem hkl)
            generalize want[k] = wk at *
            clear hcell hr e9
            have HF2 : Hid ((want.take (k + 1)).filter (stays true p) = (want.take k).filter (stays true p) ++ if stays true p wk then [wk] else []) := HF
            clear HF
            have hb1 := below_any' wk p wr (by omega)
            have hb2 := below_any' p wk wr (by omega)
            go_wp2_with fail
            refine hb1.mono ?_
            rintro _ w9 ⟨rfl, hw9⟩
            subst hw9
            clear hb1
            go_wp2_with fail
            refine hb2.mono ?_
            rintro _ w9 ⟨rfl, hw9⟩
            subst hw9
            clear hb2
            cases hu : Pf.within wk p with
            | true =>
              have HS : Hid (stays true p wk = false) := by show _ = _; simp [stays, hu]
              go_wp2
              go_roundw
              case rel => exact ⟨k + 1, N, by go_num, hkl, hkq, hown, by omega, by show _ = _; rw [HF2.out, HS.out, HN.out]; simp⟩
              case measure => simp [intOf]; omega
            | false =>
              have HS : Hid (stays true p wk = true) := by show _ = _; simp [stays, hu]
              go_wp2_with (at_builtin; refine wpList_append_own _ rfl (.tmp 116) (.tmp 121) 35 rfl w8.heap.size 9 i0 _ 1 16 Tryz.underlying35 hi0 hz0 hz1 hz2 rfl (by decide) _ N.length (strsV N) rfl (hown.alloc _) ⟨w9.heap.size, 0, none⟩ 1 1 [.string ⟨wk.toArray⟩] rfl rfl ?c1 ?c2 ?c3 ?c4 ?c5 ?_)
              case c1 => exact cells_new w9 [.string ⟨wk.toArray⟩] 9
              case c2 => simp [Value.oneCell']
              case c3 => unfold maxLen; omega
              case c4 => omega
              case c5 => have := hkq.size; simp; omega
              intro v10 w10 hown10 hgrow10 _
              have hk10 : Kx (fun _ => False) w8 w10 := (hkq.alloc _).grown hgrow10 (fun k he => (hown.lt k he).1)
              have hown11 : w10.ownsRow w8.heap.size 9 1 v10 (N ++ [wk]).length (strsV (N ++ [wk])) := by rw [List.length_append]; unfold strsV; rw [List.map_append]; exact hown10
              clear hown10 hgrow10
              go_wp2
              go_roundw
              case rel => exact ⟨k + 1, N ++ [wk], by go_num, hkl, hk10, hown11, by simp; omega, by show _ = _; rw [HF2.out, HS.out, HN.out]; rfl⟩
              case measure => simp [intOf]; omega
          · obtain rfl : k = want.length := by omega
            have hkl2 : ¬ (want.length : Int) < (want.length : Int) := by omega
            have HN2 : N = want.filter (stays true p) := by have := HN.out; rw [List.take_of_length_le (Nat.le_refl _)] at this; exact this
            obtain rfl : want2 = N := HW.out.trans HN2.symm
            clear HN HN2 HW HR8
            have hC9 := hC8.kept hkq
            have HRw : Hid (Reads wr _ want2.length (strsV want2)) := Reads.of_own hown
            obtain ⟨q, cq, rfl, _, _⟩ := Reads.of_own hown
            have HOw : Hid (∀ k, (Value.slice q want2.length cq).ownBlock = some k → w8.heap.size ≤ k ∧ k < wr.heap.size) := fun k e => hown.lt k e
            clear hown
            have hrefs := fol_refs hC9 (by omega) (by omega)
            go_wp2_with fail
            refine hrefs.mono ?_
            rintro _ w11 ⟨g, og, cv, rfl, hid, hk11⟩
            have hC11 := hC9.kept hk11
            have hfiles := fol_files hC11 (by omega)
            generalize idAt S2.ref Pu.sMain = ID at *
            clear hrefs
            go_wp2_with fail
            refine hfiles.mono ?_
            rintro _ w12 ⟨al, cl, rfl, hRl, hk12⟩
            have hC12 := hC11.kept hk12
            have hK12 := hk11.trans hk12
            have hRw := HRw.out.kept hK12 (fun _ _ => id)
            have hwl2 := hC12.len
            have hholds := holds_any (mainFiles S2) want2 al q cl cq w12 hRl hRw hC12.fi (by omega)
            clear hfiles hRl hid hwl2
            generalize (mainFiles S2).length = nl at *
            go_wp2_with fail
            refine hholds.mono ?_
            rintro _ w13 ⟨rfl, hk13⟩
            clear hholds
            have hK13 := hK12.trans hk13
            have hC13 := hC12.kept hk13
            have HR13 : Hid (Reads w13 (.slice q want2.length cq) want2.length (strsV want2)) := hRw.kept hk13 (fun _ _ => id)
            have HO13 : Hid (∀ k, (Value.slice q want2.length cq).ownBlock = some k → ¬ M2 k ∧ k < w13.heap.size) := fun k e => ⟨fun h => absurd (hC8.new k h).2 (Nat.not_lt.2 (HOw.out k e).1), Nat.lt_of_lt_of_le (HOw.out k e).2 hK13.size⟩
            have hK813 := hkq.trans hK13
            have Hpc13 : Hid (∀ i, i < 7 → w13.cell? ⟨pb, i, none⟩ = some (.string ⟨(pathAt i).toArray⟩)) := fun i hi => (hK813.cell (p := ⟨pb, i, none⟩) (lt_of_cell (p := ⟨pb, i, none⟩) (Hpc8.out i hi)) id).trans (Hpc8.out i hi)
            clear hRw HRw HOw Hpc8 hC8 hC9 hC11 hC12 hk11 hk12 hK12 hk13 hK13 hK813
            go_wp2
            go_roundw
            case rel => exact ⟨i + 1, want2, M2, S2, q, cq, by go_num, by omega, by omega, rfl, hC13, HR13, HO13, HpM2, Hpc13⟩
            case measure => simp [intOf]; omega
      · have hg2 : ((gK : Int) == 0) = false := beq_eq_false_iff_ne.2 (by omega)
        have himp := fol_import hC6 false p d HP.out q2 hc2
        rw [show Pu.folS false p d = Pu.folHead ++ ([77, 32, 49, 48, 48, 54, 52, 52, 32, 105, 110, 108, 105, 110, 101, 32] ++ p ++ [10, 100, 97, 116, 97, 32] ++ Pu.dig (Pu.dig d).length ++ [10] ++ Pu.dig d ++ [10]) ++ [10, 100, 111, 110, 101, 10] from rfl, HD1.out, HDD.out] at himp
        have HW : Hid (folWant false p want = want.filter (stays false p) ++ [p]) := folWant_put p want
        unfold Pu.folHead at himp
        generalize folWant false p want = want2 at *
        simp only [List.append_assoc, List.cons_append, List.nil_append] at himp
        go_wp2_with fail
        refine himp.mono ?_
        rintro _ w8 ⟨rfl, M2, S2, hC8, hM2, hkM⟩
        clear himp
        have HR8 : Hid (Reads w8 (.slice aw want.length cw) want.length (strsV want)) := HR6.out.kept hkM (fun k e => (HRM6.out k e).1)
        have Hpc8 : Hid (∀ i, i < 7 → w8.cell? ⟨pb, i, none⟩ = some (.string ⟨(pathAt i).toArray⟩)) := fun i hi => (hkM.cell (p := ⟨pb, i, none⟩) (lt_of_cell (p := ⟨pb, i, none⟩) (Hpc6.out i hi)) HpM.out).trans (Hpc6.out i hi)
        have HpM2 : Hid (¬ M2 pb) := fun e => (hM2 pb e).elim HpM.out (fun h => by have := lt_of_cell (p := ⟨pb, 0, none⟩) (Hpc6.out 0 (by omega)); exact absurd h (Nat.not_le.2 this))
        have HK : Hid (∀ k ∈ want, k.length ≤ 5) := fun k hk => paths_short k (hC6.fi.known k hk)
        have hwl : want.length ≤ 20 := by have := hC6.len; omega
        clear hM2 hkM hC6 HR6 HRM6 Hpc6 HpM
        go_wp2_with fail
        go_loopw [15, 14] (fun kv nv wq => ∃ (k : Nat) (N : List (List UInt8)), kv = .int .i64 k ∧ k ≤ want.length ∧ Kx (fun _ => False) w8 wq ∧ wq.ownsRow w8.heap.size 9 1 nv N.length (strsV N) ∧ N.length ≤ k ∧ Hid (N = (want.take k).filter (stays false p))) (fun kv _ _ => want.length - (intOf kv).toNat)
        case atStart => exact ⟨0, [], rfl, by omega, Kx.refl _ _, World.ownsRow_nil _ _ _ _, Nat.le_refl _, rfl⟩
        case round =>
          obtain ⟨k, N, rfl, hk, hkq, hown, hNk, HN⟩ := hrel
          by_cases hkl : k < want.length
          · have hkl2 : (k : Int) < (want.length : Int) := by omega
            obtain ⟨q, c9, he, _, hr⟩ := HR8.out
            cases he
            obtain ⟨g, og, rfl, hcell⟩ := hr (by omega)
            have e9 := hcell k (.string ⟨want[k].toArray⟩) (by simp [strsV, hkl])
            have c9 := (hkq.cell (p := ⟨g, og + k, none⟩) (lt_of_cell (p := ⟨g, og + k, none⟩) e9) id).trans e9
            have HF := filter_succ (stays false p) want k hkl
            have hw5 := HK.out want[k] (List.getElem_mem hkl)
            generalize want[k] = wk at *
            clear hcell hr e9
            have HF2 : Hid ((want.take (k + 1)).filter (stays false p) = (want.take k).filter (stays false p) ++ if stays false p wk then [wk] else []) := HF
            clear HF
            have hb1 := below_any' wk p wr (by omega)
            have hb2 := below_any' p wk wr (by omega)
            go_wp2_with fail
            refine hb1.mono ?_
            rintro _ w9 ⟨rfl, hw9⟩
            subst hw9
            clear hb1
            go_wp2_with fail
            refine hb2.mono ?_
            rintro _ w9 ⟨rfl, hw9⟩
            subst hw9
            clear hb2
            cases hu : Pf.within wk p with
            | true =>
              have HS : Hid (stays false p wk = false) := by show _ = _; simp [stays, hu]
              go_wp2
              go_roundw
              case rel => exact ⟨k + 1, N, by go_num, hkl, hkq, hown, by omega, by show _ = _; rw [HF2.out, HS.out, HN.out]; simp⟩
              case measure => simp [intOf]; omega
            | false =>
              cases hv : Pf.within p wk with
              | true =>
                have HS : Hid (stays false p wk = false) := by show _ = _; simp [stays, hu, hv]
                go_wp2
                go_roundw
                case rel => exact ⟨k + 1, N, by go_num, hkl, hkq, hown, by omega, by show _ = _; rw [HF2.out, HS.out, HN.out]; simp⟩
                case measure => simp [intOf]; omega
              | false =>
                have HS : Hid (stays false p wk = true) := by show _ = _; simp [stays, hu, hv]
                go_wp2_with (at_builtin; refine wpList_append_own _ rfl (.tmp 116) (.tmp 121) 35 rfl w8.heap.size 9 i0 _ 1 16 Tryz.underlying35 hi0 hz0 hz1 hz2 rfl (by decide) _ N.length (strsV N) rfl (hown.alloc _) ⟨w9.heap.size, 0, none⟩ 1 1 [.string ⟨wk.toArray⟩] rfl rfl ?c1 ?c2 ?c3 ?c4 ?c5 ?_)
                case c1 => exact cells_new w9 [.string ⟨wk.toArray⟩] 9
                case c2 => simp [Value.oneCell']
                case c3 => unfold maxLen; omega
                case c4 => omega
                case c5 => have := hkq.size; simp; omega
                intro v10 w10 hown10 hgrow10 _
                have hk10 : Kx (fun _ => False) w8 w10 := (hkq.alloc _).grown hgrow10 (fun k he => (hown.lt k he).1)
                have hown11 : w10.ownsRow w8.heap.size 9 1 v10 (N ++ [wk]).length (strsV (N ++ [wk])) := by rw [List.length_append]; unfold strsV; rw [List.map_append]; exact hown10
                clear hown10 hgrow10
                go_wp2
                go_roundw
                case rel => exact ⟨k + 1, N ++ [wk], by go_num, hkl, hk10, hown11, by simp; omega, by show _ = _; rw [HF2.out, HS.out, HN.out]; rfl⟩
                case measure => simp [intOf]; omega
          · obtain rfl : k = want.length := by omega
            have hkl2 : ¬ (want.length : Int) < (want.length : Int) := by omega
            have HN2 : N = want.filter (stays false p) := by have := HN.out; rw [List.take_of_length_le (Nat.le_refl _)] at this; exact this
            have hW2 : want2 = N ++ [p] := by rw [HW.out, HN2]
            clear HN HN2 HW HR8
            go_wp2_with (at_builtin; refine wpList_append_own _ rfl (.tmp 126) (.tmp 128) 35 rfl w8.heap.size 9 i0 _ 1 16 Tryz.underlying35 hi0 hz0 hz1 hz2 rfl (by decide) _ N.length (strsV N) rfl (hown.alloc _) ⟨wr.heap.size, 0, none⟩ 1 1 [.string ⟨p.toArray⟩] rfl rfl ?c1 ?c2 ?c3 ?c4 ?c5 ?_)
            case c2 => simp [Value.oneCell']
            case c3 => omega
            case c4 => omega
            case c5 => have := hkq.size; simp; omega
            intro v10 w10 hown10 hgrow10 _
            have hk10 : Kx (fun _ => False) w8 w10 := (hkq.alloc _).grown hgrow10 (fun k he => (hown.lt k he).1)
            have hown11 : w10.ownsRow w8.heap.size 9 1 v10 want2.length (strsV want2) := by rw [hW2, List.length_append]; unfold strsV; rw [List.map_append]; exact hown10
            clear hown10 hgrow10 hW2
            have hC9 := hC8.kept hk10
            have HRw : Hid (Reads w10 _ want2.length (strsV want2)) := Reads.of_own hown11
            obtain ⟨q, cq, rfl, _, _⟩ := Reads.of_own hown11
            have HOw : Hid (∀ k, (Value.slice q want2.length cq).ownBlock = some k → w8.heap.size ≤ k ∧ k < w10.heap.size) := fun k e => hown11.lt k e
            clear hown11 hown
            have hrefs := fol_refs hC9 (by omega) (by omega)
            go_wp2_with fail
            refine hrefs.mono ?_
            rintro _ w11 ⟨g, og, cv, rfl, hid, hk11⟩
            have hC11 := hC9.kept hk11
            have hfiles := fol_files hC11 (by omega)
            generalize idAt S2.ref Pu.sMain = ID at *
            clear hrefs
            go_wp2_with fail
            refine hfiles.mono ?_
            rintro _ w12 ⟨al, cl, rfl, hRl, hk12⟩
            have hC12 := hC11.kept hk12
            have hK12 := hk11.trans hk12
            have hRw := HRw.out.kept hK12 (fun _ _ => id)
            have hwl2 := hC12.len
            have hholds := holds_any (mainFiles S2) want2 al q cl cq w12 hRl hRw hC12.fi (by omega)
            clear hfiles hRl hid hwl2
            generalize (mainFiles S2).length = nl at *
            go_wp2_with fail
            refine hholds.mono ?_
            rintro _ w13 ⟨rfl, hk13⟩
            clear hholds
            have hK13 := hK12.trans hk13
            have hC13 := hC12.kept hk13
            have HR13 : Hid (Reads w13 (.slice q want2.length cq) want2.length (strsV want2)) := hRw.kept hk13 (fun _ _ => id)
            have HO13 : Hid (∀ k, (Value.slice q want2.length cq).ownBlock = some k → ¬ M2 k ∧ k < w13.heap.size) := fun k e => ⟨fun h => absurd (hC8.new k h).2 (Nat.not_lt.2 (HOw.out k e).1), Nat.lt_of_lt_of_le (HOw.out k e).2 hK13.size⟩
            have hK813 := hk10.trans hK13
            have Hpc13 : Hid (∀ i, i < 7 → w13.cell? ⟨pb, i, none⟩ = some (.string ⟨(pathAt i).toArray⟩)) := fun i hi => (hK813.cell (p := ⟨pb, i, none⟩) (lt_of_cell (p := ⟨pb, i, none⟩) (Hpc8.out i hi)) id).trans (Hpc8.out i hi)
            clear hRw HRw HOw Hpc8 hC8 hC9 hC11 hC12 hk11 hk12 hK12 hk13 hK13 hK813
            go_wp2
            go_roundw
            case rel => exact ⟨i + 1, want2, M2, S2, q, cq, by go_num, by omega, by omega, rfl, hC13, HR13, HO13, HpM2, Hpc13⟩
            case measure => simp [intOf]; omega
    · by_cases hc1 : i < len
      · have hc2 : ¬ i < 20 := fun e => hc ⟨hc1, e⟩
        clear hc
        go_wp2
        go_ret
        exact ⟨rfl, hC.kx⟩
      · clear hc
        go_wp2
        go_ret
        exact ⟨rfl, hC.kx⟩

end Go.Proofs.YtepgoppgblfjbaaGreatDoor

/- What a world that fits the program holds. -/
namespace Go.Proofs.YtepgoppgblfjbaaGreatDoor
open Go.RowKit

theorem max_of {w : World} (h : w.ShapedOpen Tryz.prog) : ∃ m, w.cell? ⟨1, 0, none⟩ = some (.int .i64 m) :=
  Go.Proofs.cell_of_shapedOpen_int (zero := #[.int .i64 0]) (t := 3) h (of_decide_eq_true (by kernel_rfl)) (by kernel_rfl) rfl (by kernel_rfl) (by kernel_rfl) Tryz.underlying3

theorem size_of {w : World} (h : w.ShapedOpen Tryz.prog) : 6 < w.heap.size := by
  obtain ⟨o, o0, h1, _⟩ := h.2 7 (of_decide_eq_true (by kernel_rfl)) (of_decide_eq_true (by kernel_rfl))
  have := (Array.getElem?_eq_some_iff.1 h1).1
  omega

theorem mx_of {w : World} (h : w.ShapedOpen Tryz.prog) : ∃ m, Mx m w := by
  obtain ⟨m, hm⟩ := max_of h
  exact ⟨m, size_of h, hm⟩

end Go.Proofs.YtepgoppgblfjbaaGreatDoor

/- The world that the witnesses begin with: all variables lie as the program's text lays them. -/
namespace Go.Proofs.YtepgoppgblfjbaaGreatDoor

noncomputable def startW (os : Os) : World := { World.holding Tryz.prog os ⟨#[], #[], []⟩ with heap := (Array.modify (Array.modify (Array.modify (Array.modify (Array.modify (Array.modify (World.holding Tryz.prog os ⟨#[], #[], []⟩).heap 0 (fun | .cells _ t frozen => .cells #[.int .u64 1, .int .u64 10, .int .u64 100, .int .u64 1000, .int .u64 10000, .int .u64 100000, .int .u64 1000000, .int .u64 10000000, .int .u64 100000000, .int .u64 1000000000, .int .u64 10000000000, .int .u64 100000000000, .int .u64 1000000000000, .int .u64 10000000000000, .int .u64 100000000000000, .int .u64 1000000000000000, .int .u64 10000000000000000, .int .u64 100000000000000000, .int .u64 1000000000000000000, .int .u64 10000000000000000000] t frozen | o => o)) 2 (fun | .cells _ t frozen => .cells #[.string ⟨#[]⟩, .string ⟨#[98, 108, 111, 98]⟩, .string ⟨#[116, 114, 101, 101]⟩, .string ⟨#[99, 111, 109, 109, 105, 116]⟩, .string ⟨#[116, 97, 103]⟩] t frozen | o => o)) 3 (fun | .cells _ t frozen => .cells #[.int .u8 0, .int .u8 1, .int .u8 28, .int .u8 2, .int .u8 29, .int .u8 14, .int .u8 24, .int .u8 3, .int .u8 30, .int .u8 22, .int .u8 20, .int .u8 15, .int .u8 25, .int .u8 17, .int .u8 4, .int .u8 8, .int .u8 31, .int .u8 27, .int .u8 13, .int .u8 23, .int .u8 21, .int .u8 19, .int .u8 16, .int .u8 7, .int .u8 26, .int .u8 12, .int .u8 18, .int .u8 6, .int .u8 11, .int .u8 5, .int .u8 10, .int .u8 9] t frozen | o => o)) 4 (fun | .cells _ t frozen => .cells #[.int .u8 0, .int .u8 1, .int .u8 56, .int .u8 2, .int .u8 57, .int .u8 49, .int .u8 28, .int .u8 3, .int .u8 61, .int .u8 58, .int .u8 42, .int .u8 50, .int .u8 38, .int .u8 29, .int .u8 17, .int .u8 4, .int .u8 62, .int .u8 47, .int .u8 59, .int .u8 36, .int .u8 45, .int .u8 43, .int .u8 51, .int .u8 22, .int .u8 53, .int .u8 39, .int .u8 33, .int .u8 30, .int .u8 24, .int .u8 18, .int .u8 12, .int .u8 5, .int .u8 63, .int .u8 55, .int .u8 48, .int .u8 27, .int .u8 60, .int .u8 41, .int .u8 37, .int .u8 16, .int .u8 46, .int .u8 35, .int .u8 44, .int .u8 21, .int .u8 52, .int .u8 32, .int .u8 23, .int .u8 11, .int .u8 54, .int .u8 26, .int .u8 40, .int .u8 15, .int .u8 34, .int .u8 20, .int .u8 31, .int .u8 10, .int .u8 25, .int .u8 14, .int .u8 19, .int .u8 9, .int .u8 13, .int .u8 8, .int .u8 7, .int .u8 6] t frozen | o => o)) 5 (fun | .cells _ t frozen => .cells (Go.Pinned.utf8FirstZ.map (fun z : Nat => Value.int .u8 (z : Int))).toArray t frozen | o => o)) 6 (fun | .cells _ t frozen => .cells #[.int .u8 128, .int .u8 191, .int .u8 160, .int .u8 191, .int .u8 128, .int .u8 159, .int .u8 144, .int .u8 191, .int .u8 128, .int .u8 143, .int .u8 0, .int .u8 0, .int .u8 0, .int .u8 0, .int .u8 0, .int .u8 0, .int .u8 0, .int .u8 0, .int .u8 0, .int .u8 0, .int .u8 0, .int .u8 0, .int .u8 0, .int .u8 0, .int .u8 0, .int .u8 0, .int .u8 0, .int .u8 0, .int .u8 0, .int .u8 0, .int .u8 0, .int .u8 0] t frozen | o => o)) }

theorem own : ownKnob Tryz.prog.godebug = none := by kernel_rfl
theorem laidOut : laidOutB Tryz.prog = true := by kernel_rfl

end Go.Proofs.YtepgoppgblfjbaaGreatDoor

/- Slices of acts that came in. -/
namespace Go.Proofs.YtepgoppgblfjbaaGreatDoor
open Go.ChangeShapes Go.WideShapes Go.ChangeAt Go.RowKit Go.Deep

theorem cells33 : Tryz.prog.cellsOf 38 = 5 := by kernel_rfl
theorem cells3 : Tryz.prog.cellsOf 3 = 1 := by kernel_rfl

theorem i64_of {n : Int} (h : (Lit.int .i64 n).wf = true) : I64 n := by
  have h1 := bounds_i64 h
  unfold I64; omega

set_option maxRecDepth 100000 in
/-- An act's cells, off its reading. -/
theorem act_of {H : Type} {enc : TypeId × Value → H} {w : World} {base : Nat} {spare : Nat → Bool} {held : Bool} {fuel : Nat} {cs : List Value} {x : DataW H × List MemPlace}
    (h : DataW.trod enc Tryz.prog w base spare held fuel 38 cs = some x) :
    ∃ a : Ac, a.ok ∧ cs = [.int .i64 a.K, .int .i64 a.A, .int .i64 a.B, .int .i64 a.C, .int .i64 a.D] := by
  obtain ⟨xs, n, _, rfl, hl, hlen, hf⟩ := DataW.trod_struct Tryz.underlying38 h
  rw [cells33] at hl
  match xs, hlen, cs, hl with
  | [y0, y1, y2, y3, y4], _, [c0, c1, c2, c3, c4], _ =>
    have f0 : DataW.trod enc Tryz.prog w base spare held n 3 (([c0, c1, c2, c3, c4].drop 0).take (Tryz.prog.cellsOf 3)) = some y0 := hf 0 _ rfl
    have f1 : DataW.trod enc Tryz.prog w base spare held n 3 (([c0, c1, c2, c3, c4].drop 1).take (Tryz.prog.cellsOf 3)) = some y1 := hf 1 _ rfl
    have f2 : DataW.trod enc Tryz.prog w base spare held n 3 (([c0, c1, c2, c3, c4].drop 2).take (Tryz.prog.cellsOf 3)) = some y2 := hf 2 _ rfl
    have f3 : DataW.trod enc Tryz.prog w base spare held n 3 (([c0, c1, c2, c3, c4].drop 3).take (Tryz.prog.cellsOf 3)) = some y3 := hf 3 _ rfl
    have f4 : DataW.trod enc Tryz.prog w base spare held n 3 (([c0, c1, c2, c3, c4].drop 4).take (Tryz.prog.cellsOf 3)) = some y4 := hf 4 _ rfl
    rw [cells3] at f0 f1 f2 f3 f4
    obtain ⟨n0, e0, _, w0⟩ := DataW.trod_int Tryz.underlying3 f0
    obtain ⟨n1, e1, _, w1⟩ := DataW.trod_int Tryz.underlying3 f1
    obtain ⟨n2, e2, _, w2⟩ := DataW.trod_int Tryz.underlying3 f2
    obtain ⟨n3, e3, _, w3⟩ := DataW.trod_int Tryz.underlying3 f3
    obtain ⟨n4, e4, _, w4⟩ := DataW.trod_int Tryz.underlying3 f4
    simp at e0 e1 e2 e3 e4
    subst e0 e1 e2 e3 e4
    exact ⟨⟨n0, n1, n2, n3, n4⟩, ⟨i64_of w0, i64_of w1, i64_of w2, i64_of w3, i64_of w4⟩, rfl⟩

/-- A slice of acts that came in. -/
theorem stream_of {H : Type} {enc : TypeId × Value → H} {W : World} {spare : Nat → Bool} {held : Bool} {fuel : Nat} {v : Value} {x : DataW H × List MemPlace}
    (h : DataW.trod enc Tryz.prog W 0 spare held fuel 25 [v] = some x) :
    ∃ (f : Nat → Ac) (len : Nat), ∀ w1 : World, (∀ X, Kx X W w1) → Calls Tryz.prog 17 #[v] w1 fun e w' => e = .returned (.string ⟨(streamOf f len).toArray⟩) ∧ ∀ X, Kx X w1 w' := by
  rcases open_slice Tryz.underlying25 h with ⟨hcs, _⟩ | ⟨a, len, cap, m, n, D, Pl, hcs, _, hl, hm, hmm, _, hel⟩
  · simp at hcs
    subst hcs
    exact ⟨fun _ => ⟨0, 0, 0, 0, 0⟩, 0, fun w1 _ => streamL_none none 0 _ w1⟩
  · simp at hcs
    subst hcs
    by_cases h0 : len = 0
    · subst h0
      exact ⟨fun _ => ⟨0, 0, 0, 0, 0⟩, 0, fun w1 _ => streamL_none (some a) cap _ w1⟩
    · have hlm : len ≤ m := by rw [hmm]; split <;> omega
      rw [cells33] at hel
      have hel2 : ∀ i, i < len → ∃ c : Ac, c.ok ∧ W.cells? 0 (a.add (i * 5)) 5 = some [.int .i64 c.K, .int .i64 c.A, .int .i64 c.B, .int .i64 c.C, .int .i64 c.D] := by
        intro i hi
        obtain ⟨cs, h1, h2⟩ := hel i (by omega)
        obtain ⟨c, hc, rfl⟩ := act_of h2
        exact ⟨c, hc, h1⟩
      obtain ⟨f, hf⟩ : ∃ f : Nat → Ac, ∀ i, i < len → (f i).ok ∧ W.cells? 0 (a.add (i * 5)) 5 = some [.int .i64 (f i).K, .int .i64 (f i).A, .int .i64 (f i).B, .int .i64 (f i).C, .int .i64 (f i).D] := by
        have : Inhabited Ac := ⟨⟨0, 0, 0, 0, 0⟩⟩
        exact choose_lt hel2
      obtain ⟨b, off, spot⟩ := a
      have hspot : spot = none := by
        have hc := (World.cells?_some (hf 0 (by omega)).2).2.2 0 (by omega)
        simpa [Addr.add] using World.cell?_spot hc
      subst hspot
      have hadd : ∀ i j, ((⟨b, off, none⟩ : Addr).add (i * 5)).add j = ⟨b, off + i * 5 + j, none⟩ := by
        intro i j
        rw [add_add]
        unfold Addr.add; split <;> simp_all [Nat.add_assoc]
      have hcell : ∀ i, i < len → ∀ j, j < 5 → W.cell? ⟨b, off + i * 5 + j, none⟩ = [Value.int .i64 (f i).K, .int .i64 (f i).A, .int .i64 (f i).B, .int .i64 (f i).C, .int .i64 (f i).D][j]? := by
        intro i hi j hj
        rw [← hadd]
        exact (World.cells?_some (hf i hi).2).2.2 j hj
      refine ⟨f, len, fun w1 hk => ?_⟩
      have hk1 : ∀ i, i < len → ∀ j, j < 5 → w1.cell? ⟨b, off + i * 5 + j, none⟩ = [Value.int .i64 (f i).K, .int .i64 (f i).A, .int .i64 (f i).B, .int .i64 (f i).C, .int .i64 (f i).D][j]? := by
        intro i hi j hj
        have e := hcell i hi j hj
        have hl : (⟨b, off + i * 5 + j, none⟩ : Addr).block < W.heap.size := by
          rw [List.getElem?_eq_getElem (by simpa using hj)] at e
          exact lt_of_cell e
        rw [(hk (fun _ => False)).cell hl id]
        exact e
      exact streamL_any b off len cap f w1 (by omega) (fun i hi => (hf i hi).1) (fun i hi => hk1 i hi 0 (by omega)) (fun i hi => hk1 i hi 1 (by omega)) (fun i hi => hk1 i hi 2 (by omega)) (fun i hi => hk1 i hi 3 (by omega)) (fun i hi => hk1 i hi 4 (by omega))

end Go.Proofs.YtepgoppgblfjbaaGreatDoor

/- What the package-level variables hold where the program's text laid them; slices of acts, cell by cell. -/
namespace Go.Proofs.YtepgoppgblfjbaaGreatDoor
open Go.ChangeShapes Go.WideShapes Go.ChangeAt Go.RowKit Go.Deep

set_option maxRecDepth 100000 in
theorem gl_of {W : World} (h : laidMetH Tryz.prog Rows.followedRow.laid W) (hsh : W.ShapedOpen Tryz.prog) : Gl W := by
  rw [MakeChecks.laidMetH_plain _ _ _ (by kernel_rfl)] at h
  refine ⟨max_of hsh, ?_, ?_⟩
  · have h1 := h.filter (fun x => x.1 == "internal/strconv.uint64pow10")
    rw [show (Rows.followedRow.laid.filter (fun x => x.1 == "internal/strconv.uint64pow10")) = [("internal/strconv.uint64pow10", Lib.tabData .u64 Lib.pow10Tab)] by kernel_rfl] at h1
    exact Lib.tabIs_of_head (g := 0) (t := 397) (e := 229) (n := 20) (by kernel_rfl) (by kernel_rfl) (by kernel_rfl) (by kernel_rfl) (by kernel_rfl) (by kernel_rfl) h1
  · have h1 := h.filter (fun x => x.1 == "braid/object.kindWords")
    rw [show (Rows.followedRow.laid.filter (fun x => x.1 == "braid/object.kindWords")) = [("braid/object.kindWords", .agg (Sh.kindW.map fun s => .lit (.string s)))] by kernel_rfl] at h1
    obtain ⟨ps, ⟨g, t, cs, fuel, p, q, hg, ht, hv, hd, _, _⟩, _, _⟩ := h1
    obtain rfl := Option.some.inj ((show Tryz.prog.globalNamed "braid/object.kindWords" = some 2 by kernel_rfl).symm.trans hg)
    obtain rfl := Option.some.inj ((show (Tryz.prog.globals[2]?).map (·.type) = some 421 by kernel_rfl).symm.trans ht)
    have hu : Tryz.prog.underlying 421 = some (.array 5 9) := by kernel_rfl
    obtain ⟨xs, m, _, ex, hlen, hl, hel⟩ := DataW.trod_array hu hd
    have c9 : Tryz.prog.cellsOf 9 = 1 := by kernel_rfl
    intro j s hs
    have hj : j < 5 := (List.getElem?_eq_some_iff.1 hs).1
    have hE := hel j hj
    rw [c9, Nat.mul_one, List.getElem?_eq_getElem (by omega)] at hE
    obtain ⟨z, e1, e2, _⟩ := DataW.trod_string Tryz.underlying9 hE
    have e3 : (xs.map (·.1)) = Sh.kindW.map fun s => (DataW.lit (.string s) : DataW Unit) := (DataW.agg.inj (Prod.mk.inj ex).1).symm
    have e4 : (xs.map (·.1))[j]? = (Sh.kindW.map fun s => (DataW.lit (.string s) : DataW Unit))[j]? := by rw [e3]
    rw [List.getElem?_map, List.getElem?_map, List.getElem?_eq_getElem (by omega : j < xs.length), hs, e2] at e4
    have hz : z.data.toList = s := by
      simp only [Option.map_some, Option.some.injEq, DataW.lit.injEq, Lit.string.injEq] at e4
      exact e4
    rw [World.var?_cell hg hv j]
    have h0 : ((cs.toList.drop j).take 1)[0]? = some (.string z) := by rw [e1]; rfl
    have h1 : cs.toList[j]? = some (.string z) := by simpa using h0
    have hz2 : z = ⟨s.toArray⟩ := by
      rw [← hz]
    rw [← hz2]
    simpa using h1

/-- The acts that came in, cell by cell. -/
structure ActsAt (W : World) (a : Option Addr) (len : Nat) (f : Nat → Ac) : Prop where
  small : len ≤ maxLen
  ok : ∀ i, i < len → (f i).ok
  at' : len ≠ 0 → ∃ b off, a = some ⟨b, off, none⟩ ∧ ∀ i, i < len → ∀ j, j < 5 → W.cell? ⟨b, off + i * 5 + j, none⟩ = [Value.int .i64 (f i).K, .int .i64 (f i).A, .int .i64 (f i).B, .int .i64 (f i).C, .int .i64 (f i).D][j]?

theorem acts_of {H : Type} {enc : TypeId × Value → H} {W : World} {spare : Nat → Bool} {held : Bool} {fuel : Nat} {v : Value} {x : DataW H × List MemPlace}
    (h : DataW.trod enc Tryz.prog W 0 spare held fuel 25 [v] = some x) :
    ∃ (f : Nat → Ac) (a : Option Addr) (len cap : Nat), v = .slice a len cap ∧ ActsAt W a len f := by
  rcases open_slice Tryz.underlying25 h with ⟨hcs, _⟩ | ⟨a, len, cap, m, n, D, Pl, hcs, _, hl, hm, hmm, _, hel⟩
  · simp at hcs
    subst hcs
    exact ⟨fun _ => ⟨0, 0, 0, 0, 0⟩, none, 0, 0, rfl, by decide, fun i hi => absurd hi (by omega), fun h => absurd rfl h⟩
  · simp at hcs
    subst hcs
    by_cases h0 : len = 0
    · subst h0
      exact ⟨fun _ => ⟨0, 0, 0, 0, 0⟩, some a, 0, cap, rfl, by decide, fun i hi => absurd hi (by omega), fun h => absurd rfl h⟩
    · have hlm : len ≤ m := by rw [hmm]; split <;> omega
      rw [cells33] at hel
      have hel2 : ∀ i, i < len → ∃ c : Ac, c.ok ∧ W.cells? 0 (a.add (i * 5)) 5 = some [.int .i64 c.K, .int .i64 c.A, .int .i64 c.B, .int .i64 c.C, .int .i64 c.D] := by
        intro i hi
        obtain ⟨cs, h1, h2⟩ := hel i (by omega)
        obtain ⟨c, hc, rfl⟩ := act_of h2
        exact ⟨c, hc, h1⟩
      obtain ⟨f, hf⟩ : ∃ f : Nat → Ac, ∀ i, i < len → (f i).ok ∧ W.cells? 0 (a.add (i * 5)) 5 = some [.int .i64 (f i).K, .int .i64 (f i).A, .int .i64 (f i).B, .int .i64 (f i).C, .int .i64 (f i).D] := by
        have : Inhabited Ac := ⟨⟨0, 0, 0, 0, 0⟩⟩
        exact choose_lt hel2
      obtain ⟨b, off, spot⟩ := a
      have hspot : spot = none := by
        have hc := (World.cells?_some (hf 0 (by omega)).2).2.2 0 (by omega)
        simpa [Addr.add] using World.cell?_spot hc
      subst hspot
      have hadd : ∀ i j, ((⟨b, off, none⟩ : Addr).add (i * 5)).add j = ⟨b, off + i * 5 + j, none⟩ := by
        intro i j
        rw [add_add]
        unfold Addr.add; split <;> simp_all [Nat.add_assoc]
      have hcell : ∀ i, i < len → ∀ j, j < 5 → W.cell? ⟨b, off + i * 5 + j, none⟩ = [Value.int .i64 (f i).K, .int .i64 (f i).A, .int .i64 (f i).B, .int .i64 (f i).C, .int .i64 (f i).D][j]? := by
        intro i hi j hj
        rw [← hadd]
        exact (World.cells?_some (hf i hi).2).2.2 j hj
      exact ⟨f, some ⟨b, off, none⟩, len, cap, rfl, by omega, fun i hi => (hf i hi).1, fun _ => ⟨b, off, rfl, hcell⟩⟩

end Go.Proofs.YtepgoppgblfjbaaGreatDoor

/- The walk of Followed and its contract. -/
namespace Go.Proofs.YtepgoppgblfjbaaGreatDoor
open Go.ChangeShapes Go.WideShapes Go.ChangeAt Go.RowKit Go.Deep

set_option maxHeartbeats 6400000 in
set_option maxRecDepth 100000 in
theorem followed_none (a : Option Addr) (cap : Nat) (w : World) (hgl : Gl w) (h7 : 7 ≤ w.heap.size) :
    Calls Tryz.prog 6 #[.slice a 0 cap] w fun e w' => e = .returned (.bool true) ∧ Kx (fun _ => False) w w' := by
  go_enter Tryz.func6, Tryz.ntmps6
  go_wp2_with fail
  refine (imported_any w hgl h7).mono ?_
  rintro _ w1 ⟨rfl, hk1⟩
  have hgl1 := hgl.kept hk1 (fun _ _ => id)
  have h71 : 7 ≤ w1.heap.size := Nat.le_trans h7 hk1.size
  go_wp2_with fail
  refine (new_any (fun _ => False) w1 (fun _ h => h.elim) h71).mono ?_
  rintro _ w2 ⟨s, h, o, c, r, t, rfl, hN⟩
  have hC2 := FolC.start hk1 h7 (hgl1.kept hN.kx (fun _ _ => id)) hN
  clear hgl hgl1 h71 hN
  generalize (fun k => False ∨ k = s ∨ Fo o c r t k) = M0 at hC2
  go_wp2_with fail
  refine (paths_any _).mono ?_
  rintro _ w3 ⟨rfl, hL⟩
  have hC3 := hC2.kept (hL.kx _)
  clear hC2 hL hk1
  generalize w2.heap.size = pb at *
  go_wp2_with fail
  go_loopw [7, 6] (fun iv _ wr => iv = .int .i64 0 ∧ Kx (fun _ => False) w wr) (fun _ _ _ => 0)
  case atStart => exact ⟨rfl, hC3.kx⟩
  case round =>
    obtain ⟨rfl, hk⟩ := hrel
    go_wp2
    go_ret
    exact ⟨rfl, hk⟩

theorem followed_law (a : Option Addr) (len cap : Nat) (f : Nat → Ac) (w : World) (hgl : Gl w) (h7 : 7 ≤ w.heap.size) (hA : ActsAt w a len f) :
    Calls Tryz.prog 6 #[.slice a len cap] w fun e w' => e = .returned (.bool true) ∧ Below w.heap.size w w' := by
  have key : Calls Tryz.prog 6 #[.slice a len cap] w fun e w' => e = .returned (.bool true) ∧ Kx (fun _ => False) w w' := by
    by_cases h0 : len = 0
    · subst h0
      exact followed_none a cap w hgl h7
    · obtain ⟨b, off, rfl, hc⟩ := hA.at' h0
      exact followed_any b off len cap f w hgl h7 hA.small hA.ok (fun i hi => hc i hi 0 (by omega)) (fun i hi => hc i hi 3 (by omega)) (fun i hi => hc i hi 4 (by omega))
  refine key.mono ?_
  rintro e w' ⟨rfl, hk⟩
  exact ⟨rfl, hk.below (Nat.le_refl _) (fun _ _ => id)⟩

set_option maxRecDepth 100000 in
theorem followed_contract (H : Type) (enc : TypeId × Value → H) (W : World) (base : Nat) (args : Array Value) (ds gs : List (DataW H)) (before : List MemPlace)
    (hval : ∀ (j : Nat) t v, Tryz.f6.params[j]? = some t → args[j]? = some v → Value.okWide Tryz.prog W .any base t v)
    (hW : DataW.Whole enc Tryz.prog Tryz.f6.params.toList Rows.followedSpec.vars false W args.toList ds gs before) (_hweigh : (DataW.weightsEach Tryz.prog (Tryz.f6.params.toList ++ (OpenSpec.ofChange Rows.followedSpec).bare.plain.varTypes Tryz.prog) (ds ++ gs)).all (· ≤ reachBytes) = true) (hlaid : laidMetH Tryz.prog Rows.followedRow.laid W) (hsh : W.ShapedOpen Tryz.prog) :
    Calls Tryz.prog 6 args W fun e W' => ∃ v, e = .returned v ∧ Rows.followedSpec.post enc Tryz.prog Tryz.f6 false true false false W args v W' := by
  have hW' := hW
  obtain ⟨p, q, hA0, hV, rfl, hfz, hnd⟩ := hW
  have hA : DataW.TrodAll enc Tryz.prog W 0 (fun _ => true) true Tryz.f6.params.toList args.toList ds p := hA0
  rw [Tryz.params6] at hA hval
  obtain ⟨v0, vs0, d0, ds0, p0, q0, hargs, rfl, rfl, h0, r0⟩ := trodAll_cons hA
  obtain ⟨rfl, rfl, rfl⟩ := trodAll_nil r0
  obtain rfl : args = #[v0] := by cases args; simp_all
  obtain ⟨rfl, rfl⟩ := trodVars_none hV
  obtain ⟨a0, len0, cap0, rfl⟩ := okWide_slice Tryz.underlying25 (hval 0 25 v0 rfl rfl)
  have k0 := h0
  have lt0 : ∀ x ∈ p0, x.block < W.heap.size := by obtain ⟨m, hm⟩ := k0; exact DataW.trod_lt m _ _ _ hm
  obtain ⟨fuel, hf⟩ := h0
  obtain ⟨f, a, len, cap, hv, hacts⟩ := acts_of (by simpa [Value.cells] using hf)
  cases hv
  have hgl := gl_of hlaid hsh
  have h7 := size_of hsh
  clear hA0
  refine (followed_law _ _ _ f W hgl h7 hacts).mono fun e W' ⟨he, bel⟩ => ?_
  subst he
  exact ⟨_, rfl, _, _, _, [], _, [], hW', trodAll_mk1 (shut_bool Tryz.underlying4 _), (trodAll_cons_mk (Below.trod laidOut (by kernel_rfl) (of_decide_eq_true (by kernel_rfl)) k0 bel lt0) trodAll_mk0), rfl, bel.frame _, fun h => by cases h⟩

end Go.Proofs.YtepgoppgblfjbaaGreatDoor
