import Derived.Test.YtepgoppgblfjbaaGreatDoorGw19
namespace Go.Proofs.YtepgoppgblfjbaaGreatDoor
open Go.RowKit

theorem all_step (W : Wk) (c : Pu.Co) (r : List Pu.Co) (n : Nat) : Pd.all Sh.K W (c :: r) n = if (Pd.one Sh.K W c).1 = 0 then Pd.all Sh.K (Pd.one Sh.K W c).2 r (n + 1) else (((n : Int) + 1, (Pd.one Sh.K W c).1), W) := rfl

theorem one_blob (W : Wk) (c : Pu.Co) (h : c.word = [98, 108, 111, 98]) : Pd.one Sh.K W c = Pd.blob Sh.K W c := by
  unfold Pd.one
  rw [h]
  rfl
theorem one_commit (W : Wk) (c : Pu.Co) (h : c.word = [99, 111, 109, 109, 105, 116]) : Pd.one Sh.K W c = Pd.commit Sh.K W c := by
  unfold Pd.one
  rw [h]
  rfl
theorem one_tag (W : Wk) (c : Pu.Co) (h : c.word = [116, 97, 103]) : Pd.one Sh.K W c = Pd.tag Sh.K W c := by
  unfold Pd.one
  rw [h]
  rfl
theorem one_reset (W : Wk) (c : Pu.Co) (h : c.word = [114, 101, 115, 101, 116]) : Pd.one Sh.K W c = Pd.reset W c := by
  unfold Pd.one
  rw [h]
  rfl
theorem one_else (W : Wk) (c : Pu.Co) (h1 : ¬ c.word = [98, 108, 111, 98]) (h2 : ¬ c.word = [99, 111, 109, 109, 105, 116]) (h3 : ¬ c.word = [116, 97, 103]) (h4 : ¬ c.word = [114, 101, 115, 101, 116]) : Pd.one Sh.K W c = (1, W) := by
  unfold Pd.one Pu.sBlob Pu.sCommit Pu.sTag Pu.sReset
  rw [if_neg h1, if_neg h2, if_neg h3, if_neg h4]

theorem Sto.more {M : Nat → Prop} {w : World} {h o c r t n n' : Nat} {S : St} (hs : Sto M w h o c r t n S) (hn : n ≤ n') : Sto M w h o c r t n' S := by
  obtain ⟨f1, a1, b1⟩ := hs.com
  obtain ⟨f2, a2, b2⟩ := hs.ref
  obtain ⟨f3, a3, b3⟩ := hs.tag
  exact ⟨hs.hi, hs.obj.mono hn, ⟨f1, a1.mono hn, b1⟩, ⟨f2, a2.mono hn, b2⟩, ⟨f3, a3.mono hn, b3⟩, hs.inM, hs.outM, hs.sep, hs.lowM⟩

set_option maxHeartbeats 4000000 in
set_option maxRecDepth 100000 in
theorem do_any {M : Nat → Prop} {w : World} {h o c r t n : Nat} {S : St} (hs : Sto M w h o c r t n S) (hgl : Gl w) (cs : List Pu.Co) (hl : cs.length ≤ 60) (hok : ∀ x ∈ cs, CoOk x) (lo : Nat) (av : Option Addr) (cv : Nat) (hv : CosAt w lo (.slice av cs.length cv) cs) (hn : n + 800000 ≤ maxLen) :
    Calls Tryz.prog 51 #[.pointer (some ⟨h, 0, none⟩), .slice av cs.length cv] w fun e w' => e = .returned (.tuple #[.int .i64 (Pd.all Sh.K ⟨S, fun _ => none⟩ cs 0).1.1, .int .i64 (Pd.all Sh.K ⟨S, fun _ => none⟩ cs 0).1.2]) ∧
      ((Pd.all Sh.K ⟨S, fun _ => none⟩ cs 0).1.2 = 0 → Sto M w' h o c r t (n + 800000) (Pd.all Sh.K ⟨S, fun _ => none⟩ cs 0).2.st) ∧ (¬ (Pd.all Sh.K ⟨S, fun _ => none⟩ cs 0).1.2 = 0 → Kx (fun _ => False) w w') ∧ Kx (Fo o c r t) w w' := by
  obtain ⟨RR, hRR⟩ : ∃ RR, Pd.all Sh.K ⟨S, fun _ => none⟩ cs 0 = RR := ⟨_, rfl⟩
  rw [hRR]
  have HRR : Hid (Pd.all Sh.K ⟨S, fun _ => none⟩ cs 0 = RR) := hRR
  clear hRR
  obtain ⟨qq, cq, hqq, hcq, hvb, hrow⟩ := hv
  cases hqq
  have hmx : maxLen = 9223372036854775807 := rfl
  have hnw := newWork_any hs hgl
  have HS : Hid (Sto M w h o c r t n S) := hs
  clear hs
  go_enter Tryz.func51, Tryz.ntmps51
  go_wp2_with fail
  refine hnw.mono ?_
  rintro _ w1 ⟨B, rfl, hPast, hW1, hk1, hXlo⟩
  clear hnw
  have hX0 : ∀ {wa wb : World}, Kx (fun _ => False) w wa → Kx B.X wa wb → Kx (fun _ => False) w wb := fun ka kb => ka.andThen kb (fun j hj e => absurd (hXlo j e) (by omega))
  go_wp2
  go_loopw [16] (fun iv wr => ∃ (k : Nat) (W' : Wk), iv = .int .i64 k ∧ k ≤ cs.length ∧ Kx (fun _ => False) w wr ∧ Wrk (fun k => M k ∨ B.X k) wr B (13000 * k) S W' ∧ Hid (Pd.all Sh.K W' (cs.drop k) k = RR)) (fun iv _ => cs.length - (intOf iv).toNat)
  case atStart => exact ⟨0, _, rfl, by omega, hk1, hW1, HRR⟩
  case round =>
    obtain ⟨k, W', rfl, hk, hkx, hw, HQ⟩ := hrel
    by_cases hlt : k < cs.length
    · have hlt2 : (k : Int) < (cs.length : Int) := by omega
      obtain ⟨gb, go, rfl, hcell⟩ := hrow (fun e => by rw [e] at hlt; simp at hlt)
      obtain ⟨vm, vc, hcj, hS⟩ := hcell k hlt
      have hcok : CoOk cs[k] := hok cs[k] (List.getElem_mem hlt)
      have HD : Hid (cs.drop k = cs[k] :: cs.drop (k + 1)) := List.drop_eq_getElem_cons hlt
      have hcjr : ∀ j x, (coC cs[k] vm vc)[j]? = some x → wr.cell? ⟨gb, go + 11 * k + j, none⟩ = some x := fun j x hj => by
        have h1 := hcj j x hj
        rw [hkx.cell (p := ⟨gb, go + 11 * k + j, none⟩) (lt_of_cell (p := ⟨gb, go + 11 * k + j, none⟩) h1) id]
        exact h1
      generalize cs[k] = cmd at *
      obtain ⟨word, ref, mark, ⟨an, ama, at'⟩, data, ⟨fm, fr⟩, ms, chs⟩ := cmd
      obtain ⟨hSm, hSc, hSmb, hScb⟩ := hS
      simp only at hSm hSc
      have hSm' := hSm
      have hSc' := hSc
      obtain ⟨qm, cmm, rfl, _⟩ := hSm'
      obtain ⟨qc, ccc, rfl, _⟩ := hSc'
      have hxc : ∀ j, (Value.slice qc chs.length ccc).ownBlock = some j → ¬ B.X j := fun j e e2 => by
        have := (hScb j e).2
        have := hXlo j e2
        omega
      have hkA := hkx.alloc (.cells #[.string ⟨word.toArray⟩, .string ⟨ref.toArray⟩, .int .i64 mark, .string ⟨an.toArray⟩, .string ⟨ama.toArray⟩, .int .i64 at', .string ⟨data.toArray⟩, .int .i64 fm, .string ⟨fr.toArray⟩, .slice qm ms.length cmm, .slice qc chs.length ccc] 158)
      have hAx := (Kx.refl (fun _ => False) wr).alloc (.cells #[.string ⟨word.toArray⟩, .string ⟨ref.toArray⟩, .int .i64 mark, .string ⟨an.toArray⟩, .string ⟨ama.toArray⟩, .int .i64 at', .string ⟨data.toArray⟩, .int .i64 fm, .string ⟨fr.toArray⟩, .slice qm ms.length cmm, .slice qc chs.length ccc] 158)
      have hwA := hw.kept hAx
      have x0 : wr.cell? ⟨gb, go + k * 11, none⟩ = some (.string ⟨word.toArray⟩) := by rw [show go + k * 11 = go + 11 * k + 0 from by omega]; exact hcjr 0 _ rfl
      have x1 : wr.cell? ⟨gb, go + k * 11 + 1, none⟩ = some (.string ⟨ref.toArray⟩) := by rw [show go + k * 11 + 1 = go + 11 * k + 1 from by omega]; exact hcjr 1 _ rfl
      have x2 : wr.cell? ⟨gb, go + k * 11 + 2, none⟩ = some (.int .i64 mark) := by rw [show go + k * 11 + 2 = go + 11 * k + 2 from by omega]; exact hcjr 2 _ rfl
      have x3 : wr.cell? ⟨gb, go + k * 11 + 3, none⟩ = some (.string ⟨an.toArray⟩) := by rw [show go + k * 11 + 3 = go + 11 * k + 3 from by omega]; exact hcjr 3 _ rfl
      have x4 : wr.cell? ⟨gb, go + k * 11 + 4, none⟩ = some (.string ⟨ama.toArray⟩) := by rw [show go + k * 11 + 4 = go + 11 * k + 4 from by omega]; exact hcjr 4 _ rfl
      have x5 : wr.cell? ⟨gb, go + k * 11 + 5, none⟩ = some (.int .i64 at') := by rw [show go + k * 11 + 5 = go + 11 * k + 5 from by omega]; exact hcjr 5 _ rfl
      have x6 : wr.cell? ⟨gb, go + k * 11 + 6, none⟩ = some (.string ⟨data.toArray⟩) := by rw [show go + k * 11 + 6 = go + 11 * k + 6 from by omega]; exact hcjr 6 _ rfl
      have x7 : wr.cell? ⟨gb, go + k * 11 + 7, none⟩ = some (.int .i64 fm) := by rw [show go + k * 11 + 7 = go + 11 * k + 7 from by omega]; exact hcjr 7 _ rfl
      have x8 : wr.cell? ⟨gb, go + k * 11 + 8, none⟩ = some (.string ⟨fr.toArray⟩) := by rw [show go + k * 11 + 8 = go + 11 * k + 8 from by omega]; exact hcjr 8 _ rfl
      have x9 : wr.cell? ⟨gb, go + k * 11 + 9, none⟩ = some (.slice qm ms.length cmm) := by rw [show go + k * 11 + 9 = go + 11 * k + 9 from by omega]; exact hcjr 9 _ rfl
      have x10 : wr.cell? ⟨gb, go + k * 11 + 10, none⟩ = some (.slice qc chs.length ccc) := by rw [show go + k * 11 + 10 = go + 11 * k + 10 from by omega]; exact hcjr 10 _ rfl
      have hbx := Cb.new #[.string ⟨word.toArray⟩, .string ⟨ref.toArray⟩, .int .i64 mark, .string ⟨an.toArray⟩, .string ⟨ama.toArray⟩, .int .i64 at', .string ⟨data.toArray⟩, .int .i64 fm, .string ⟨fr.toArray⟩, .slice qm ms.length cmm, .slice qc chs.length ccc] 158 wr
      have hfind := find_any word (wr.alloc (.cells #[.string ⟨word.toArray⟩, .string ⟨ref.toArray⟩, .int .i64 mark, .string ⟨an.toArray⟩, .string ⟨ama.toArray⟩, .int .i64 at', .string ⟨data.toArray⟩, .int .i64 fm, .string ⟨fr.toArray⟩, .slice qm ms.length cmm, .slice qc chs.length ccc] 158))
      have HN : Hid (RR = if (Pd.one Sh.K W' ⟨word, ref, mark, ⟨an, ama, at'⟩, data, ⟨fm, fr⟩, ms, chs⟩).1 = 0 then Pd.all Sh.K (Pd.one Sh.K W' ⟨word, ref, mark, ⟨an, ama, at'⟩, data, ⟨fm, fr⟩, ms, chs⟩).2 (cs.drop (k + 1)) (k + 1) else (((k : Int) + 1, (Pd.one Sh.K W' ⟨word, ref, mark, ⟨an, ama, at'⟩, data, ⟨fm, fr⟩, ms, chs⟩).1), W')) := by
        show RR = _
        rw [← HQ.out, HD.out, all_step]
      clear HQ HD hcj hcjr hcell hw
      go_wp2_with fail
      refine hfind.mono ?_
      rintro _ w3 ⟨rfl, hk3⟩
      have hk03 := hkA.trans hk3
      have hw3 := hwA.kept hk3
      have hbx3 := hbx.kept hk3 id
      have hbl : wr.heap.size < w3.heap.size := hbx3.lt
      generalize wr.heap.size = bb at *
      have y0 : w3.cell? ⟨bb, 0, none⟩ = some (.string ⟨word.toArray⟩) := Cb.cell hbx3 0
      have y1 : w3.cell? ⟨bb, 1, none⟩ = some (.string ⟨ref.toArray⟩) := Cb.cell hbx3 1
      have y2 : w3.cell? ⟨bb, 2, none⟩ = some (.int .i64 mark) := Cb.cell hbx3 2
      have y3 : w3.cell? ⟨bb, 3, none⟩ = some (.string ⟨an.toArray⟩) := Cb.cell hbx3 3
      have y4 : w3.cell? ⟨bb, 4, none⟩ = some (.string ⟨ama.toArray⟩) := Cb.cell hbx3 4
      have y5 : w3.cell? ⟨bb, 5, none⟩ = some (.int .i64 at') := Cb.cell hbx3 5
      have y6 : w3.cell? ⟨bb, 6, none⟩ = some (.string ⟨data.toArray⟩) := Cb.cell hbx3 6
      have y7 : w3.cell? ⟨bb, 7, none⟩ = some (.int .i64 fm) := Cb.cell hbx3 7
      have y8 : w3.cell? ⟨bb, 8, none⟩ = some (.string ⟨fr.toArray⟩) := Cb.cell hbx3 8
      have y9 : w3.cell? ⟨bb, 9, none⟩ = some (.slice qm ms.length cmm) := Cb.cell hbx3 9
      have y10 : w3.cell? ⟨bb, 10, none⟩ = some (.slice qc chs.length ccc) := Cb.cell hbx3 10
      clear x0 x1 x2 x3 x4 x5 x6 x7 x8 x9 x10 hfind hbx hwA hk3 hkA hAx
      by_cases hw0 : word = [98, 108, 111, 98]
      · subst hw0
        have HRow : Hid (rowV [98, 108, 111, 98] = (.agg #[.string ⟨#[98, 108, 111, 98]⟩, .func (.func 164) #[] #[], .func (.func 165) #[] #[], .func (.func 166) #[] #[]], true)) := rfl
        rw [HRow.out]
        clear HRow
        have hA4 := (Kx.refl (fun _ => False) w3).alloc (.cells #[.string ⟨#[98, 108, 111, 98]⟩, .func (.func 164) #[] #[], .func (.func 165) #[] #[], .func (.func 166) #[] #[]] 163)
        have hw4 := hw3.kept hA4
        have hk04 := hk03.trans hA4
        have hdo := (doBlob_any hw4 (by omega) _ hcok qm qc ms.length cmm chs.length ccc)
        rw [← one_blob W' _ rfl] at hdo
        unfold coC at hdo
        simp only at hdo
        obtain ⟨RO, hRO⟩ : ∃ RO, Pd.one Sh.K W' ⟨[98, 108, 111, 98], ref, mark, ⟨an, ama, at'⟩, data, ⟨fm, fr⟩, ms, chs⟩ = RO := ⟨_, rfl⟩
        rw [hRO] at hdo
        have HN2 : Hid (RR = if RO.1 = 0 then Pd.all Sh.K RO.2 (cs.drop (k + 1)) (k + 1) else (((k : Int) + 1, RO.1), W')) := by
          have := HN.out
          rw [hRO] at this
          exact this
        clear hRO HN hA4 hw3
        obtain ⟨E, W2⟩ := RO
        simp only at *
        go_wp2_with fail
        refine hdo.mono ?_
        rintro _ w5 ⟨rfl, hw5, hk5⟩
        have hk05 := hX0 hk04 hk5
        simp only at hw5
        clear hdo hw4 hk04 hk5 y0 y1 y2 y3 y4 y5 y6 y7 y8 y9 y10 hbx3 hk03
        by_cases hE : E = 0
        · subst hE
          have HN3 : Hid (Pd.all Sh.K W2 (cs.drop (k + 1)) (k + 1) = RR) := by
            have := HN2.out
            rw [if_pos rfl] at this
            exact this.symm
          have hw6 := (hw5 rfl).mono (n' := 13000 * (k + 1)) (by omega)
          clear HN2 hw5
          go_wp2
          go_roundw
          case rel => exact ⟨k + 1, W2, by go_num, hlt, hk05, hw6, HN3⟩
          case measure => simp [intOf]; omega
        · have HN3 : Hid (RR = (((k : Int) + 1, E), W')) := by
            have := HN2.out
            rw [if_neg hE] at this
            exact this
          clear HN2 hw5
          go_wp2
          go_ret2
          rw [HN3.out]
          exact ⟨rfl, fun e => absurd e hE, fun _ => hk05, hk05.mono (fun _ _ h => h.elim)⟩
      by_cases hw1 : word = [99, 111, 109, 109, 105, 116]
      · subst hw1
        have HRow : Hid (rowV [99, 111, 109, 109, 105, 116] = (.agg #[.string ⟨#[99, 111, 109, 109, 105, 116]⟩, .func (.func 167) #[] #[], .func (.func 168) #[] #[], .func (.func 169) #[] #[]], true)) := rfl
        rw [HRow.out]
        clear HRow
        have hA4 := (Kx.refl (fun _ => False) w3).alloc (.cells #[.string ⟨#[99, 111, 109, 109, 105, 116]⟩, .func (.func 167) #[] #[], .func (.func 168) #[] #[], .func (.func 169) #[] #[]] 163)
        have hw4 := hw3.kept hA4
        have hk04 := hk03.trans hA4
        have hdo := (doCommit_any hw4 (by omega) _ hcok qm qc cmm ccc (hSm.kept hk04 (fun _ _ => id)) (hSc.kept hk04 (fun _ _ => id)) hxc)
        rw [← one_commit W' _ rfl] at hdo
        unfold coC at hdo
        simp only at hdo
        obtain ⟨RO, hRO⟩ : ∃ RO, Pd.one Sh.K W' ⟨[99, 111, 109, 109, 105, 116], ref, mark, ⟨an, ama, at'⟩, data, ⟨fm, fr⟩, ms, chs⟩ = RO := ⟨_, rfl⟩
        rw [hRO] at hdo
        have HN2 : Hid (RR = if RO.1 = 0 then Pd.all Sh.K RO.2 (cs.drop (k + 1)) (k + 1) else (((k : Int) + 1, RO.1), W')) := by
          have := HN.out
          rw [hRO] at this
          exact this
        clear hRO HN hA4 hw3
        obtain ⟨E, W2⟩ := RO
        simp only at *
        go_wp2_with fail
        refine hdo.mono ?_
        rintro _ w5 ⟨rfl, hw5, hk5⟩
        have hk05 := hX0 hk04 hk5
        simp only at hw5
        clear hdo hw4 hk04 hk5 y0 y1 y2 y3 y4 y5 y6 y7 y8 y9 y10 hbx3 hk03
        by_cases hE : E = 0
        · subst hE
          have HN3 : Hid (Pd.all Sh.K W2 (cs.drop (k + 1)) (k + 1) = RR) := by
            have := HN2.out
            rw [if_pos rfl] at this
            exact this.symm
          have hw6 := (hw5 rfl).mono (n' := 13000 * (k + 1)) (by omega)
          clear HN2 hw5
          go_wp2
          go_roundw
          case rel => exact ⟨k + 1, W2, by go_num, hlt, hk05, hw6, HN3⟩
          case measure => simp [intOf]; omega
        · have HN3 : Hid (RR = (((k : Int) + 1, E), W')) := by
            have := HN2.out
            rw [if_neg hE] at this
            exact this
          clear HN2 hw5
          go_wp2
          go_ret2
          rw [HN3.out]
          exact ⟨rfl, fun e => absurd e hE, fun _ => hk05, hk05.mono (fun _ _ h => h.elim)⟩
      by_cases hw2 : word = [116, 97, 103]
      · subst hw2
        have HRow : Hid (rowV [116, 97, 103] = (.agg #[.string ⟨#[116, 97, 103]⟩, .func (.func 170) #[] #[], .func (.func 171) #[] #[], .func (.func 172) #[] #[]], true)) := rfl
        rw [HRow.out]
        clear HRow
        have hA4 := (Kx.refl (fun _ => False) w3).alloc (.cells #[.string ⟨#[116, 97, 103]⟩, .func (.func 170) #[] #[], .func (.func 171) #[] #[], .func (.func 172) #[] #[]] 163)
        have hw4 := hw3.kept hA4
        have hk04 := hk03.trans hA4
        have hdo := (doTag_any hw4 (by omega) _ hcok qm qc ms.length cmm chs.length ccc)
        rw [← one_tag W' _ rfl] at hdo
        unfold coC at hdo
        simp only at hdo
        obtain ⟨RO, hRO⟩ : ∃ RO, Pd.one Sh.K W' ⟨[116, 97, 103], ref, mark, ⟨an, ama, at'⟩, data, ⟨fm, fr⟩, ms, chs⟩ = RO := ⟨_, rfl⟩
        rw [hRO] at hdo
        have HN2 : Hid (RR = if RO.1 = 0 then Pd.all Sh.K RO.2 (cs.drop (k + 1)) (k + 1) else (((k : Int) + 1, RO.1), W')) := by
          have := HN.out
          rw [hRO] at this
          exact this
        clear hRO HN hA4 hw3
        obtain ⟨E, W2⟩ := RO
        simp only at *
        go_wp2_with fail
        refine hdo.mono ?_
        rintro _ w5 ⟨rfl, hw5, hk5⟩
        have hk05 := hX0 hk04 hk5
        simp only at hw5
        clear hdo hw4 hk04 hk5 y0 y1 y2 y3 y4 y5 y6 y7 y8 y9 y10 hbx3 hk03
        by_cases hE : E = 0
        · subst hE
          have HN3 : Hid (Pd.all Sh.K W2 (cs.drop (k + 1)) (k + 1) = RR) := by
            have := HN2.out
            rw [if_pos rfl] at this
            exact this.symm
          have hw6 := (hw5 rfl).mono (n' := 13000 * (k + 1)) (by omega)
          clear HN2 hw5
          go_wp2
          go_roundw
          case rel => exact ⟨k + 1, W2, by go_num, hlt, hk05, hw6, HN3⟩
          case measure => simp [intOf]; omega
        · have HN3 : Hid (RR = (((k : Int) + 1, E), W')) := by
            have := HN2.out
            rw [if_neg hE] at this
            exact this
          clear HN2 hw5
          go_wp2
          go_ret2
          rw [HN3.out]
          exact ⟨rfl, fun e => absurd e hE, fun _ => hk05, hk05.mono (fun _ _ h => h.elim)⟩
      by_cases hw3' : word = [114, 101, 115, 101, 116]
      · subst hw3'
        have HRow : Hid (rowV [114, 101, 115, 101, 116] = (.agg #[.string ⟨#[114, 101, 115, 101, 116]⟩, .func (.func 173) #[] #[], .func (.func 174) #[] #[], .func (.func 175) #[] #[]], true)) := rfl
        rw [HRow.out]
        clear HRow
        have hA4 := (Kx.refl (fun _ => False) w3).alloc (.cells #[.string ⟨#[114, 101, 115, 101, 116]⟩, .func (.func 173) #[] #[], .func (.func 174) #[] #[], .func (.func 175) #[] #[]] 163)
        have hw4 := hw3.kept hA4
        have hk04 := hk03.trans hA4
        have hdo := (doReset_any hw4 (by omega) _ hcok qm qc ms.length cmm chs.length ccc)
        rw [← one_reset W' _ rfl] at hdo
        unfold coC at hdo
        simp only at hdo
        obtain ⟨RO, hRO⟩ : ∃ RO, Pd.one Sh.K W' ⟨[114, 101, 115, 101, 116], ref, mark, ⟨an, ama, at'⟩, data, ⟨fm, fr⟩, ms, chs⟩ = RO := ⟨_, rfl⟩
        rw [hRO] at hdo
        have HN2 : Hid (RR = if RO.1 = 0 then Pd.all Sh.K RO.2 (cs.drop (k + 1)) (k + 1) else (((k : Int) + 1, RO.1), W')) := by
          have := HN.out
          rw [hRO] at this
          exact this
        clear hRO HN hA4 hw3
        obtain ⟨E, W2⟩ := RO
        simp only at *
        go_wp2_with fail
        refine hdo.mono ?_
        rintro _ w5 ⟨rfl, hw5, hk5⟩
        have hk05 := hX0 hk04 hk5
        simp only at hw5
        clear hdo hw4 hk04 hk5 y0 y1 y2 y3 y4 y5 y6 y7 y8 y9 y10 hbx3 hk03
        by_cases hE : E = 0
        · subst hE
          have HN3 : Hid (Pd.all Sh.K W2 (cs.drop (k + 1)) (k + 1) = RR) := by
            have := HN2.out
            rw [if_pos rfl] at this
            exact this.symm
          have hw6 := (hw5 rfl).mono (n' := 13000 * (k + 1)) (by omega)
          clear HN2 hw5
          go_wp2
          go_roundw
          case rel => exact ⟨k + 1, W2, by go_num, hlt, hk05, hw6, HN3⟩
          case measure => simp [intOf]; omega
        · have HN3 : Hid (RR = (((k : Int) + 1, E), W')) := by
            have := HN2.out
            rw [if_neg hE] at this
            exact this
          clear HN2 hw5
          go_wp2
          go_ret2
          rw [HN3.out]
          exact ⟨rfl, fun e => absurd e hE, fun _ => hk05, hk05.mono (fun _ _ h => h.elim)⟩
      · have HRow : Hid (rowV word = (.agg #[.string ⟨#[]⟩, .nilFunc, .nilFunc, .nilFunc], false)) := by
          show _ = _
          unfold rowV
          rw [if_neg hw0, if_neg hw1, if_neg hw2, if_neg hw3']
        rw [HRow.out]
        clear HRow
        have HN3 : Hid (RR = (((k : Int) + 1, 1), W')) := by
          have := HN.out
          rw [one_else W' _ hw0 hw1 hw2 hw3', if_neg (by show ¬ ((1 : Int) = 0); decide)] at this
          exact this
        clear HN hw3
        have hk05 := hk03.alloc (.cells #[.string ⟨#[]⟩, .nilFunc, .nilFunc, .nilFunc] 163)
        go_wp2
        go_ret2
        rw [HN3.out]
        exact ⟨rfl, fun e => (by cases e), fun _ => hk05, hk05.mono (fun _ _ h => h.elim)⟩
    · obtain rfl : k = cs.length := by omega
      have hlt2 : ¬ (cs.length : Int) < (cs.length : Int) := by omega
      have HN3 : Hid (RR = (((cs.length : Int), 0), W')) := by
        have := HQ.out
        rw [List.drop_of_length_le (Nat.le_refl _)] at this
        exact this.symm
      have q0 : wr.cell? ⟨B.q, 0, none⟩ = some (.pointer (some ⟨B.d, 0, none⟩)) := Cb.cell hw.wq 0
      have hXM : ∀ k, B.X k → ¬ M k := fun k e m => by
        have h1 := hXlo k e
        have h2 := (HS.out.lowM k m).2
        omega
      have hkeep := keepW_any hw hPast (HS.out.kept hkx (fun _ _ h => h.elim) (fun _ _ => id)) (fun k e => .inl e) hXM (by omega)
      clear HQ hw
      go_wp2_with fail
      refine hkeep.mono ?_
      rintro _ w9 ⟨rfl, hs9, hk9⟩
      have hk09 : Kx (Fo o c r t) w w9 := (hkx.mono (fun _ _ h => h.elim)).trans hk9
      have hsF : Sto M w9 h o c r t (n + 800000) W'.st := hs9.more (by omega)
      clear hkeep q0 hs9 hk9
      go_wp2
      go_ret2
      rw [HN3.out]
      exact ⟨rfl, fun _ => hsF, fun e => absurd rfl e, hk09⟩

def zero32 : Array Value := #[.int .u8 0, .int .u8 0, .int .u8 0, .int .u8 0, .int .u8 0, .int .u8 0, .int .u8 0, .int .u8 0, .int .u8 0, .int .u8 0, .int .u8 0, .int .u8 0, .int .u8 0, .int .u8 0, .int .u8 0, .int .u8 0, .int .u8 0, .int .u8 0, .int .u8 0, .int .u8 0, .int .u8 0, .int .u8 0, .int .u8 0, .int .u8 0, .int .u8 0, .int .u8 0, .int .u8 0, .int .u8 0, .int .u8 0, .int .u8 0, .int .u8 0, .int .u8 0]

theorem conv_row {w : World} {k cap : Nat} {l : List UInt8} {t : TypeId} (h : Cb k (A8 l).toArray t w) : (convert 58 9 (.slice (some ⟨k, 0, none⟩) l.length cap)).run Tryz.prog w = .ok (.string ⟨l.toArray⟩) w := by
  refine run_convert_bytes_back (P := Tryz.prog) w 58 9 5 ⟨k, 0, none⟩ cap l Tryz.underlying58 Tryz.underlying5 Tryz.underlying9 ?_
  intro j hj
  have hadd : (⟨k, 0, none⟩ : Addr).add j = ⟨k, j, none⟩ := by unfold Addr.add; split <;> simp_all
  rw [hadd, Cb.cell h j]
  simp [A8, hj]

set_option maxHeartbeats 800000 in
set_option maxRecDepth 100000 in
theorem sealOf_any (cb : Nat) (bt : TypeId) (last s : List UInt8) (w : World) (hK : Cb cb (A32 Sh.K) bt w) (hl : last.length + s.length ≤ 100000) :
    Calls Tryz.prog 84 #[.pointer (some ⟨cb, 0, none⟩), .string ⟨last.toArray⟩, .string ⟨s.toArray⟩] w fun e w' => e = .returned (.string ⟨(Sh.ofK Sh.K (last ++ s)).toArray⟩) ∧ Kx (fun _ => False) w w' := by
  have hof := of_any Sh.K K72 (last ++ s) (by simp; omega) cb bt w hK
  have hol := ofK_len Sh.K (last ++ s)
  generalize Sh.ofK Sh.K (last ++ s) = x at *
  have hcat : ∀ a b : List UInt8, (⟨a.toArray⟩ : ByteArray) ++ ⟨b.toArray⟩ = ⟨(a ++ b).toArray⟩ := fun a b => by
    apply ByteArray.ext; simp
  have hmx : maxLen = 9223372036854775807 := rfl
  have hsz : (A8 x).toArray.size = 32 := by simp [A8_len, hol]
  have hi : (Tryz.prog.info? 231).map (·.size) = some (A8 x).toArray.size := by rw [hsz]; kernel_rfl
  have hall := A8_all x
  have HCV : ∀ W k, Cb k (A8 x).toArray 231 W → (convert 58 9 (.slice (some ⟨k, 0, none⟩) 32 32)).run Tryz.prog W = .ok (.string ⟨x.toArray⟩) W := fun W k h => by
    have := conv_row (cap := 32) h
    rw [hol] at this
    exact this
  obtain ⟨arr, harr⟩ : ∃ arr, (A8 x).toArray = arr := ⟨_, rfl⟩
  rw [harr] at hof hi hall hsz
  have HCV2 : Hid (∀ W k, Cb k arr 231 W → (convert 58 9 (.slice (some ⟨k, 0, none⟩) 32 32)).run Tryz.prog W = .ok (.string ⟨x.toArray⟩) W) := fun W k h => HCV W k (by rw [harr]; exact h)
  clear HCV harr
  go_enter Tryz.func84, Tryz.ntmps84
  go_wp2_with fail
  refine hof.mono ?_
  rintro _ w2 ⟨rfl, hk2⟩
  have hB0 := Cb.new zero32 231 w2
  have hk3 := hk2.alloc (.cells zero32 231)
  have hk4 : Kx (fun _ => False) w ((w2.alloc (.cells zero32 231)).setRow w2.heap.size arr) := hk3.setRow (fun h => absurd h (by have := hk2.size; omega)) arr
  have hcb := hB0.row arr
  have hcv := HCV2.out _ _ hcb
  have hzs : zero32.size = arr.size := by rw [hsz]; rfl
  unfold zero32 at *
  clear hof hcat
  go_wp2_with (refine wpList_storeAll _ rfl 231 _ _ rfl rfl rfl hB0 hi hzs hall ?_)
  go_ret
  exact ⟨rfl, hk4⟩

section
variable {P : Program} {md : Region.Mode} {ops : Array Oper} {C : World → Prop}

def AnyD (P : Program) (md : Region.Mode) (ops : Array Oper) (C : World → Prop) (z : Nat) (Q : Exit → Act → World → Prop) : Nat → Array Bool → Act → World → Prop
  | 0, listed, a, w => Region.ready md ops listed = [z] ∧ wpOp P ops Q z (fun a' w' => Region.ready md ops (listed.setIfInBounds z true) = [] ∧ Q .normal a' w') a w
  | f + 1, listed, a, w => Region.ready md ops listed ≠ [] ∧ ∀ i ∈ Region.ready md ops listed, i ≠ z ∧ wpOp P ops NoQ i (fun a' w' => C w' ∧ AnyD P md ops C z Q f (listed.setIfInBounds i true) a' w') a w

theorem AnyD.any {z : Nat} {Q : Exit → Act → World → Prop} : ∀ (f : Nat) (listed : Array Bool) (a : Act) (w : World), AnyD P md ops C z Q f listed a w → wpAny P md ops Q (f + 1) listed a w
  | 0, _, _, _, h => ⟨fun e => (by rw [h.1] at e; cases e), fun i hi => by
      rw [h.1, List.mem_singleton] at hi
      subst hi
      exact wpOp_mono (fun a' w' hk => ⟨hk.1, hk.2⟩) h.2⟩
  | f + 1, _, _, _, h => ⟨fun e => absurd e h.1, fun i hi => wpOp_noQ (fun a' w' hk => AnyD.any f _ a' w' hk.2) (h.2 i hi).2⟩

theorem AnyD.first {z : Nat} {Q : Exit → Act → World → Prop} {i : Nat} {oi : Oper} {v : Value} (hi : ops[i]? = some oi) (hiz : i ≠ z) (hz : ∀ listed : Array Bool, z ∈ Region.ready md ops listed → listed.getD i true = true) (hsel : ∀ (j : Nat) (o : Oper) cs b, ops[j]? = some o → o.op ≠ .select cs b) :
    ∀ (fuel : Nat) (listed : Array Bool) (a : Act) (w : World), C w →
      (∀ j oj, ops[j]? = some oj → j ≠ i → listed.getD j true = false → (∀ e ∈ oj.after, Region.binds md e = true → e.on ≠ i) → oi.apart ops oj = true) →
      i ∈ Region.ready md ops listed → ValIn P ops C oi v a →
      AnyD P md ops C z Q fuel (listed.setIfInBounds i true) (a.put oi.dst v) w → AnyD P md ops C z Q (fuel + 1) listed a w := by
  intro fuel
  induction fuel with
  | zero =>
    intro listed a w hC _ hr hy H
    refine ⟨fun h => (by rw [h] at hr; cases hr), fun j hj => ?_⟩
    by_cases hji : j = i
    · subst hji; exact ⟨hiz, hy.op hi hC ⟨hC, H⟩⟩
    · have h1 := ready_mono hj hji
      rw [H.1, List.mem_singleton] at h1
      subst h1
      have h2 := hz listed hj
      have h3 := (mem_ready.1 hr).1
      rw [h2] at h3
      cases h3
  | succ fuel ih =>
    intro listed a w hC hfree hr hy H
    refine ⟨fun h => (by rw [h] at hr; cases hr), fun j hj => ?_⟩
    by_cases hji : j = i
    · subst hji; exact ⟨hiz, hy.op hi hC ⟨hC, H⟩⟩
    · obtain ⟨hjz, h1⟩ := H.2 j (ready_mono hj hji)
      refine ⟨hjz, ?_⟩
      obtain ⟨hjun, oj, hoj, hall⟩ := mem_ready.1 hj
      have hnot : ∀ e ∈ oj.after, Region.binds md e = true → e.on ≠ i := fun e he hb heq => by
        have h1 := hall e he hb
        have h0 := (mem_ready.1 hr).1
        rw [heq] at h1
        rcases Nat.lt_or_ge i listed.size with h' | h'
        · simp [h'] at h0 h1; rw [h0] at h1; cases h1
        · simp [Array.getElem?_eq_none h'] at h1
      have h2 := putC hoj (hfree j oj hoj hji hjun hnot) (fun cs b => hsel i oi cs b hi) (fun cs b => hsel j oj cs b hoj) hy h1
      have hfree' : ∀ k ok, ops[k]? = some ok → k ≠ i → (listed.setIfInBounds j true).getD k true = false →
          (∀ e ∈ ok.after, Region.binds md e = true → e.on ≠ i) → oi.apart ops ok = true := fun k ok hk hki hun hno => by
        refine hfree k ok hk hki ?_ hno
        by_cases hjk : j = k
        · subst hjk; exact hjun
        · rw [getD_set_ne true hjk] at hun; exact hun
      refine wpOp_noQ (fun a' w' h3 => ⟨h3.2.1, ih (listed.setIfInBounds j true) a' w' h3.2.1 hfree' (ready_mono hr (Ne.symm hji)) h3.1 ?_⟩) h2
      rw [Array.setIfInBounds_comm _ _ hji]
      exact h3.2.2

def waitsOn (md : Region.Mode) (ops : Array Oper) (z i : Nat) : Bool :=
  match ops[z]? with
  | none => false
  | some oz => oz.after.any fun e => Region.binds md e && e.on == i

theorem waitsOn_spec {z i : Nat} {listed : Array Bool} (h : waitsOn md ops z i = true) (hr : z ∈ Region.ready md ops listed) : listed.getD i true = true := by
  obtain ⟨_, oz, hoz, hall⟩ := mem_ready.1 hr
  simp only [waitsOn, hoz] at h
  obtain ⟨e, he, h2⟩ := Array.any_eq_true'.1 h
  simp only [Bool.and_eq_true, beq_iff_eq] at h2
  have h3 := hall e he h2.1
  rw [h2.2] at h3
  rcases Nat.lt_or_ge i listed.size with h' | h'
  · simp [h'] at h3 ⊢
    exact h3
  · simp [Array.getElem?_eq_none h'] at h3

def OrdL (P : Program) (ops : Array Oper) (C : World → Prop) (R : Act → World → Prop) : List (Oper × Bool) → Act → World → Prop
  | [], a, w => R a w
  | (o, true) :: r, a, w => ∃ v, ValIn P ops C o v a ∧ OrdL P ops C R r (a.put o.dst v) w
  | (o, false) :: r, a, w => wpList P ops (fun x a' w' => x = .normal ∧ C w' ∧ OrdL P ops C R r a' w') [o] a w

def pickL (l : List Oper) : List (Nat × Bool) → List (Oper × Bool)
  | [] => []
  | x :: r => match l[x.1]? with | some o => (o, x.2) :: pickL l r | none => pickL l r

def lexOrd (md : Region.Mode) (ops : Array Oper) (z : Nat) : List (Nat × Bool) → Array Bool → Bool
  | [], listed => Region.ready md ops listed == [z] && (Region.ready md ops (listed.setIfInBounds z true)).isEmpty
  | x :: r, listed => (x.1 != z && (if x.2 then (Region.ready md ops listed).contains x.1 && (Region.free md ops listed x.1 && waitsOn md ops z x.1) else Region.ready md ops listed == [x.1])) && lexOrd md ops z r (listed.setIfInBounds x.1 true)

theorem AnyD.ord {l : List Oper} {z : Nat} {oz : Oper} {Q : Exit → Act → World → Prop} (hoz : l.toArray[z]? = some oz) (hs : Region.noSelect l.toArray = true) :
    ∀ (ord : List (Nat × Bool)) (listed : Array Bool) (a : Act) (w : World), C w → lexOrd md l.toArray z ord listed = true → OrdL P l.toArray C (fun a' w' => wpList P l.toArray Q [oz] a' w') (pickL l ord) a w → AnyD P md l.toArray C z Q ord.length listed a w
  | [], listed, a, w, _, hB, h => by
    simp only [lexOrd, Bool.and_eq_true, beq_iff_eq] at hB
    refine ⟨hB.1, ?_⟩
    have h' : wpList P l.toArray Q [oz] a w := h
    unfold wpList at h'
    unfold wpOp
    simp only [hoz]
    have he : Region.ready md l.toArray (listed.setIfInBounds z true) = [] := by simpa using hB.2
    split
    · rename_i hw
      simp only [hw, if_true] at h'
      rcases h' with h' | h'
      · exact .inl (Oper.wp_mono (fun a' w' hq => ⟨he, hq⟩) h')
      · exact .inr h'
    · rename_i hw
      simp only [hw] at h'
      exact ⟨he, h'⟩
  | (k, true) :: r, listed, a, w, hC, hB, h => by
    simp only [lexOrd, if_true, Bool.and_eq_true, bne_iff_ne, ne_eq] at hB
    obtain ⟨⟨hkz, hr, hf, hwz⟩, hB'⟩ := hB
    obtain ⟨_, o, h0, _⟩ := mem_ready.1 (show k ∈ Region.ready md l.toArray listed by simpa using hr)
    have hl : l[k]? = some o := by simpa using h0
    simp only [pickL, hl] at h
    obtain ⟨v, hy, hK⟩ := h
    exact AnyD.first h0 hkz (fun listed hr => waitsOn_spec hwz hr) (Region.noSelect_spec hs) r.length listed a w hC (Region.free_spec h0 hf) (by simpa using hr) hy (AnyD.ord hoz hs r _ _ w hC hB' hK)
  | (k, false) :: r, listed, a, w, hC, hB, h => by
    simp only [lexOrd, Bool.false_eq_true, if_false, Bool.and_eq_true, beq_iff_eq, bne_iff_ne, ne_eq] at hB
    obtain ⟨⟨hkz, hr⟩, hB'⟩ := hB
    obtain ⟨_, o, h0, _⟩ := mem_ready.1 (show k ∈ Region.ready md l.toArray listed by rw [hr]; simp)
    have hl : l[k]? = some o := by simpa using h0
    simp only [pickL, hl] at h
    refine ⟨fun e => (by rw [hr] at e; cases e), fun i hi => ?_⟩
    rw [hr, List.mem_singleton] at hi
    subst hi
    exact ⟨hkz, wpOp_noQ (fun a' w' hk => ⟨hk.2.1, AnyD.ord hoz hs r _ a' w' hk.2.1 hB' hk.2.2⟩) (list_op (fun e _ _ he hq => he hq.1) h0 h)⟩

def lexOrdB (ops : Array Oper) (z : Nat) (l : List (Nat × Bool)) : Bool := Region.noSelect ops && decide (l.length + 1 = ops.size) && lexOrd .any ops z l (Array.replicate ops.size false)

theorem wp_region_ord {id : Nat} {Q : Exit → Act → World → Prop} {a : Act} {w : World} {l : List Oper} {oz : Oper} (ord : List (Nat × Bool)) (z : Nat) (hm : P.follows .mixedOrders = true) (hB : lexOrdB l.toArray z ord = true) (hoz : l[z]? = some oz) (hC : C { w with drawn := w.drawn + 1 })
    (h : OrdL P l.toArray C (fun a'' w'' => wpList P l.toArray Q [oz] a'' w'') (pickL l ord) a { w with drawn := w.drawn + 1 }) : (Code.region id l.toArray true).wp P Q a w := by
  simp only [lexOrdB, Bool.and_eq_true, decide_eq_true_eq] at hB
  obtain ⟨⟨hs, hn⟩, hlex⟩ := hB
  refine wp_region_any hm ?_
  have H := AnyD.ord (md := .any) (Q := Q) (l := l) (z := z) (by simpa using hoz) hs ord (Array.replicate l.toArray.size false) a { w with drawn := w.drawn + 1 } hC hlex h
  have H2 := AnyD.any _ _ _ _ H
  rw [hn] at H2
  exact H2

theorem ord_nil {R : Act → World → Prop} {a : Act} {w : World} (h : R a w) : OrdL P ops C R [] a w := h

theorem ord_val {R : Act → World → Prop} {a : Act} {w : World} {o : Oper} {r : List (Oper × Bool)} (hg : o.guard = none) (v : Value) (hrun : ∀ w, C w → (execOp a.eval o).run P w = .ok (.value v) w) (h : OrdL P ops C R r (a.put o.dst v) w) : OrdL P ops C R ((o, true) :: r) a w :=
  ⟨v, ⟨by simp [Region.wanted, hg], hrun⟩, h⟩

theorem ord_step {R : Act → World → Prop} {a : Act} {w : World} {o : Oper} {r : List (Oper × Bool)} (h : wpList P ops (fun x a' w' => x = .normal ∧ C w' ∧ OrdL P ops C R r a' w') [o] a w) : OrdL P ops C R ((o, false) :: r) a w := h

theorem ord_enter {R : Act → World → Prop} {a : Act} {w : World} {o : Oper} {r : List (Oper × Bool)} (hg : o.guard = none) (f : Nat) (args : Array Value) (hrun : (execOp a.eval o).run P w = .ok (.enter f args) w)
    (hcall : Calls P f args w fun e w' => ∃ v, e = .returned v ∧ C w' ∧ OrdL P ops C R r (a.put o.dst v) w') : OrdL P ops C R ((o, false) :: r) a w := by
  unfold OrdL wpList
  have hw : Region.wanted o (yielded ops a.tmps) = true := by simp [Region.wanted, hg]
  rw [if_pos hw]
  refine .inl ?_
  unfold Oper.wp
  rw [hrun]
  refine Calls.mono hcall fun e w' he => ?_
  obtain ⟨v, rfl, h1, h2⟩ := he
  exact ⟨rfl, h1, h2⟩

theorem ord_valT {R : Act → World → Prop} {a : Act} {w : World} {o : Oper} {r : List (Oper × Bool)} (hg : o.guard = none) (v : Value) (hrun : (execOp a.eval o).run P w = .ok (.value v) w) (hC : C w) (h : OrdL P ops C R r (a.put o.dst v) w) : OrdL P ops C R ((o, false) :: r) a w := by
  unfold OrdL wpList
  have hw : Region.wanted o (yielded ops a.tmps) = true := by simp [Region.wanted, hg]
  rw [if_pos hw]
  refine .inl ?_
  unfold Oper.wp
  rw [hrun]
  exact ⟨rfl, hC, h⟩

end

structure Jr (w : World) (s : Nat) (p0 : Option Addr) (j : List UInt8) (vj : Value) : Prop where
  blk : Cb s #[.pointer p0, vj] 98 w
  own : OwnB w 7 5 vj (A8 j)
  ne : vj.ownBlock ≠ some s
  sized : j = [] ∨ 32 ≤ j.length

theorem Jr.kept {X : Nat → Prop} {w w' : World} {s : Nat} {p0 : Option Addr} {j : List UInt8} {vj : Value} (h : Jr w s p0 j vj) (hk : Kx X w w') (hs : ¬ X s) (hv : ∀ k, vj.ownBlock = some k → ¬ X k) : Jr w' s p0 j vj :=
  ⟨h.blk.kept hk hs, h.own.kept hk (fun k _ e => hv k e), h.ne, h.sized⟩

theorem conv_mid {w : World} {g o cap n : Nat} {l : List UInt8} (hn : n = l.length) (h : ∀ i x, l[i]? = some x → w.cell? ⟨g, o + i, none⟩ = some (.int .u8 (x.toNat : Int))) : (convert 58 9 (.slice (some ⟨g, o, none⟩) n cap)).run Tryz.prog w = .ok (.string ⟨l.toArray⟩) w := by
  subst hn
  refine run_convert_bytes_back (P := Tryz.prog) w 58 9 5 ⟨g, o, none⟩ cap l Tryz.underlying58 Tryz.underlying5 Tryz.underlying9 ?_
  intro j hj
  have hadd : (⟨g, o, none⟩ : Addr).add j = ⟨g, o + j, none⟩ := by unfold Addr.add; split <;> simp_all
  rw [hadd]
  exact h j _ (by simp [hj])

set_option maxHeartbeats 800000 in
set_option maxRecDepth 100000 in
theorem lastSeal_any (s : Nat) (p0 : Option Addr) (j : List UInt8) (vj : Value) (w : World) (h : Jr w s p0 j vj) :
    Calls Tryz.prog 85 #[.pointer (some ⟨s, 1, none⟩)] w fun e w' => e = .returned (.string ⟨(Pd.lastSeal j).toArray⟩) ∧ Kx (fun _ => False) w w' := by
  have c1 : w.cell? ⟨s, 1, none⟩ = some vj := Cb.cell h.blk 1
  have hmx : maxLen = 9223372036854775807 := rfl
  rcases h.sized with rfl | hj
  · obtain ⟨av, cv, rfl⟩ := h.own.slice
    have hl0 : (A8 []).length = 0 := rfl
    rw [hl0] at c1
    go_enter Tryz.func85, Tryz.ntmps85
    go_wp2
    go_ret
    exact ⟨rfl, Kx.refl _ _⟩
  · have hown := h.own
    obtain ⟨g, cap, hvj, hg1, hg2, hgc, hcell⟩ := h.own.cell (fun e => by have := A8_len j; rw [e] at this; simp at this; omega)
    rw [A8_len] at hvj hgc
    have hblk := h.blk
    have HL : Hid (Pd.lastSeal j = j.drop (j.length - 32)) := rfl
    have hdl : (j.drop (j.length - 32)).length = 32 := by rw [List.length_drop]; omega
    subst hvj
    have hjl : j.length ≤ 9223372036854775807 := by
      rcases hown with ⟨_, e⟩ | ⟨_, _, _, _, _, _, _, _, h1, h2, _⟩
      · have := A8_len j
        rw [e] at this
        simp at this
        omega
      · rw [A8_len] at h1
        omega
    have hcj : ∀ W, Kx (fun _ => False) w W → ∀ i x, (j.drop (j.length - 32))[i]? = some x → W.cell? ⟨g, j.length - 32 + i, none⟩ = some (.int .u8 (x.toNat : Int)) := fun W hW i x hx => by
      have h1 := hcell (j.length - 32 + i) (.int .u8 (x.toNat : Int)) (by
        rw [List.getElem?_drop] at hx
        simp [A8, hx])
      rw [hW.cell (p := ⟨g, j.length - 32 + i, none⟩) hg2 id]
      exact h1
    generalize Pd.lastSeal j = ls at *
    have hne0 : ¬ (j.length : Int) = 0 := by omega
    clear hcell
    go_enter Tryz.func85, Tryz.ntmps85
    go_wp2_with fail
    refine wp_region_quiet_tail (C := fun w' => Kx (fun _ => False) w w') 10 (by kernel_rfl) (by kernel_rfl) (Kx.refl _ _).drew ?_
    refine quiet_val rfl (.pointer (some ⟨s, 1, none⟩)) (fun w' hC => by go_simp) ?_
    refine quiet_val rfl (.pointer (some ⟨s, 1, none⟩)) (fun w' hC => by go_simp) ?_
    refine quiet_val rfl (.pointer (some ⟨s, 1, none⟩)) (fun w' hC => by go_simp) ?_
    refine quiet_val rfl (.slice (some ⟨g, 0, none⟩) j.length cap) (fun w' hC => by
      have hc0 : w'.cell? ⟨s, 1, none⟩ = some (.slice (some ⟨g, 0, none⟩) j.length cap) := Cb.cell (hblk.kept hC id) 1
      go_simp) ?_
    refine quiet_val rfl (.pointer (some ⟨s, 1, none⟩)) (fun w' hC => by go_simp) ?_
    refine quiet_val rfl (.pointer (some ⟨s, 1, none⟩)) (fun w' hC => by go_simp) ?_
    refine quiet_val rfl (.pointer (some ⟨s, 1, none⟩)) (fun w' hC => by go_simp) ?_
    refine quiet_val rfl (.slice (some ⟨g, 0, none⟩) j.length cap) (fun w' hC => by
      have hc0 : w'.cell? ⟨s, 1, none⟩ = some (.slice (some ⟨g, 0, none⟩) j.length cap) := Cb.cell (hblk.kept hC id) 1
      go_simp) ?_
    refine quiet_val rfl (.int .i64 (j.length : Int)) (fun w' hC => by go_simp) ?_
    refine quiet_val rfl (.int .i64 ((j.length : Int) - 32)) (fun w' hC => by go_simp; rw [IntKind.wrap_i64]; omega) ?_
    refine wpQuiet_nil (fun w' hC => ?_)
    simp only [Act.put, sI, sS, sZ, List.drop_succ_cons, List.drop_zero]
    have hcv : (convert 58 9 (.slice (some ⟨g, j.length - 32, none⟩) (j.length - (j.length - 32)) (cap - (j.length - 32)))).run Tryz.prog w' = .ok (.string ⟨(j.drop (j.length - 32)).toArray⟩) w' := conv_mid (by rw [List.length_drop]) (hcj w' hC)
    rw [← HL.out] at hcv
    clear hcj hdl
    go_wp2
    go_ret
    exact ⟨rfl, hC⟩

end Go.Proofs.YtepgoppgblfjbaaGreatDoor
