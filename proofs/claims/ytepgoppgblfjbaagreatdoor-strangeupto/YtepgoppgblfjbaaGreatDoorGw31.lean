import Derived.Test.YtepgoppgblfjbaaGreatDoorGw30
namespace Go.Proofs.YtepgoppgblfjbaaGreatDoor
open Go.RowKit

structure Sub (l' l : List Fi) (k : Nat) : Prop where
  len : l'.length ≤ k
  mem : ∀ g ∈ l', g ∈ l

theorem Sub.nil (l : List Fi) : Sub [] l 0 := ⟨Nat.le_refl _, fun g hg => by cases hg⟩
theorem Sub.next {l' l : List Fi} {k : Nat} (h : Sub l' l k) : Sub l' l (k + 1) := ⟨Nat.le_succ_of_le h.len, h.mem⟩
theorem Sub.app {l' l : List Fi} {k : Nat} {f : Fi} (h : Sub l' l k) (hf : f ∈ l) : Sub (l' ++ [f]) l (k + 1) :=
  ⟨by rw [List.length_append, List.length_singleton]; have := h.len; omega, fun g hg => (List.mem_append.1 hg).elim (h.mem g) (fun e => by rw [List.mem_singleton.1 e]; exact hf)⟩

set_option maxHeartbeats 1600000 in
set_option maxRecDepth 100000 in
theorem since_any (l b : List Fi) (vl vb : Value) (w : World) (hFl : Fs w vl l) (hFb : Fs w vb b) (hl : l.length ≤ 400) (hb : b.length ≤ 400) :
    Calls Tryz.prog 265 #[vl, vb] w fun e w' => (∃ vg lg vp lp, e = .returned (.tuple #[vg, vp]) ∧ w'.ownsRow w.heap.size 114 3 vg lg.length (cellsF lg) ∧ w'.ownsRow w.heap.size 114 3 vp lp.length (cellsF lp) ∧ Sub lg b b.length ∧ Sub lp l l.length) ∧ Kx (fun _ => False) w w' := by
  obtain ⟨i0, hi, hz0, hz1, hz2⟩ := info_parts info105
  obtain ⟨q1, c1, hv1, hc1, _⟩ := id hFl
  obtain ⟨q2, c2, hv2, hc2, _⟩ := id hFb
  subst hv1 hv2
  go_enter Tryz.func265, Tryz.ntmps265
  go_wp2
  go_loopw [12, 4] (fun iv v w' => ∃ (k : Nat) (lg : List Fi), iv = .int .i64 k ∧ k ≤ b.length ∧ Kx (fun _ => False) w w' ∧ w'.ownsRow w.heap.size 114 3 v lg.length (cellsF lg) ∧ Sub lg b k) (fun iv _ _ => b.length - (intOf iv).toNat)
  case atStart => exact ⟨0, [], rfl, by omega, Kx.refl _ _, World.ownsRow_nil _ _ _ _, Sub.nil _⟩
  case round =>
    obtain ⟨k, lg, rfl, hk, hkx, hown, hsub⟩ := hrel
    by_cases hlt : k < b.length
    · have hlt2 : (k : Int) < (b.length : Int) := by omega
      have hFr := hFb.kept hkx (fun _ _ => id)
      obtain ⟨g, o, c', he, p0, p1, p2⟩ := hFr.file k hlt
      cases he
      have e0 : o + k * 3 = o + 3 * k := by omega
      have hM : b[k] ∈ b := List.getElem_mem hlt
      generalize b[k] = f at *
      have HS1 : Hid (Sub lg b (k + 1)) := hsub.next
      have HS2 : Hid (Sub (lg ++ [f]) b (k + 1)) := hsub.app hM
      have hgl : lg.length ≤ 400 := by have := hsub.len; omega
      clear hsub hM
      obtain ⟨fp, fm, fs⟩ := f
      simp only at p0 p1 p2
      have hkA := hkx.alloc (.cells #[.string ⟨fp.toArray⟩, .string ⟨fm.toArray⟩, .string ⟨(Sh.hex fs).toArray⟩] 114)
      have hcall := has_any l fp _ _ (hFl.kept hkA (fun _ _ => id)) (by omega)
      go_wp2_with fail
      refine hcall.mono ?_
      rintro _ w2 ⟨⟨ob, rfl⟩, hk2⟩
      clear hcall
      have hk3 := hkA.trans hk2
      have hbx := (Cb.new #[.string ⟨fp.toArray⟩, .string ⟨fm.toArray⟩, .string ⟨(Sh.hex fs).toArray⟩] 114 wr).kept hk2 id
      have ho2 := own_kept' (hown.alloc (.cells #[.string ⟨fp.toArray⟩, .string ⟨fm.toArray⟩, .string ⟨(Sh.hex fs).toArray⟩] 114)) hk2 (fun _ _ _ => id)
      have y0 := Cb.cell hbx 0
      have y1 := Cb.cell hbx 1
      have y2 := Cb.cell hbx 2
      clear hk2
      cases ob
      · go_wp2_with (at_builtin; refine wpList_append_own _ rfl (.tmp 21) (.tmp 23) 107 rfl w.heap.size 114 i0 _ 3 48 Tryz.underlying107 hi hz0 hz1 hz2 rfl (by decide) _ lg.length (cellsF lg) rfl ?c0 ⟨w2.heap.size, 0, none⟩ 1 1 [.string ⟨fp.toArray⟩, .string ⟨fm.toArray⟩, .string ⟨(Sh.hex fs).toArray⟩] rfl rfl ?c1 ?c2 ?c3 ?c4 ?c5 ?_)
        case c0 => exact ho2.alloc _
        case c1 => exact cells_new w2 [.string ⟨fp.toArray⟩, .string ⟨fm.toArray⟩, .string ⟨(Sh.hex fs).toArray⟩] 114
        case c2 => simp [Value.oneCell']
        case c3 => unfold maxLen; omega
        case c4 => omega
        case c5 => have := hk3.size; simp; omega
        intro v4 w4 hown4 hgrow4 _
        have hk4 : Kx (fun _ => False) w w4 := (hk3.alloc _).grown hgrow4 (fun k he => (ho2.lt k he).1)
        have hown4' : w4.ownsRow w.heap.size 114 3 v4 (lg ++ [(⟨fp, fm, fs⟩ : Fi)]).length (cellsF (lg ++ [(⟨fp, fm, fs⟩ : Fi)])) := by
          rw [cellsF_app, List.length_append]; exact hown4
        clear hown4 hgrow4 y0 y1 y2 hbx
        go_wp2
        go_roundw
        case rel => exact ⟨k + 1, _, by go_num, hlt, hk4, hown4', HS2.out⟩
        case measure => simp [intOf]; omega
      · clear y0 y1 y2 hbx
        go_wp2
        go_roundw
        case rel => exact ⟨k + 1, _, by go_num, hlt, hk3, ho2, HS1.out⟩
        case measure => simp [intOf]; omega
    · obtain rfl : k = b.length := by omega
      have hlt2 : ¬ (b.length : Int) < (b.length : Int) := by omega
      have hFl1 := hFl.kept hkx (fun _ _ => id)
      have hFb1 := hFb.kept hkx (fun _ _ => id)
      go_wp2
      have HSg : Hid (Sub lg b b.length) := hsub
      clear hsub hlt2 hlt hk
      generalize wr = w1 at *
      go_loopw [28, 5] (fun iv v w' => ∃ (k : Nat) (lp : List Fi), iv = .int .i64 k ∧ k ≤ l.length ∧ Kx (fun _ => False) w1 w' ∧ w'.ownsRow w1.heap.size 114 3 v lp.length (cellsF lp) ∧ Sub lp l k) (fun iv _ _ => l.length - (intOf iv).toNat)
      case atStart => exact ⟨0, [], rfl, by omega, Kx.refl _ _, World.ownsRow_nil _ _ _ _, Sub.nil _⟩
      case round =>
        obtain ⟨k, lp, rfl, hk, hky, howp, hsub⟩ := hrel
        by_cases hlt : k < l.length
        · have hlt2 : (k : Int) < (l.length : Int) := by omega
          have hFr := hFl1.kept hky (fun _ _ => id)
          obtain ⟨g, o, c', he, p0, p1, p2⟩ := hFr.file k hlt
          cases he
          have e0 : o + k * 3 = o + 3 * k := by omega
          have hM : l[k] ∈ l := List.getElem_mem hlt
          generalize l[k] = f at *
          have HS1 : Hid (Sub lp l (k + 1)) := hsub.next
          have HS2 : Hid (Sub (lp ++ [f]) l (k + 1)) := hsub.app hM
          have hgl : lp.length ≤ 400 := by have := hsub.len; omega
          clear hsub hM
          obtain ⟨fp, fm, fs⟩ := f
          simp only at p0 p1 p2
          have hkA := hky.alloc (.cells #[.string ⟨fp.toArray⟩, .string ⟨fm.toArray⟩, .string ⟨(Sh.hex fs).toArray⟩] 114)
          have hcall := containsF_any b ⟨fp, fm, fs⟩ _ _ (hFb1.kept hkA (fun _ _ => id)) (by omega)
          unfold Fi.cells at hcall
          simp only at hcall
          go_wp2_with fail
          refine hcall.mono ?_
          rintro _ w2 ⟨⟨ob, rfl⟩, hk2⟩
          clear hcall
          have hk3 := hkA.trans hk2
          have hbx := (Cb.new #[.string ⟨fp.toArray⟩, .string ⟨fm.toArray⟩, .string ⟨(Sh.hex fs).toArray⟩] 114 wr).kept hk2 id
          have ho2 := own_kept' (howp.alloc (.cells #[.string ⟨fp.toArray⟩, .string ⟨fm.toArray⟩, .string ⟨(Sh.hex fs).toArray⟩] 114)) hk2 (fun _ _ _ => id)
          have y0 := Cb.cell hbx 0
          have y1 := Cb.cell hbx 1
          have y2 := Cb.cell hbx 2
          clear hk2
          cases ob
          · go_wp2_with (at_builtin; refine wpList_append_own _ rfl (.tmp 36) (.tmp 38) 107 rfl w1.heap.size 114 i0 _ 3 48 Tryz.underlying107 hi hz0 hz1 hz2 rfl (by decide) _ lp.length (cellsF lp) rfl ?d0 ⟨w2.heap.size, 0, none⟩ 1 1 [.string ⟨fp.toArray⟩, .string ⟨fm.toArray⟩, .string ⟨(Sh.hex fs).toArray⟩] rfl rfl ?d1 ?d2 ?d3 ?d4 ?d5 ?_)
            case d0 => exact ho2.alloc _
            case d1 => exact cells_new w2 [.string ⟨fp.toArray⟩, .string ⟨fm.toArray⟩, .string ⟨(Sh.hex fs).toArray⟩] 114
            case d2 => simp [Value.oneCell']
            case d3 => unfold maxLen; omega
            case d4 => omega
            case d5 => have := hk3.size; simp; omega
            intro v4 w4 hown4 hgrow4 _
            have hk4 : Kx (fun _ => False) w1 w4 := (hk3.alloc _).grown hgrow4 (fun k he => (ho2.lt k he).1)
            have hown4' : w4.ownsRow w1.heap.size 114 3 v4 (lp ++ [(⟨fp, fm, fs⟩ : Fi)]).length (cellsF (lp ++ [(⟨fp, fm, fs⟩ : Fi)])) := by
              rw [cellsF_app, List.length_append]; exact hown4
            clear hown4 hgrow4 y0 y1 y2 hbx
            go_wp2
            go_roundw
            case rel => exact ⟨k + 1, _, by go_num, hlt, hk4, hown4', HS2.out⟩
            case measure => simp [intOf]; omega
          · clear y0 y1 y2 hbx
            go_wp2
            go_roundw
            case rel => exact ⟨k + 1, _, by go_num, hlt, hk3, ho2, HS1.out⟩
            case measure => simp [intOf]; omega
        · obtain rfl : k = l.length := by omega
          have hlt2 : ¬ (l.length : Int) < (l.length : Int) := by omega
          have hog := own_kept' hown hky (fun _ _ _ => id)
          have hop := own_mono howp hkx.size
          have hkF := hkx.trans hky
          go_wp2
          go_ret2
          exact ⟨⟨_, lg, _, rfl, hog, lp, hop, HSg.out, hsub⟩, hkF⟩

def Sht (l : List Fi) : Prop := ∀ g ∈ l, g.path.length ≤ 60 ∧ g.sum.length = 32 ∧ g.mode.length ≤ 20

theorem Sht.of_less {l' l : List Fi} {k : Nat} (h : Less l' l k) (hf : Fine l) : Sht l' := fun g hg => ⟨h.short g hg, (hf g (h.mem g hg)).1, (hf g (h.mem g hg)).2.2⟩
theorem Sht.sub {l' l : List Fi} {k : Nat} (h : Sht l) (hs : Sub l' l k) : Sht l' := fun g hg => h g (hs.mem g hg)

def ChB (x : Chg) : Prop := x.m ≤ 1000000 ∧ x.mode.length ≤ 20 ∧ x.data.length ≤ 100 ∧ x.path.length ≤ 100 ∧ (x.word = [77] ∨ x.word = [68])

theorem info332 : (Tryz.prog.info? 332).map (fun i => (i.zero, i.size, i.bytes)) = some (some (.agg #[.string ⟨#[]⟩, .string ⟨#[]⟩, .int .i64 0, .string ⟨#[]⟩, .string ⟨#[]⟩, .string ⟨#[]⟩]), 6, 88) := by kernel_rfl

structure EcR (w w' : World) (v : Value) (cs : List Chg) (n : Nat) : Prop where
  own : w'.ownsRow w.heap.size 332 6 v cs.length (cs.flatMap chC1)
  len : cs.length ≤ n
  ok : ∀ x ∈ cs, ChB x
  kx : Kx (fun _ => False) w w'

theorem EcR.nil (w : World) : EcR w w (.slice none 0 0) [] 0 := ⟨World.ownsRow_nil _ _ _ _, Nat.le_refl _, (fun x hx => by cases hx), Kx.refl _ _⟩
theorem EcR.app {w w1 w2 : World} {v v' : Value} {cs : List Chg} {n : Nat} (h : EcR w w1 v cs n) {x : Chg} (hx : ChB x) (hk : Kx (fun _ => False) w w2) (ho : w2.ownsRow w.heap.size 332 6 v' (cs.length + 1) (cs.flatMap chC1 ++ chC1 x)) : EcR w w2 v' (cs ++ [x]) (n + 1) :=
  ⟨by rw [List.length_append, List.length_singleton, List.flatMap_append]; simpa using ho, by rw [List.length_append, List.length_singleton]; have := h.len; omega,
    fun y hy => (List.mem_append.1 hy).elim (h.ok y) (fun e => by rw [List.mem_singleton.1 e]; exact hx), hk⟩

set_option maxHeartbeats 3200000 in
set_option maxRecDepth 100000 in
theorem echanges_any {w0 w : World} {wk mk nm h : Nat} {vc : Value} {l : List Ocm} {tm : Bool} {n1 n2 : Nat} {f1 f2 : List UInt8 → Option Value} (e : Es w0 w wk mk nm h vc l tm n1 n2 f1 f2) (lg lp : List Fi) (vg vp : Value) (hFg : Fs w vg lg) (hFp : Fs w vp lp) (hg : lg.length ≤ 400) (hp : lp.length ≤ 400) (hsg : Sht lg) (hsp : Sht lp) :
    Calls Tryz.prog 269 #[.pointer (some ⟨wk, 0, none⟩), vg, vp] w fun x w' => ∃ v cs, x = .returned v ∧ EcR w w' v cs (lg.length + lp.length) := by
  have hmx : maxLen = 9223372036854775807 := rfl
  obtain ⟨i0, hi0, hz0, hz1, hz2⟩ := info_parts info332
  obtain ⟨q1, c1, hv1, hc1, _⟩ := id hFg
  obtain ⟨q2, c2, hv2, hc2, _⟩ := id hFp
  subst hv1 hv2
  have hwkl := e.ew.blk.lt
  have hmkl := e.ew.lt.1
  go_enter Tryz.func269, Tryz.ntmps269
  go_wp2
  go_loopw [14, 7] (fun iv v w' => ∃ (k : Nat) (cs : List Chg), iv = .int .i64 k ∧ k ≤ lg.length ∧ EcR w w' v cs k) (fun iv _ _ => lg.length - (intOf iv).toNat)
  case atStart => exact ⟨0, [], rfl, by omega, EcR.nil w⟩
  case round =>
    obtain ⟨k, cs, rfl, hk, hR⟩ := hrel
    have hkx := hR.kx
    by_cases hlt : k < lg.length
    · have hlt2 : (k : Int) < (lg.length : Int) := by omega
      have hFr := hFg.kept hkx (fun _ _ => id)
      obtain ⟨g, o, c', he, p0, p1, p2⟩ := hFr.file k hlt
      cases he
      have e0 : o + k * 3 = o + 3 * k := by omega
      have hS := hsg lg[k] (List.getElem_mem hlt)
      generalize lg[k] = f at *
      obtain ⟨fp, fm, fs⟩ := f
      simp only at p0 p1 p2 hS
      have hcl : cs.length ≤ 400 := by have := hR.len; omega
      have hkA := (hkx.alloc (.cells #[.string ⟨fp.toArray⟩, .string ⟨fm.toArray⟩, .string ⟨(Sh.hex fs).toArray⟩] 114)).alloc (.cells #[.string ⟨#[68]⟩, .string ⟨#[]⟩, .int .i64 0, .string ⟨#[]⟩, .string ⟨fp.toArray⟩, .string ⟨#[]⟩] 332)
      have hoA := (hR.own.alloc (.cells #[.string ⟨fp.toArray⟩, .string ⟨fm.toArray⟩, .string ⟨(Sh.hex fs).toArray⟩] 114)).alloc (.cells #[.string ⟨#[68]⟩, .string ⟨#[]⟩, .int .i64 0, .string ⟨#[]⟩, .string ⟨fp.toArray⟩, .string ⟨#[]⟩] 332)
      go_wp2_with (at_builtin; refine wpList_append_own _ rfl (.tmp 18) (.tmp 22) 156 rfl w.heap.size 332 i0 _ 6 88 Tryz.underlying156 hi0 hz0 hz1 hz2 rfl (by decide) _ cs.length (cs.flatMap chC1) rfl hoA ⟨wr.heap.size + 1, 0, none⟩ 1 1 (chC1 ⟨[68], [], 0, [], fp, []⟩) rfl rfl ?c1 ?c2 ?c3 ?c4 ?c5 ?_)
      case c1 =>
        have h := cells_new (wr.alloc (.cells #[.string ⟨fp.toArray⟩, .string ⟨fm.toArray⟩, .string ⟨(Sh.hex fs).toArray⟩] 114)) (chC1 ⟨[68], [], 0, [], fp, []⟩) 332
        rw [World.size_alloc] at h
        exact h
      case c2 => simp [Value.oneCell', chC1, chgV]
      case c3 => unfold maxLen; omega
      case c4 => omega
      case c5 => have := hkA.size; omega
      intro v4 w4 hown4 hgrow4 _
      have hk4 : Kx (fun _ => False) w w4 := hkA.grown hgrow4 (fun k he => (hR.own.lt k he).1)
      have hR4 := hR.app (x := ⟨[68], [], 0, [], fp, []⟩) ⟨Nat.zero_le _, Nat.zero_le _, Nat.zero_le _, (show fp.length ≤ 100 by omega), .inr rfl⟩ hk4 hown4
      clear hown4 hgrow4 hoA hkA
      go_wp2
      go_roundw
      case rel => exact ⟨k + 1, _, by go_num, hlt, hR4⟩
      case measure => simp [intOf]; omega
    · obtain rfl : k = lg.length := by omega
      have hlt2 : ¬ (lg.length : Int) < (lg.length : Int) := by omega
      go_wp2
      clear hlt2 hlt
      go_loopw [27, 7] (fun iv v w' => ∃ (k : Nat) (cs : List Chg), iv = .int .i64 k ∧ k ≤ lp.length ∧ EcR w w' v cs (lg.length + k)) (fun iv _ _ => lp.length - (intOf iv).toNat)
      case atStart => exact ⟨0, cs, rfl, by omega, hR⟩
      clear hR hkx cs hk
      case round =>
        obtain ⟨k, cs, rfl, hk, hR⟩ := hrel
        have hkx := hR.kx
        by_cases hlt : k < lp.length
        · have hlt2 : (k : Int) < (lp.length : Int) := by omega
          have hFr := hFp.kept hkx (fun _ _ => id)
          obtain ⟨g, o, c', he, p0, p1, p2⟩ := hFr.file k hlt
          cases he
          have e0 : o + k * 3 = o + 3 * k := by omega
          have hS := hsp lp[k] (List.getElem_mem hlt)
          generalize lp[k] = f at *
          obtain ⟨fp, fm, fs⟩ := f
          simp only at p0 p1 p2 hS
          have hcl : cs.length ≤ 800 := by have := hR.len; omega
          obtain ⟨av, cv, hav⟩ := row_shape hR.own
          subst hav
          have hkA := hkx.alloc (.cells #[.string ⟨fp.toArray⟩, .string ⟨fm.toArray⟩, .string ⟨(Sh.hex fs).toArray⟩] 114)
          have hbx := Cb.new #[.string ⟨fp.toArray⟩, .string ⟨fm.toArray⟩, .string ⟨(Sh.hex fs).toArray⟩] 114 wr
          have hoA := hR.own.alloc (.cells #[.string ⟨fp.toArray⟩, .string ⟨fm.toArray⟩, .string ⟨(Sh.hex fs).toArray⟩] 114)
          have eA := e.same hkA
          obtain ⟨q, hgv, hq⟩ := eA.ew.look (Sh.hex fs)
          have hmks := eA.ew.mks
          have b3 := Cb.cell eA.ew.blk 3
          have hidl : (Sh.hex fs).length ≤ maxLen := by rw [hex_len]; omega
          have hET : ∀ k, k < w.heap.size → ¬ (Value.slice av cs.length cv).ownBlock = some k := fun k hk x => by have := (hR.own.lt k x).1; omega
          have hbb : ¬ (Value.slice av cs.length cv).ownBlock = some wr.heap.size := fun x => by have := (hR.own.lt _ x).2; omega
          have HR : Hid (EcR w wr (.slice av cs.length cv) cs (lg.length + k)) := hR
          have hHS : Hid (fp.length ≤ 60 ∧ fs.length = 32 ∧ fm.length ≤ 20) := hS
          clear hR hFr hS
          go_wp2_with fail
          clear p0 p1 p2
          generalize wr.alloc (.cells #[.string ⟨fp.toArray⟩, .string ⟨fm.toArray⟩, .string ⟨(Sh.hex fs).toArray⟩] 114) = wA at *
          generalize wr.heap.size = bb at *
          refine wp_region_ord2 (C := fun w' => Kx (fun k => (Value.slice av cs.length cv).ownBlock = some k) wA w') [(0, true), (1, true), (2, true), (3, true), (4, true), (5, true), (6, true), (7, true), (8, true), (9, true), (10, true), (11, true), (12, true), (13, false), (14, false)] 15 (by kernel_rfl) (by kernel_rfl) rfl (Kx.refl _ _).drew ?_
          refine ord_val rfl (.slice av cs.length cv) (fun w' hC => by go_simp) ?_
          refine ord_val rfl (.pointer (some ⟨bb, 1, none⟩)) (fun w' hC => by go_simp) ?_
          refine ord_val rfl (.string ⟨fm.toArray⟩) (fun w' hC => by
            have hc0 : w'.cell? ⟨bb, 1, none⟩ = some (.string ⟨fm.toArray⟩) := Cb.cell (hbx.kept hC hbb) 1
            go_simp) ?_
          refine ord_val rfl (.pointer (some ⟨wk, 0, none⟩)) (fun w' hC => by go_simp) ?_
          refine ord_val rfl (.pointer (some ⟨wk, 0, none⟩)) (fun w' hC => by go_simp) ?_
          refine ord_val rfl (.pointer (some ⟨wk, 3, none⟩)) (fun w' hC => by go_simp) ?_
          refine ord_val rfl (.map (some mk)) (fun w' hC => by
            have hc0 := (hC.cell (p := ⟨wk, 3, none⟩) (lt_of_cell (p := ⟨wk, 3, none⟩) b3) (hET wk hwkl)).trans b3
            go_simp) ?_
          refine ord_val rfl (.pointer (some ⟨bb, 2, none⟩)) (fun w' hC => by go_simp) ?_
          refine ord_val rfl (.string ⟨(Sh.hex fs).toArray⟩) (fun w' hC => by
            have hc0 : w'.cell? ⟨bb, 2, none⟩ = some (.string ⟨(Sh.hex fs).toArray⟩) := Cb.cell (hbx.kept hC hbb) 2
            go_simp) ?_
          simp only [Act.put, sI, sS, sZ]
          refine ord_lookS (K := 9) rfl _ _ 196 rfl 3 under9 under196 (.int .i64 0) zero3 mk n1 f1 rfl (fun w' hC => hmks.kept hC (hET mk hmkl)) (Sh.hex fs) rfl hidl ?_
          rw [hgv]
          refine ord_val rfl (.pointer (some ⟨bb, 0, none⟩)) (fun w' hC => by go_simp) ?_
          refine ord_val rfl (.string ⟨fp.toArray⟩) (fun w' hC => by
            have hc0 : w'.cell? ⟨bb, 0, none⟩ = some (.string ⟨fp.toArray⟩) := Cb.cell (hbx.kept hC hbb) 0
            go_simp) ?_
          refine ord_val rfl (.agg #[.string ⟨#[77]⟩, .string ⟨fm.toArray⟩, .int .i64 (q : Int), .string ⟨#[]⟩, .string ⟨fp.toArray⟩, .string ⟨#[]⟩]) (fun w' hC => by go_simp) ?_
          simp only [Act.put, sI, sS, sZ]
          have hkd := (Kx.refl (fun _ => False) wA).drew
          have hkd2 := hkd.alloc (.cells #[.string ⟨#[77]⟩, .string ⟨fm.toArray⟩, .int .i64 (q : Int), .string ⟨#[]⟩, .string ⟨fp.toArray⟩, .string ⟨#[]⟩] 332)
          have hC1 : Kx (fun k => (Value.slice av cs.length cv).ownBlock = some k) wA (World.alloc { wA with drawn := wA.drawn + 1 } (.cells #[.string ⟨#[77]⟩, .string ⟨fm.toArray⟩, .int .i64 (q : Int), .string ⟨#[]⟩, .string ⟨fp.toArray⟩, .string ⟨#[]⟩] 332)) := hkd2.mono (fun _ _ x => x.elim)
          refine ord_run (w1 := World.alloc { wA with drawn := wA.drawn + 1 } (.cells #[.string ⟨#[77]⟩, .string ⟨fm.toArray⟩, .int .i64 (q : Int), .string ⟨#[]⟩, .string ⟨fp.toArray⟩, .string ⟨#[]⟩] 332)) rfl (.slice (some ⟨wA.heap.size, 0, none⟩) 1 1) (by go_simp) hC1 ?_
          simp only [Act.put, sI, sS, sZ]
          have hrow := own_kept' hoA hkd2 (fun _ _ _ => _root_.id)
          refine ord_step ?_
          refine wpList_append_own_at _ rfl (.tmp 31) (.tmp 44) 156 rfl w.heap.size 332 i0 _ 6 88 Tryz.underlying156 hi0 hz0 hz1 hz2 rfl (by decide) _ _ (cs.flatMap chC1) rfl hrow ⟨wA.heap.size, 0, none⟩ 1 1 (chC1 ⟨[77], fm, q, [], fp, []⟩) rfl rfl ?d1 ?d2 ?d3 ?d4 ?d5 ?_
          case d1 => exact cells_new { wA with drawn := wA.drawn + 1 } (chC1 ⟨[77], fm, q, [], fp, []⟩) 332
          case d2 => simp [Value.oneCell', chC1, chgV]
          case d3 => unfold maxLen; omega
          case d4 => omega
          case d5 => exact Nat.le_trans hkA.size hkd2.size
          intro v9 w9 hown9 hgr9 _ _
          have hC9 : Kx (fun k => (Value.slice av cs.length cv).ownBlock = some k) wA w9 := hC1.trans ((Kx.of_grown hgr9).mono (fun k _ x => x.symm))
          refine ⟨rfl, hC9, ?_⟩
          refine ord_nil ?_
          simp only [Act.put, sI, sS, sZ]
          have hk9 : Kx (fun _ => False) w w9 := hkA.join hC9 (fun k hk x => hET k hk x)
          have hR9 := HR.out.app (x := ⟨[77], fm, q, [], fp, []⟩) ⟨hq, (show fm.length ≤ 20 from hHS.out.2.2), Nat.zero_le _, (show fp.length ≤ 100 from Nat.le_trans hHS.out.1 (by decide)), .inl rfl⟩ hk9 hown9
          rw [Nat.add_assoc] at hR9
          clear hown9 hgr9 hC9 hC1 hrow hkd hkd2 eA hmks hoA hbx
          go_wp2
          go_roundw
          case rel => exact ⟨k + 1, _, by go_num, hlt, hR9⟩
          case measure => simp [intOf]; omega
        · obtain rfl : k = lp.length := by omega
          have hlt2 : ¬ (lp.length : Int) < (lp.length : Int) := by omega
          go_wp2
          go_ret
          exact ⟨_, rfl, cs, hR⟩

structure FlR (w w' : World) (v : Value) (l : List Fi) : Prop where
  own : w'.ownsRow w.heap.size 114 3 v l.length (cellsF l)
  len : l.length ≤ 60
  sht : Sht l
  kx : Kx (fun _ => False) w w'

set_option maxHeartbeats 1600000 in
set_option maxRecDepth 100000 in
theorem filesBefore_any {M : Nat → Prop} {w0 w : World} {wk mk nm h : Nat} {vc : Value} {l : List Ocm} {tm : Bool} {n1 n2 : Nat} {f1 f2 : List UInt8 → Option Value} (e : Es w0 w wk mk nm h vc l tm n1 n2 f1 f2) (cb : Nat) (hgd : Good M w0 cb) :
    Calls Tryz.prog 266 #[.pointer (some ⟨wk, 0, none⟩), .pointer (some ⟨cb, 0, none⟩)] w fun x w' => ∃ v l', x = .returned v ∧ FlR w w' v l' := by
  have hmx : maxLen = 9223372036854775807 := rfl
  obtain ⟨⟨x, id, v, fl, ap, cp, ps, au, msg, hcb0, _, _, _, hpar0, hpl, hgds, _⟩, _⟩ := hgd.out
  have hcb := hcb0.kept e.kx _root_.id
  have c4 := Cb.cell hcb 4
  clear hcb0 hcb
  cases ps with
  | nil =>
    simp only [List.length_nil] at c4
    go_enter Tryz.func266, Tryz.ntmps266
    go_wp2
    go_ret
    exact ⟨_, [], rfl, World.ownsRow_nil _ _ _ _, Nat.zero_le _, (fun g hg => by cases hg), Kx.refl _ _⟩
  | cons pb rest =>
    obtain ⟨gp, op, hap, _, _, hcl⟩ := hpar0 (by simp)
    subst hap
    have hcp0 := hcl 0 (ptrV pb) rfl
    have hcp := (e.kx.cell (p := ⟨gp, op + 0, none⟩) (lt_of_cell (p := ⟨gp, op + 0, none⟩) hcp0) _root_.id).trans hcp0
    unfold ptrV at hcp
    rw [Nat.add_zero] at hcp
    obtain ⟨⟨x2, id2, v2, fl2, ap2, cp2, ps2, au2, msg2, hpb0, hfs0, hfo, _, _, _, _, _⟩, _⟩ := (hgds pb (List.mem_cons_self ..)).out
    have hpb := hpb0.kept e.kx _root_.id
    have p3 := Cb.cell hpb 3
    have hfs := hfs0.kept e.kx (fun _ _ => _root_.id)
    have b1 := Cb.cell e.ew.blk 1
    have hlen : ¬ ((rest.length + 1 : Nat) : Int) = 0 := by omega
    have hlen2 : (((pb :: rest).length : Nat) : Int) = ((rest.length + 1 : Nat) : Int) := by simp
    have HF : Hid (FOk fl2) := hfo
    have hK : ∀ {w' : World} {p : Addr} {v : Value}, Kx (fun _ => False) w w' → w.cell? p = some v → w'.cell? p = some v := fun hk hc => (hk.cell (lt_of_cell hc) _root_.id).trans hc
    have hkd := (Kx.refl (fun _ => False) w).drew
    have hcall := rfiles_nil fl2 v2 _ (hfs.kept hkd (fun _ _ => _root_.id)) (by have := hfo.len; omega)
    clear hpb0 hpb hfs0 hcl hcp0 hfo hgds hpar0 hgd
    rw [List.length_cons] at c4
    go_enter Tryz.func266, Tryz.ntmps266
    go_wp2_with fail
    refine wp_region_ord2 (C := fun w' => Kx (fun _ => False) w w') [(0, true), (1, true), (2, true), (3, true), (4, true), (5, true), (6, true), (7, true), (8, true), (9, true), (10, true), (11, true), (12, true), (13, false)] 14 (by kernel_rfl) (by kernel_rfl) rfl hkd ?_
    refine ord_val rfl (.pointer (some ⟨wk, 0, none⟩)) (fun w' hC => by go_simp) ?_
    refine ord_val rfl (.pointer (some ⟨wk, 0, none⟩)) (fun w' hC => by go_simp) ?_
    refine ord_val rfl (.pointer (some ⟨wk, 1, none⟩)) (fun w' hC => by go_simp) ?_
    refine ord_val rfl (.slice none 0 0) (fun w' hC => by have hc0 := hK hC b1; go_simp) ?_
    refine ord_val rfl (.pointer (some ⟨cb, 0, none⟩)) (fun w' hC => by go_simp) ?_
    refine ord_val rfl (.pointer (some ⟨cb, 0, none⟩)) (fun w' hC => by go_simp) ?_
    refine ord_val rfl (.pointer (some ⟨cb, 4, none⟩)) (fun w' hC => by go_simp) ?_
    refine ord_val rfl (.slice (some ⟨gp, op, none⟩) (rest.length + 1) cp) (fun w' hC => by have hc0 := hK hC c4; go_simp) ?_
    refine ord_val rfl (.pointer (some ⟨gp, op, none⟩)) (fun w' hC => by go_simp) ?_
    refine ord_val rfl (.pointer (some ⟨pb, 0, none⟩)) (fun w' hC => by have hc0 := hK hC hcp; go_simp) ?_
    refine ord_val rfl (.pointer (some ⟨pb, 0, none⟩)) (fun w' hC => by go_simp) ?_
    refine ord_val rfl (.pointer (some ⟨pb, 3, none⟩)) (fun w' hC => by go_simp) ?_
    refine ord_val rfl v2 (fun w' hC => by have hc0 := hK hC p3; go_simp) ?_
    simp only [Act.put, sI, sS, sZ]
    refine ord_enter rfl 264 #[.slice none 0 0, v2] (by go_simp) ?_
    refine hcall.mono ?_
    rintro _ w3 ⟨⟨v', l', rfl, ho3, hl3⟩, hk3⟩
    have hkF := hkd.trans hk3
    have hF : FlR w w3 v' l' := ⟨ho3, Nat.le_trans hl3.len HF.out.len, Sht.of_less hl3 HF.out.fine, hkF⟩
    refine ⟨_, rfl, hkF, ?_⟩
    simp only [Act.put, sI, sS, sZ]
    refine ord_nil ?_
    clear hcall ho3 hl3 hk3
    go_wp2
    go_ret
    exact ⟨_, l', rfl, hF⟩

inductive OT
  | nil
  | val (k : Nat) (r : OT)
  | run (k : Nat) (r : OT)
  | two (j k : Nat) (r s : OT)

def OT.len : OT → Nat
  | .nil => 0
  | .val _ r => r.len + 1
  | .run _ r => r.len + 1
  | .two _ _ r _ => r.len + 1

section
variable {P : Program} {md : Region.Mode} {ops : Array Oper} {C : World → Prop}

def OrdT (P : Program) (l : List Oper) (C : World → Prop) (R : Act → World → Prop) : OT → Act → World → Prop
  | .nil, a, w => R a w
  | .val k r, a, w => ∃ o, l[k]? = some o ∧ ∃ v, ValIn P l.toArray C o v a ∧ OrdT P l C R r (a.put o.dst v) w
  | .run k r, a, w => ∃ o, l[k]? = some o ∧ wpList P l.toArray (fun x a' w' => x = .normal ∧ C w' ∧ OrdT P l C R r a' w') [o] a w
  | .two j k r s, a, w => (∃ o, l[j]? = some o ∧ wpList P l.toArray (fun x a' w' => x = .normal ∧ C w' ∧ OrdT P l C R r a' w') [o] a w) ∧ (∃ o, l[k]? = some o ∧ wpList P l.toArray (fun x a' w' => x = .normal ∧ C w' ∧ OrdT P l C R s a' w') [o] a w)

def lexT (md : Region.Mode) (ops : Array Oper) (z : Nat) : OT → Array Bool → Bool
  | .nil, listed => Region.ready md ops listed == [z] && (Region.ready md ops (listed.setIfInBounds z true)).isEmpty
  | .val k r, listed => (k != z && ((Region.ready md ops listed).contains k && (Region.free md ops listed k && reachB md ops ops.size z k))) && lexT md ops z r (listed.setIfInBounds k true)
  | .run k r, listed => (k != z && Region.ready md ops listed == [k]) && lexT md ops z r (listed.setIfInBounds k true)
  | .two j k r s, listed => ((j != z && k != z) && Region.ready md ops listed == [j, k]) && (decide (s.len = r.len) && (lexT md ops z r (listed.setIfInBounds j true) && lexT md ops z s (listed.setIfInBounds k true)))

theorem AnyD.ot {l : List Oper} {z : Nat} {oz : Oper} {Q : Exit → Act → World → Prop} (hoz : l.toArray[z]? = some oz) (hs : Region.noSelect l.toArray = true) :
    ∀ (t : OT) (listed : Array Bool) (a : Act) (w : World), Cl md l.toArray listed → C w → lexT md l.toArray z t listed = true → OrdT P l C (fun a' w' => wpList P l.toArray Q [oz] a' w') t a w → AnyD P md l.toArray C z Q t.len listed a w
  | .nil, listed, a, w, _, hC, hB, h => by
    have hB1 : lexOrd md l.toArray z [] listed = true := hB
    exact AnyD.ord hoz hs [] listed a w hC hB1 h
  | .val k r, listed, a, w, hcl, hC, hB, h => by
    simp only [lexT, Bool.and_eq_true, bne_iff_ne, ne_eq] at hB
    obtain ⟨⟨hkz, hr, hf, hwz⟩, hB'⟩ := hB
    have hkr : k ∈ Region.ready md l.toArray listed := by simpa using hr
    obtain ⟨o, hl, v, hy, hK⟩ := h
    have h0 : l.toArray[k]? = some o := by simpa using hl
    exact AnyD.first2 h0 hkz (fun listed hcl2 hr => getD_tf (reach_spec hcl2 k _ z hwz (fun oz2 hz2 e he hb => by
      obtain ⟨_, oz3, h3, hall⟩ := mem_ready.1 hr
      rw [hz2] at h3
      cases h3
      exact hall e he hb))) (Region.noSelect_spec hs) r.len listed a w hcl hC (Region.free_spec h0 hf) hkr hy (AnyD.ot hoz hs r _ _ w (hcl.step hkr) hC hB' hK)
  | .run k r, listed, a, w, hcl, hC, hB, h => by
    simp only [lexT, Bool.and_eq_true, beq_iff_eq, bne_iff_ne, ne_eq] at hB
    obtain ⟨⟨hkz, hr⟩, hB'⟩ := hB
    have hkr : k ∈ Region.ready md l.toArray listed := by rw [hr]; simp
    obtain ⟨o, hl, h⟩ := h
    have h0 : l.toArray[k]? = some o := by simpa using hl
    refine ⟨fun e => (by rw [hr] at e; cases e), fun i hi => ?_⟩
    rw [hr, List.mem_singleton] at hi
    subst hi
    exact ⟨hkz, wpOp_noQ (fun a' w' hk => ⟨hk.2.1, AnyD.ot hoz hs r _ a' w' (hcl.step hkr) hk.2.1 hB' hk.2.2⟩) (list_op (fun e _ _ he hq => he hq.1) h0 h)⟩
  | .two j k r s, listed, a, w, hcl, hC, hB, h => by
    simp only [lexT, Bool.and_eq_true, beq_iff_eq, bne_iff_ne, ne_eq, decide_eq_true_eq] at hB
    obtain ⟨⟨⟨hjz, hkz⟩, hr⟩, hlen, hB1, hB2⟩ := hB
    have hjr : j ∈ Region.ready md l.toArray listed := by rw [hr]; simp
    have hkr : k ∈ Region.ready md l.toArray listed := by rw [hr]; simp
    obtain ⟨⟨o1, hl1, h1⟩, o2, hl2, h2⟩ := h
    have h01 : l.toArray[j]? = some o1 := by simpa using hl1
    have h02 : l.toArray[k]? = some o2 := by simpa using hl2
    refine ⟨fun e => (by rw [hr] at e; cases e), fun i hi => ?_⟩
    rw [hr] at hi
    by_cases hij : i = j
    · subst hij
      exact ⟨hjz, wpOp_noQ (fun a' w' hk => ⟨hk.2.1, AnyD.ot hoz hs r _ a' w' (hcl.step hjr) hk.2.1 hB1 hk.2.2⟩) (list_op (fun e _ _ he hq => he hq.1) h01 h1)⟩
    · obtain rfl : i = k := by
        rcases List.mem_cons.1 hi with e | e
        · exact absurd e hij
        · exact List.mem_singleton.1 e
      exact ⟨hkz, wpOp_noQ (fun a' w' hk => ⟨hk.2.1, by
        have := AnyD.ot hoz hs s _ a' w' (hcl.step hkr) hk.2.1 hB2 hk.2.2
        rw [hlen] at this
        exact this⟩) (list_op (fun e _ _ he hq => he hq.1) h02 h2)⟩

def lexTB (ops : Array Oper) (z : Nat) (t : OT) : Bool := Region.noSelect ops && decide (t.len + 1 = ops.size) && lexT .any ops z t (Array.replicate ops.size false)

theorem wp_region_ot {id : Nat} {Q : Exit → Act → World → Prop} {a : Act} {w : World} {l : List Oper} {oz : Oper} (t : OT) (z : Nat) (hm : P.follows .mixedOrders = true) (hB : lexTB l.toArray z t = true) (hoz : l[z]? = some oz) (hC : C { w with drawn := w.drawn + 1 })
    (h : OrdT P l C (fun a'' w'' => wpList P l.toArray Q [oz] a'' w'') t a { w with drawn := w.drawn + 1 }) : (Code.region id l.toArray true).wp P Q a w := by
  simp only [lexTB, Bool.and_eq_true, decide_eq_true_eq] at hB
  obtain ⟨⟨hs, hn⟩, hlex⟩ := hB
  refine wp_region_any hm ?_
  have hcl0 : Cl .any l.toArray (Array.replicate l.toArray.size false) := fun y oy _ hl => by
    exfalso
    rcases Nat.lt_or_ge y l.toArray.size with h' | h'
    · simp at h'; simp [h'] at hl
    · simp at h'; simp [h'] at hl
  have H := AnyD.ot (md := .any) (Q := Q) (l := l) (z := z) (by simpa using hoz) hs t (Array.replicate l.toArray.size false) a { w with drawn := w.drawn + 1 } hcl0 hC hlex h
  have H2 := AnyD.any _ _ _ _ H
  rw [hn] at H2
  exact H2

variable {l : List Oper} {R : Act → World → Prop} {a : Act} {w : World} {o : Oper} {k : Nat} {r : OT}
theorem ot_nil (h : R a w) : OrdT P l C R .nil a w := h
theorem ot_val (hl : l[k]? = some o) (hg : o.guard = none) (v : Value) (hrun : ∀ w, C w → (execOp a.eval o).run P w = .ok (.value v) w) (h : OrdT P l C R r (a.put o.dst v) w) : OrdT P l C R (.val k r) a w := by
  obtain ⟨v2, h1, h2⟩ := ord_val (P := P) (ops := l.toArray) (C := C) (R := fun a' w' => OrdT P l C R r a' w') (r := []) (w := w) hg v hrun h
  exact ⟨o, hl, v2, h1, h2⟩
theorem ot_enter (hl : l[k]? = some o) (hg : o.guard = none) (f : Nat) (args : Array Value) (hrun : (execOp a.eval o).run P w = .ok (.enter f args) w)
    (h : Calls P f args w fun e w' => ∃ v, e = .returned v ∧ C w' ∧ OrdT P l C R r (a.put o.dst v) w') : OrdT P l C R (.run k r) a w :=
  ⟨o, hl, ord_enter (P := P) (ops := l.toArray) (C := C) (R := fun a' w' => OrdT P l C R r a' w') (r := []) hg f args hrun h⟩
theorem ot_run {w1 : World} (hl : l[k]? = some o) (hg : o.guard = none) (v : Value) (hrun : (execOp a.eval o).run P w = .ok (.value v) w1) (hC : C w1) (h : OrdT P l C R r (a.put o.dst v) w1) : OrdT P l C R (.run k r) a w := by
  refine ⟨o, hl, ?_⟩
  unfold wpList
  have hw : Region.wanted o (yielded l.toArray a.tmps) = true := by simp [Region.wanted, hg]
  rw [if_pos hw]
  refine .inl ?_
  unfold Oper.wp
  rw [hrun]
  exact ⟨rfl, hC, h⟩
theorem ot_two {j : Nat} {s : OT} (h1 : OrdT P l C R (.run j r) a w) (h2 : OrdT P l C R (.run k s) a w) : OrdT P l C R (.two j k r s) a w := ⟨h1, h2⟩
end

end Go.Proofs.YtepgoppgblfjbaaGreatDoor
