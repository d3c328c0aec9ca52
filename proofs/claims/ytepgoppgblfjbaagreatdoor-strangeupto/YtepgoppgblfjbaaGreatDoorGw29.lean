import Derived.Test.YtepgoppgblfjbaaGreatDoorGw28
namespace Go.Proofs.YtepgoppgblfjbaaGreatDoor
open Go.RowKit

theorem own_keptB {base : Nat} {e : TypeId} {size : Nat} {v : Value} {n : Nat} {xs : List Value} {X : Nat → Prop} {w w' : World} (h : w.ownsRow base e size v n xs) (hk : Kx X w w') (hX : ∀ k, v.ownBlock = some k → ¬ X k) : w'.ownsRow base e size v n xs := by
  refine ⟨h.1, ?_⟩
  rcases h.2 with hn | ⟨g, cap, cur, rfl, hbg, hgg, rest⟩
  · exact .inl hn
  · refine .inr ⟨g, cap, cur, rfl, hbg, ?_, rest⟩
    have hl := (Array.getElem?_eq_some_iff.1 hgg).1
    rw [hk.block g hl (hX g rfl)]
    exact hgg

def ET (wk mk nm : Nat) (vc : Value) : Nat → Prop := fun k => k = wk ∨ k = mk ∨ k = nm ∨ vc.ownBlock = some k

structure Ew (w : World) (wk mk nm h : Nat) (vc : Value) (l : List Ocm) (tm : Bool) (n1 n2 : Nat) (f1 f2 : List UInt8 → Option Value) : Prop where
  blk : Cb wk #[.pointer (some ⟨h, 0, none⟩), .slice none 0 0, vc, .map (some mk), .map (some nm), .bool tm] 198 w
  row : w.ownsRow 7 158 11 vc l.length (l.flatMap ocC)
  mks : MapS Tryz.prog 9 w mk n1 f1
  nms : MapS Tryz.prog 9 w nm n2 f2
  v1 : ∀ k v, f1 k = some v → ∃ q : Nat, v = .int .i64 (q : Int) ∧ q ≤ 1000000
  v2 : ∀ k v, f2 k = some v → ∃ q : Nat, v = .int .i64 (q : Int) ∧ q ≤ 1000000
  few : l.length ≤ 60
  ok : ∀ c ∈ l, OcOk w (fun k => ¬ ET wk mk nm vc k ∧ k < w.heap.size) c
  sep : wk ≠ mk ∧ wk ≠ nm ∧ mk ≠ nm ∧ ∀ k, vc.ownBlock = some k → k ≠ wk ∧ k ≠ mk ∧ k ≠ nm
  low : 7 ≤ wk ∧ 7 ≤ mk ∧ 7 ≤ nm
  lt : mk < w.heap.size ∧ nm < w.heap.size

theorem Ew.same {w w' : World} {wk mk nm h : Nat} {vc : Value} {l : List Ocm} {tm : Bool} {n1 n2 : Nat} {f1 f2 : List UInt8 → Option Value} (e : Ew w wk mk nm h vc l tm n1 n2 f1 f2) (hk : Kx (fun _ => False) w w') : Ew w' wk mk nm h vc l tm n1 n2 f1 f2 :=
  { blk := e.blk.kept hk id, row := own_kept' e.row hk (fun _ _ _ => id), mks := e.mks.kept hk id, nms := e.nms.kept hk id, v1 := e.v1, v2 := e.v2, few := e.few,
    ok := fun c hc => ((e.ok c hc).kept hk (fun _ _ => id)).mono (fun _ hl => ⟨hl.1, Nat.lt_of_lt_of_le hl.2 hk.size⟩), sep := e.sep, low := e.low, lt := ⟨Nat.lt_of_lt_of_le e.lt.1 hk.size, Nat.lt_of_lt_of_le e.lt.2 hk.size⟩ }

theorem Ew.much {w : World} {wk mk nm h : Nat} {vc : Value} {l : List Ocm} {tm : Bool} {n1 n2 : Nat} {f1 f2 : List UInt8 → Option Value} (e : Ew w wk mk nm h vc l tm n1 n2 f1 f2) :
    Ew (w.setCell ⟨wk, 5, none⟩ (.bool true)) wk mk nm h vc l true n1 n2 f1 f2 ∧ Kx (Only wk) w (w.setCell ⟨wk, 5, none⟩ (.bool true)) := by
  have hk : Kx (Only wk) w (w.setCell ⟨wk, 5, none⟩ (.bool true)) := (Kx.refl _ _).only_set _
  refine ⟨?_, hk⟩
  have hs := e.sep
  refine { blk := e.blk.set 5 _, row := own_keptB e.row hk (fun k e1 e2 => (hs.2.2.2 k e1).1 e2), mks := e.mks.kept hk (fun q => hs.1 q.symm), nms := e.nms.kept hk (fun q => hs.2.1 q.symm), v1 := e.v1, v2 := e.v2, few := e.few, ok := fun c hc => ?_, sep := e.sep, low := e.low, lt := ⟨Nat.lt_of_lt_of_le e.lt.1 hk.size, Nat.lt_of_lt_of_le e.lt.2 hk.size⟩ }
  exact ((e.ok c hc).kept hk (fun _ hl q => hl.1 (.inl q))).mono (fun _ hl => ⟨hl.1, Nat.lt_of_lt_of_le hl.2 hk.size⟩)

def AddR (w w' : World) (wk mk nm h : Nat) (vc : Value) (l : List Ocm) (tm : Bool) (n1 n2 : Nat) (f1 f2 : List UInt8 → Option Value) : Prop :=
  ∃ vc' l' tm', Ew w' wk mk nm h vc' l' tm' n1 n2 f1 f2 ∧ Kx (ET wk mk nm vc) w w' ∧ (∀ k, vc'.ownBlock = some k → vc.ownBlock = some k ∨ w.heap.size ≤ k) ∧
    (tm = true → tm' = true ∧ l'.length = l.length) ∧ (tm = false → (tm' = false ∧ l'.length = l.length + 1) ∨ (tm' = true ∧ l'.length = l.length))

theorem info158 : (Tryz.prog.info? 158).map (fun i => (i.zero, i.size, i.bytes)) = some (some (.agg #[.string ⟨#[]⟩, .string ⟨#[]⟩, .int .i64 0, .string ⟨#[]⟩, .string ⟨#[]⟩, .int .i64 0, .string ⟨#[]⟩, .int .i64 0, .string ⟨#[]⟩, .slice none 0 0, .slice none 0 0]), 11, 168) := by kernel_rfl

theorem Ew.grown {w w1 w' : World} {wk mk nm h : Nat} {vc vc' : Value} {l : List Ocm} {n1 n2 : Nat} {f1 f2 : List UInt8 → Option Value} {c : Ocm} (e : Ew w wk mk nm h vc l false n1 n2 f1 f2) (hA : Kx (fun _ => False) w w1) (hf : l.length < 60)
    (hc : OcOk w (fun k => ¬ ET wk mk nm vc k ∧ k < w.heap.size) c) (hown : w'.ownsRow 7 158 11 vc' (l.length + 1) (l.flatMap ocC ++ ocC c)) (hg : w1.grownBy w' vc.ownBlock) (hat : vc'.ownBlock = vc.ownBlock ∨ vc'.ownBlock = some w1.heap.size) :
    Ew (w'.setCell ⟨wk, 2, none⟩ vc') wk mk nm h vc' (l ++ [c]) false n1 n2 f1 f2 ∧ Kx (ET wk mk nm vc) w (w'.setCell ⟨wk, 2, none⟩ vc') ∧ (∀ k, vc'.ownBlock = some k → vc.ownBlock = some k ∨ w.heap.size ≤ k) := by
  have hs := e.sep
  have hk1 : Kx (fun k => vc.ownBlock = some k) w w' := (hA.mono (fun _ _ q => q.elim)).trans ((Kx.of_grown hg).mono (fun k _ q => q.symm))
  have hloc : ∀ k, vc'.ownBlock = some k → vc.ownBlock = some k ∨ w.heap.size ≤ k := fun k q => by
    rcases hat with q2 | q2
    · exact .inl (by rw [← q2]; exact q)
    · rw [q2] at q
      cases q
      exact .inr hA.size
  have hwl := e.blk.lt
  have hns : ∀ k, vc'.ownBlock = some k → k ≠ wk ∧ k ≠ mk ∧ k ≠ nm := fun k q => by
    rcases hloc k q with q2 | q2
    · exact hs.2.2.2 k q2
    · have := e.lt
      omega
  have hb1 := e.blk.kept hk1 (fun q => (hs.2.2.2 wk q).1 rfl)
  have hk2 : Kx (Only wk) w' (w'.setCell ⟨wk, 2, none⟩ vc') := (Kx.refl _ _).only_set _
  have hk3 : Kx (ET wk mk nm vc) w (w'.setCell ⟨wk, 2, none⟩ vc') := (hk1.mono (fun _ _ q => .inr (.inr (.inr q)))).trans (hk2.mono (fun _ _ q => .inl q))
  have hL : ∀ x, OcOk w (fun k => ¬ ET wk mk nm vc k ∧ k < w.heap.size) x → OcOk (w'.setCell ⟨wk, 2, none⟩ vc') (fun k => ¬ ET wk mk nm vc' k ∧ k < (w'.setCell ⟨wk, 2, none⟩ vc').heap.size) x := fun x hx =>
    (hx.kept hk3 (fun _ hl => hl.1)).mono (fun k hl => ⟨fun q => by
      rcases q with q | q | q | q
      · exact hl.1 (.inl q)
      · exact hl.1 (.inr (.inl q))
      · exact hl.1 (.inr (.inr (.inl q)))
      · rcases hloc k q with q2 | q2
        · exact hl.1 (.inr (.inr (.inr q2)))
        · have := hl.2
          omega, Nat.lt_of_lt_of_le hl.2 hk3.size⟩)
  refine ⟨{ blk := hb1.set 2 _, row := ?_, mks := ?_, nms := ?_, v1 := e.v1, v2 := e.v2, few := by rw [List.length_append, List.length_singleton]; omega, ok := fun x hx => ?_, sep := ⟨hs.1, hs.2.1, hs.2.2.1, hns⟩, low := e.low, lt := ⟨Nat.lt_of_lt_of_le e.lt.1 hk3.size, Nat.lt_of_lt_of_le e.lt.2 hk3.size⟩ }, hk3, hloc⟩
  · have hr := own_keptB hown hk2 (fun k q q2 => (hns k q).1 q2)
    rw [List.length_append, List.length_singleton, List.flatMap_append]
    simpa using hr
  · exact (e.mks.kept hk1 (fun q => (hs.2.2.2 mk q).2.1 rfl)).kept hk2 (fun q => hs.1 q.symm)
  · exact (e.nms.kept hk1 (fun q => (hs.2.2.2 nm q).2.2 rfl)).kept hk2 (fun q => hs.2.1 q.symm)
  · rcases List.mem_append.1 hx with hx | hx
    · exact hL x (e.ok x hx)
    · rw [List.mem_singleton.1 hx]
      exact hL c hc

section
variable {P : Program} {ops : Array Oper} {C : World → Prop}
theorem ord_run {R : Act → World → Prop} {a : Act} {w w1 : World} {o : Oper} {r : List (Oper × Bool)} (hg : o.guard = none) (v : Value) (hrun : (execOp a.eval o).run P w = .ok (.value v) w1) (hC : C w1) (h : OrdL P ops C R r (a.put o.dst v) w1) : OrdL P ops C R ((o, false) :: r) a w := by
  unfold OrdL wpList
  have hw : Region.wanted o (yielded ops a.tmps) = true := by simp [Region.wanted, hg]
  rw [if_pos hw]
  refine .inl ?_
  unfold Oper.wp
  rw [hrun]
  exact ⟨rfl, hC, h⟩
end

set_option maxHeartbeats 1600000 in
set_option maxRecDepth 100000 in
theorem eadd_any {w : World} {wk mk nm h : Nat} {vc : Value} {l : List Ocm} {tm : Bool} {n1 n2 : Nat} {f1 f2 : List UInt8 → Option Value} (e : Ew w wk mk nm h vc l tm n1 n2 f1 f2) (c : Ocm) (am ac : Option Addr) (cm cc : Nat) (hvm : c.vm = .slice am c.ms.length cm) (hvc : c.vc = .slice ac c.cs.length cc)
    (hcl : c.cs.length ≤ 1000000) (hc : c.cs.length ≤ 30 → OcOk w (fun k => ¬ ET wk mk nm vc k ∧ k < w.heap.size) c) :
    Calls Tryz.prog 191 #[.pointer (some ⟨wk, 0, none⟩), .agg (cmdV c.word c.ref c.m c.au c.data c.fm c.fr c.vm c.vc)] w fun x w' => x = .returned (.tuple #[]) ∧ AddR w w' wk mk nm h vc l tm n1 n2 f1 f2 := by
  have hmx : maxLen = 9223372036854775807 := rfl
  obtain ⟨word, ref, m, ⟨an, ama, tim⟩, data, fm, fr, vm', vc', ms, cs⟩ := c
  simp only at hvm hvc
  subst hvm
  subst hvc
  obtain ⟨i0, hi0, hz0, hz1, hz2⟩ := info_parts info158
  have hA := (Kx.refl (fun _ => False) w).alloc (.cells (cmdV word ref m ⟨an, ama, tim⟩ data fm fr (.slice am ms.length cm) (.slice ac cs.length cc)) 158)
  have hbx := Cb.new (cmdV word ref m ⟨an, ama, tim⟩ data fm fr (.slice am ms.length cm) (.slice ac cs.length cc)) 158 w
  have HOC : Hid (ocC ⟨word, ref, m, ⟨an, ama, tim⟩, data, fm, fr, .slice am ms.length cm, .slice ac cs.length cc, ms, cs⟩ = (cmdV word ref m ⟨an, ama, tim⟩ data fm fr (.slice am ms.length cm) (.slice ac cs.length cc)).toList) := rfl
  have eA := e.same hA
  obtain ⟨av, cv, hav⟩ := row_shape e.row
  subst hav
  have hfew := e.few
  have HC : Hid (cs.length ≤ 30 → OcOk (w.alloc (.cells (cmdV word ref m ⟨an, ama, tim⟩ data fm fr (.slice am ms.length cm) (.slice ac cs.length cc)) 158)) (fun k => ¬ ET wk mk nm (.slice av l.length cv) k ∧ k < (w.alloc (.cells (cmdV word ref m ⟨an, ama, tim⟩ data fm fr (.slice am ms.length cm) (.slice ac cs.length cc)) 158)).heap.size) ⟨word, ref, m, ⟨an, ama, tim⟩, data, fm, fr, .slice am ms.length cm, .slice ac cs.length cc, ms, cs⟩) := fun q => ((hc q).kept hA (fun _ _ => id)).mono (fun _ hl => ⟨hl.1, Nat.lt_of_lt_of_le hl.2 hA.size⟩)
  have HE : Hid (Ew w wk mk nm h (.slice av l.length cv) l tm n1 n2 f1 f2) := e
  simp only at hc hcl
  clear hc e
  unfold cmdV at *
  simp only at *
  have b2 := Cb.cell eA.blk 2
  have b5 := Cb.cell eA.blk 5
  have z5 := Cb.frozen eA.blk 5
  by_cases hmany : l.length = 60 ∨ 30 < cs.length
  · obtain ⟨eM, hkM⟩ := eA.much
    have hF : AddR w ((w.alloc (.cells #[.string ⟨word.toArray⟩, .string ⟨ref.toArray⟩, .int .i64 (m : Int), .string ⟨an.toArray⟩, .string ⟨ama.toArray⟩, .int .i64 tim, .string ⟨data.toArray⟩, .int .i64 (fm : Int), .string ⟨fr.toArray⟩, .slice am ms.length cm, .slice ac cs.length cc] 158)).setCell ⟨wk, 5, none⟩ (.bool true)) wk mk nm h (.slice av l.length cv) l tm n1 n2 f1 f2 :=
      ⟨_, l, true, eM, (hA.mono (fun _ _ q => q.elim)).trans (hkM.mono (fun _ _ q => .inl q)), fun k q => .inl q, fun _ => ⟨rfl, rfl⟩, fun _ => .inr ⟨rfl, rfl⟩⟩
    by_cases h60 : l.length = 60
    · have h61 : (l.length : Int) = 60 := by omega
      go_enter Tryz.func191, Tryz.ntmps191
      go_wp2
      go_end0
      exact ⟨rfl, hF⟩
    · have h61 : ¬ (l.length : Int) = 60 := by omega
      have h62 : ((l.length : Int) == 60) = false := by simpa using h61
      have h30 : (30 : Int) < (cs.length : Int) := by omega
      go_enter Tryz.func191, Tryz.ntmps191
      go_wp2
      go_end0
      exact ⟨rfl, hF⟩
  · have h61 : ¬ (l.length : Int) = 60 := by omega
    have h62 : ((l.length : Int) == 60) = false := by simpa using h61
    have h30 : ¬ (30 : Int) < (cs.length : Int) := by omega
    cases tm with
    | true =>
      have hF : AddR w (w.alloc (.cells #[.string ⟨word.toArray⟩, .string ⟨ref.toArray⟩, .int .i64 (m : Int), .string ⟨an.toArray⟩, .string ⟨ama.toArray⟩, .int .i64 tim, .string ⟨data.toArray⟩, .int .i64 (fm : Int), .string ⟨fr.toArray⟩, .slice am ms.length cm, .slice ac cs.length cc] 158)) wk mk nm h (.slice av l.length cv) l true n1 n2 f1 f2 :=
        ⟨_, l, true, eA, hA.mono (fun _ _ q => q.elim), fun k q => .inl q, fun _ => ⟨rfl, rfl⟩, fun q => by cases q⟩
      go_enter Tryz.func191, Tryz.ntmps191
      go_wp2
      go_end0
      exact ⟨rfl, hF⟩
    | false =>
      go_enter Tryz.func191, Tryz.ntmps191
      go_wp2_with fail
      have hsep := eA.sep
      have hown : ∀ k, (Value.slice av l.length cv).ownBlock = some k → k ≠ w.heap.size := fun k q => by
        have := (HE.out.row.lt k q).2
        omega
      generalize w.alloc (.cells #[.string ⟨word.toArray⟩, .string ⟨ref.toArray⟩, .int .i64 (m : Int), .string ⟨an.toArray⟩, .string ⟨ama.toArray⟩, .int .i64 tim, .string ⟨data.toArray⟩, .int .i64 (fm : Int), .string ⟨fr.toArray⟩, .slice am ms.length cm, .slice ac cs.length cc] 158) = wA at *
      generalize w.heap.size = bb at *
      refine wp_region_ord (C := fun w' => Kx (fun k => (Value.slice av l.length cv).ownBlock = some k) wA w') [(0, true), (1, true), (2, true), (3, true), (4, true), (5, true), (6, false), (7, false), (8, false), (9, false)] 10 (by kernel_rfl) (by kernel_rfl) rfl (Kx.refl _ _).drew ?_
      refine ord_val rfl (.pointer (some ⟨wk, 0, none⟩)) (fun w' hC => by go_simp) ?_
      refine ord_val rfl (.pointer (some ⟨wk, 0, none⟩)) (fun w' hC => by go_simp) ?_
      refine ord_val rfl (.pointer (some ⟨wk, 0, none⟩)) (fun w' hC => by go_simp) ?_
      refine ord_val rfl (.pointer (some ⟨wk, 2, none⟩)) (fun w' hC => by go_simp) ?_
      refine ord_val rfl (.slice av l.length cv) (fun w' hC => by
        have hc0 : w'.cell? ⟨wk, 2, none⟩ = some (.slice av l.length cv) := Cb.cell (eA.blk.kept hC (fun q => (hsep.2.2.2 wk q).1 rfl)) 2
        go_simp) ?_
      refine ord_val rfl (.agg #[.string ⟨word.toArray⟩, .string ⟨ref.toArray⟩, .int .i64 (m : Int), .string ⟨an.toArray⟩, .string ⟨ama.toArray⟩, .int .i64 tim, .string ⟨data.toArray⟩, .int .i64 (fm : Int), .string ⟨fr.toArray⟩, .slice am ms.length cm, .slice ac cs.length cc]) (fun w' hC => by
        have hb' := hbx.kept hC (fun q => hown bb q rfl)
        have y0 : w'.cell? ⟨bb, 0, none⟩ = some (.string ⟨word.toArray⟩) := Cb.cell hb' 0
        have y1 : w'.cell? ⟨bb, 1, none⟩ = some (.string ⟨ref.toArray⟩) := Cb.cell hb' 1
        have y2 : w'.cell? ⟨bb, 2, none⟩ = some (.int .i64 (m : Int)) := Cb.cell hb' 2
        have y3 : w'.cell? ⟨bb, 3, none⟩ = some (.string ⟨an.toArray⟩) := Cb.cell hb' 3
        have y4 : w'.cell? ⟨bb, 4, none⟩ = some (.string ⟨ama.toArray⟩) := Cb.cell hb' 4
        have y5 : w'.cell? ⟨bb, 5, none⟩ = some (.int .i64 tim) := Cb.cell hb' 5
        have y6 : w'.cell? ⟨bb, 6, none⟩ = some (.string ⟨data.toArray⟩) := Cb.cell hb' 6
        have y7 : w'.cell? ⟨bb, 7, none⟩ = some (.int .i64 (fm : Int)) := Cb.cell hb' 7
        have y8 : w'.cell? ⟨bb, 8, none⟩ = some (.string ⟨fr.toArray⟩) := Cb.cell hb' 8
        have y9 : w'.cell? ⟨bb, 9, none⟩ = some (.slice am ms.length cm) := Cb.cell hb' 9
        have y10 : w'.cell? ⟨bb, 10, none⟩ = some (.slice ac cs.length cc) := Cb.cell hb' 10
        go_simp) ?_
      simp only [Act.put, sI, sS, sZ]
      have hkd := (Kx.refl (fun _ => False) wA).drew
      have hkd2 := hkd.alloc (.cells #[.string ⟨word.toArray⟩, .string ⟨ref.toArray⟩, .int .i64 (m : Int), .string ⟨an.toArray⟩, .string ⟨ama.toArray⟩, .int .i64 tim, .string ⟨data.toArray⟩, .int .i64 (fm : Int), .string ⟨fr.toArray⟩, .slice am ms.length cm, .slice ac cs.length cc] 158)
      have hC1 : Kx (fun k => (Value.slice av l.length cv).ownBlock = some k) wA (World.alloc { wA with drawn := wA.drawn + 1 } (.cells #[.string ⟨word.toArray⟩, .string ⟨ref.toArray⟩, .int .i64 (m : Int), .string ⟨an.toArray⟩, .string ⟨ama.toArray⟩, .int .i64 tim, .string ⟨data.toArray⟩, .int .i64 (fm : Int), .string ⟨fr.toArray⟩, .slice am ms.length cm, .slice ac cs.length cc] 158)) := hkd2.mono (fun _ _ q => q.elim)
      refine ord_run (w1 := World.alloc { wA with drawn := wA.drawn + 1 } (.cells #[.string ⟨word.toArray⟩, .string ⟨ref.toArray⟩, .int .i64 (m : Int), .string ⟨an.toArray⟩, .string ⟨ama.toArray⟩, .int .i64 tim, .string ⟨data.toArray⟩, .int .i64 (fm : Int), .string ⟨fr.toArray⟩, .slice am ms.length cm, .slice ac cs.length cc] 158)) rfl (.slice (some ⟨wA.heap.size, 0, none⟩) 1 1) (by go_simp) hC1 ?_
      simp only [Act.put, sI, sS, sZ]
      have hrow := own_kept' eA.row hkd2 (fun _ _ _ => id)
      refine ord_step ?_
      refine wpList_append_own_at _ rfl (.tmp 28) (.tmp 30) 90 rfl 7 158 i0 _ 11 168 Tryz.underlying90 hi0 hz0 hz1 hz2 rfl (by decide) _ _ (l.flatMap ocC) rfl hrow ⟨wA.heap.size, 0, none⟩ 1 1 [.string ⟨word.toArray⟩, .string ⟨ref.toArray⟩, .int .i64 (m : Int), .string ⟨an.toArray⟩, .string ⟨ama.toArray⟩, .int .i64 tim, .string ⟨data.toArray⟩, .int .i64 (fm : Int), .string ⟨fr.toArray⟩, .slice am ms.length cm, .slice ac cs.length cc] rfl rfl ?c1 ?c2 ?c3 ?c4 ?c5 ?_
      case c1 => exact cells_new { wA with drawn := wA.drawn + 1 } [.string ⟨word.toArray⟩, .string ⟨ref.toArray⟩, .int .i64 (m : Int), .string ⟨an.toArray⟩, .string ⟨ama.toArray⟩, .int .i64 tim, .string ⟨data.toArray⟩, .int .i64 (fm : Int), .string ⟨fr.toArray⟩, .slice am ms.length cm, .slice ac cs.length cc] 158
      case c2 => simp [Value.oneCell']
      case c3 => unfold maxLen; omega
      case c4 => omega
      case c5 => exact Nat.le_trans (Nat.le_trans eA.low.1 (Nat.le_of_lt eA.blk.lt)) hkd2.size
      intro v' w9 hown9 hgr9 _ hat9
      have hC9 : Kx (fun k => (Value.slice av l.length cv).ownBlock = some k) wA w9 := hC1.trans ((Kx.of_grown hgr9).mono (fun k _ q => q.symm))
      refine ⟨rfl, hC9, ?_⟩
      obtain ⟨av', cv', hav'⟩ := row_shape hown9
      subst hav'
      simp only [Act.put, sI, sS, sZ]
      refine ord_valT rfl (.pointer (some ⟨wk, 0, none⟩)) (by go_simp) hC9 ?_
      simp only [Act.put, sI, sS, sZ]
      refine ord_valT rfl (.pointer (some ⟨wk, 2, none⟩)) (by go_simp) hC9 ?_
      refine ord_nil ?_
      simp only [Act.put, sI, sS, sZ]
      have hb9 := eA.blk.kept hC9 (fun q => (hsep.2.2.2 wk q).1 rfl)
      have c2' := Cb.cell hb9 2
      have z2' := Cb.frozen hb9 2
      obtain ⟨eG, hkG, hlG⟩ := eA.grown hkd2 (by omega) (HC.out (by omega)) (by rw [HOC.out]; exact hown9) hgr9 hat9
      have hF : AddR w (w9.setCell ⟨wk, 2, none⟩ (.slice av' (l.length + 1) cv')) wk mk nm h (.slice av l.length cv) l false n1 n2 f1 f2 :=
        ⟨_, _, false, eG, (hA.mono (fun _ _ q => q.elim)).trans hkG, fun k q => (hlG k q).imp id (fun q => Nat.le_trans hA.size q), (fun q => by cases q), fun _ => .inl ⟨rfl, by rw [List.length_append, List.length_singleton]⟩⟩
      clear eG hkG hlG hC9 hC1 hown9 hgr9 hat9 hrow hkd hkd2
      go_wp2
      go_end0
      exact ⟨rfl, hF⟩

theorem Ew.mark {w w' : World} {wk mk nm h : Nat} {vc : Value} {l : List Ocm} {tm : Bool} {n1 n2 : Nat} {f1 f2 : List UInt8 → Option Value} (e : Ew w wk mk nm h vc l tm n1 n2 f1 f2) {id : List UInt8} {q : Nat} (hq : q ≤ 1000000) (hk : Kx (Only mk) w w') (hm : MapS Tryz.prog 9 w' mk (n1 + 1) (upd f1 id (some (.int .i64 (q : Int))))) :
    Ew w' wk mk nm h vc l tm (n1 + 1) n2 (upd f1 id (some (.int .i64 (q : Int)))) f2 := by
  have hs := e.sep
  refine { blk := e.blk.kept hk (fun x => hs.1 x), row := own_keptB e.row hk (fun k e1 e2 => (hs.2.2.2 k e1).2.1 e2), mks := hm, nms := e.nms.kept hk (fun x => hs.2.2.1 x.symm), v1 := fun k v hv => ?_, v2 := e.v2, few := e.few, ok := fun c hc => ?_, sep := e.sep, low := e.low, lt := ⟨Nat.lt_of_lt_of_le e.lt.1 hk.size, Nat.lt_of_lt_of_le e.lt.2 hk.size⟩ }
  · by_cases hkk : k = id
    · rw [hkk, upd_same] at hv
      cases hv
      exact ⟨q, rfl, hq⟩
    · rw [upd_other _ _ _ _ hkk] at hv
      exact e.v1 k v hv
  · exact ((e.ok c hc).kept hk (fun _ hl x => hl.1 (.inr (.inl x)))).mono (fun _ hl => ⟨hl.1, Nat.lt_of_lt_of_le hl.2 hk.size⟩)

theorem Ew.name {w w' : World} {wk mk nm h : Nat} {vc : Value} {l : List Ocm} {tm : Bool} {n1 n2 : Nat} {f1 f2 : List UInt8 → Option Value} (e : Ew w wk mk nm h vc l tm n1 n2 f1 f2) {id : List UInt8} {q : Nat} (hq : q ≤ 1000000) (hk : Kx (Only nm) w w') (hm : MapS Tryz.prog 9 w' nm (n2 + 1) (upd f2 id (some (.int .i64 (q : Int))))) :
    Ew w' wk mk nm h vc l tm n1 (n2 + 1) f1 (upd f2 id (some (.int .i64 (q : Int)))) := by
  have hs := e.sep
  refine { blk := e.blk.kept hk (fun x => hs.2.1 x), row := own_keptB e.row hk (fun k e1 e2 => (hs.2.2.2 k e1).2.2 e2), mks := e.mks.kept hk (fun x => hs.2.2.1 x), nms := hm, v1 := e.v1, v2 := fun k v hv => ?_, few := e.few, ok := fun c hc => ?_, sep := e.sep, low := e.low, lt := ⟨Nat.lt_of_lt_of_le e.lt.1 hk.size, Nat.lt_of_lt_of_le e.lt.2 hk.size⟩ }
  · by_cases hkk : k = id
    · rw [hkk, upd_same] at hv
      cases hv
      exact ⟨q, rfl, hq⟩
    · rw [upd_other _ _ _ _ hkk] at hv
      exact e.v2 k v hv
  · exact ((e.ok c hc).kept hk (fun _ hl x => hl.1 (.inr (.inr (.inl x))))).mono (fun _ hl => ⟨hl.1, Nat.lt_of_lt_of_le hl.2 hk.size⟩)

section
variable {w : World} {wk mk nm h : Nat} {vc : Value} {l : List Ocm} {tm : Bool} {n1 n2 : Nat} {f1 f2 : List UInt8 → Option Value}

set_option maxHeartbeats 800000 in
set_option maxRecDepth 100000 in
theorem enewMark_any (e : Ew w wk mk nm h vc l tm n1 n2 f1 f2) (id : List UInt8) (hid : id.length ≤ maxLen) (hn : n1 < 1000000) :
    Calls Tryz.prog 271 #[.pointer (some ⟨wk, 0, none⟩), .string ⟨id.toArray⟩] w fun x w' => ∃ q : Nat, x = .returned (.int .i64 (q : Int)) ∧ 1 ≤ q ∧ q ≤ 1000000 ∧ Ew w' wk mk nm h vc l tm (n1 + 1) n2 (upd f1 id (some (.int .i64 (q : Int)))) f2 ∧ Kx (Only mk) w w' := by
  have hmx : maxLen = 9223372036854775807 := rfl
  have c3 := Cb.cell e.blk 3
  obtain ⟨D, hD, haD⟩ := e.mks
  have hsz := hD.size_le
  have hmks := e.mks
  have hval : ((Maps.size D : Int) + 1) = ((Maps.size D + 1 : Nat) : Int) := by omega
  have HVal : Hid (((Maps.size D : Int) + 1) = ((Maps.size D + 1 : Nat) : Int)) := hval
  clear haD hval
  go_enter Tryz.func271, Tryz.ntmps271
  go_wp2_with (first | (at_len; refine wpList_len_own _ rfl _ 196 rfl 9 3 (by kernel_rfl) _ mk n1 D rfl hD ?_) | (refine wpList_putS rfl _ _ _ 196 rfl 3 (by kernel_rfl) (by kernel_rfl) mk n1 f1 rfl hmks (by omega) id rfl hid _ rfl ?_; intro w2 hm2 hk2))
  rw [HVal.out] at hm2
  have eF := e.mark (q := Maps.size D + 1) (by omega) hk2 hm2
  clear hm2 hmks hD c3
  go_ret
  exact ⟨Maps.size D + 1, by rw [HVal.out]; rfl, by omega, by omega, eF, hk2⟩

theorem oc_plain (w : World) (L : Nat → Prop) (word ref : List UInt8) (m : Nat) (data : List UInt8) (fm : Nat) (hw : word = [98, 108, 111, 98] ∨ word = [116, 97, 103] ∨ word = [114, 101, 115, 101, 116]) (hm : m ≤ 1000000) (hfm : fm ≤ 1000000) (hd : data.length + ref.length ≤ 15000) :
    OcOk w L ⟨word, ref, m, ⟨[], [], 0⟩, data, fm, [], .slice none 0 0, .slice none 0 0, [], []⟩ := by
  have hz : (0 : Int) ≤ 0 ∧ (0 : Int) ≤ 9999999999 := by decide
  refine ⟨?_, hm, hfm, Nat.zero_le _, Nat.zero_le _, hz, hd, fun q => ?_, ⟨none, 0, rfl, Nat.le_refl _, fun q => absurd rfl q⟩, ⟨none, 0, rfl, Nat.le_refl _, fun q => absurd rfl q⟩, (fun k q => by cases q), (fun k q => by cases q), ⟨Nat.zero_le _, fun x hx => by cases hx⟩, ⟨Nat.zero_le _, fun x hx => by cases hx⟩⟩
  · rcases hw with q | q | q
    · exact .inl q
    · exact .inr (.inr (.inl q))
    · exact .inr (.inr (.inr q))
  · simp only at q
    rw [q] at hw
    rcases hw with q | q | q <;> cases q

def ResR (w w' : World) (wk mk nm h : Nat) (vc : Value) (l : List Ocm) (tm : Bool) (n1 n2 : Nat) (f1 : List UInt8 → Option Value) : Prop :=
  ∃ vc' l' tm' f2', Ew w' wk mk nm h vc' l' tm' n1 (n2 + 1) f1 f2' ∧ Kx (ET wk mk nm vc) w w' ∧ (∀ k, vc'.ownBlock = some k → vc.ownBlock = some k ∨ w.heap.size ≤ k) ∧
    (tm = true → tm' = true ∧ l'.length = l.length) ∧ (tm = false → (tm' = false ∧ l'.length = l.length + 1) ∨ (tm' = true ∧ l'.length = l.length))

set_option maxHeartbeats 800000 in
set_option maxRecDepth 100000 in
theorem eaddReset_any (e : Ew w wk mk nm h vc l tm n1 n2 f1 f2) (ref : List UInt8) (q : Nat) (hr : ref.length ≤ 1000) (hq : q ≤ 1000000) (hn : n2 < maxLen) :
    Calls Tryz.prog 141 #[.pointer (some ⟨wk, 0, none⟩), .string ⟨ref.toArray⟩, .int .i64 (q : Int)] w fun x w' => x = .returned (.tuple #[]) ∧ ResR w w' wk mk nm h vc l tm n1 n2 f1 := by
  have hmx : maxLen = 9223372036854775807 := rfl
  have hadd := eadd_any e ⟨[114, 101, 115, 101, 116], ref, 0, ⟨[], [], 0⟩, [], q, [], .slice none 0 0, .slice none 0 0, [], []⟩ none none 0 0 rfl rfl (Nat.zero_le _) (fun _ => oc_plain _ _ _ _ _ _ _ (.inr (.inr rfl)) (by decide) hq (by simp; omega))
  unfold cmdV at hadd
  simp only at hadd
  go_enter Tryz.func141, Tryz.ntmps141
  go_wp2_with fail
  refine hadd.mono ?_
  rintro _ w1 ⟨rfl, vc1, l1, tm1, e1, hk1, hl1, ht1, hf1⟩
  clear hadd
  have c4 := Cb.cell e1.blk 4
  have hnms := e1.nms
  go_wp2_with (refine wpList_putS rfl _ _ _ 196 rfl 3 (by kernel_rfl) (by kernel_rfl) nm n2 f2 rfl hnms hn ref rfl (by omega) _ rfl ?_; intro w2 hm2 hk2)
  have e2 := e1.name hq hk2 hm2
  have hF : ResR w w2 wk mk nm h vc l tm n1 n2 f1 := ⟨vc1, l1, tm1, _, e2, hk1.trans (hk2.mono (fun _ _ x => .inr (.inr (.inl x)))), hl1, ht1, hf1⟩
  clear hm2 hnms c4 e2
  go_end0
  exact ⟨rfl, hF⟩
end

section
variable {P : Program} {md : Region.Mode} {ops : Array Oper} {C : World → Prop}

def Cl (md : Region.Mode) (ops : Array Oper) (listed : Array Bool) : Prop := ∀ y oy, ops[y]? = some oy → listed.getD y false = true → ∀ e ∈ oy.after, Region.binds md e = true → listed.getD e.on false = true

def reachB (md : Region.Mode) (ops : Array Oper) : Nat → Nat → Nat → Bool
  | 0, _, _ => false
  | f + 1, z, i => match ops[z]? with
    | none => false
    | some oz => oz.after.any fun e => Region.binds md e && (e.on == i || reachB md ops f e.on i)

theorem reach_spec {listed : Array Bool} (hcl : Cl md ops listed) (i : Nat) : ∀ (f z : Nat), reachB md ops f z i = true → (∀ oz, ops[z]? = some oz → ∀ e ∈ oz.after, Region.binds md e = true → listed.getD e.on false = true) → listed.getD i false = true
  | 0, _, h, _ => by simp [reachB] at h
  | f + 1, z, h, hz => by
    unfold reachB at h
    split at h
    · cases h
    · rename_i oz hoz
      obtain ⟨e, he, h2⟩ := Array.any_eq_true'.1 h
      simp only [Bool.and_eq_true, Bool.or_eq_true, beq_iff_eq] at h2
      have h3 := hz oz hoz e he h2.1
      rcases h2.2 with h4 | h4
      · rw [← h4]; exact h3
      · exact reach_spec hcl i f e.on h4 (fun oy hy e' he' hb => hcl e.on oy hy h3 e' he' hb)

theorem getD_tf {listed : Array Bool} {k : Nat} (h : listed.getD k false = true) : listed.getD k true = true := by
  rcases Nat.lt_or_ge k listed.size with h' | h'
  · simp [h'] at h ⊢; exact h
  · simp [Array.getElem?_eq_none h'] at h

theorem getD_set_keep {listed : Array Bool} {k j : Nat} (h : listed.getD k false = true) : (listed.setIfInBounds j true).getD k false = true := by
  by_cases hjk : j = k
  · subst hjk
    rcases Nat.lt_or_ge j listed.size with h' | h'
    · simp [h']
    · simp [Array.getElem?_eq_none h'] at h
  · rw [getD_set_ne false hjk]; exact h

theorem Cl.step {listed : Array Bool} {j : Nat} (hcl : Cl md ops listed) (hj : j ∈ Region.ready md ops listed) : Cl md ops (listed.setIfInBounds j true) := by
  intro y oy hy hl e he hb
  obtain ⟨_, oj, hoj, hall⟩ := mem_ready.1 hj
  by_cases hjy : j = y
  · subst hjy
    rw [hoj] at hy
    cases hy
    exact getD_set_keep (hall e he hb)
  · rw [getD_set_ne false hjy] at hl
    exact getD_set_keep (hcl y oy hy hl e he hb)

theorem AnyD.first2 {z : Nat} {Q : Exit → Act → World → Prop} {i : Nat} {oi : Oper} {v : Value} (hi : ops[i]? = some oi) (hiz : i ≠ z) (hz : ∀ listed : Array Bool, Cl md ops listed → z ∈ Region.ready md ops listed → listed.getD i true = true) (hsel : ∀ (j : Nat) (o : Oper) cs b, ops[j]? = some o → o.op ≠ .select cs b) :
    ∀ (fuel : Nat) (listed : Array Bool) (a : Act) (w : World), Cl md ops listed → C w →
      (∀ j oj, ops[j]? = some oj → j ≠ i → listed.getD j true = false → (∀ e ∈ oj.after, Region.binds md e = true → e.on ≠ i) → oi.apart ops oj = true) →
      i ∈ Region.ready md ops listed → ValIn P ops C oi v a →
      AnyD P md ops C z Q fuel (listed.setIfInBounds i true) (a.put oi.dst v) w → AnyD P md ops C z Q (fuel + 1) listed a w := by
  intro fuel
  induction fuel with
  | zero =>
    intro listed a w hcl hC _ hr hy H
    refine ⟨fun h => (by rw [h] at hr; cases hr), fun j hj => ?_⟩
    by_cases hji : j = i
    · subst hji; exact ⟨hiz, hy.op hi hC ⟨hC, H⟩⟩
    · have h1 := ready_mono hj hji
      rw [H.1, List.mem_singleton] at h1
      subst h1
      have h2 := hz listed hcl hj
      have h3 := (mem_ready.1 hr).1
      rw [h2] at h3
      cases h3
  | succ fuel ih =>
    intro listed a w hcl hC hfree hr hy H
    refine ⟨fun h => (by rw [h] at hr; cases hr), fun j hj => ?_⟩
    by_cases hji : j = i
    · subst hji; exact ⟨hiz, hy.op hi hC ⟨hC, H⟩⟩
    · obtain ⟨hjz, h1⟩ := H.2 j (ready_mono hj hji)
      refine ⟨hjz, ?_⟩
      obtain ⟨hjun, oj, hoj, hall⟩ := mem_ready.1 hj
      have hnot : ∀ e ∈ oj.after, Region.binds md e = true → e.on ≠ i := fun e he hb heq => by
        have h1 := hall e he hb
        have h0 := (mem_ready.1 hr).1
        rw [heq] at h1
        rcases Nat.lt_or_ge i listed.size with h' | h'
        · simp [h'] at h0 h1; rw [h0] at h1; cases h1
        · simp [Array.getElem?_eq_none h'] at h1
      have h2 := putC hoj (hfree j oj hoj hji hjun hnot) (fun cs b => hsel i oi cs b hi) (fun cs b => hsel j oj cs b hoj) hy h1
      have hfree' : ∀ k ok, ops[k]? = some ok → k ≠ i → (listed.setIfInBounds j true).getD k true = false →
          (∀ e ∈ ok.after, Region.binds md e = true → e.on ≠ i) → oi.apart ops ok = true := fun k ok hk hki hun hno => by
        refine hfree k ok hk hki ?_ hno
        by_cases hjk : j = k
        · subst hjk; exact hjun
        · rw [getD_set_ne true hjk] at hun; exact hun
      refine wpOp_noQ (fun a' w' h3 => ⟨h3.2.1, ih (listed.setIfInBounds j true) a' w' (hcl.step hj) h3.2.1 hfree' (ready_mono hr (Ne.symm hji)) h3.1 ?_⟩) h2
      rw [Array.setIfInBounds_comm _ _ hji]
      exact h3.2.2

def lexOrd2 (md : Region.Mode) (ops : Array Oper) (z : Nat) : List (Nat × Bool) → Array Bool → Bool
  | [], listed => Region.ready md ops listed == [z] && (Region.ready md ops (listed.setIfInBounds z true)).isEmpty
  | x :: r, listed => (x.1 != z && (if x.2 then (Region.ready md ops listed).contains x.1 && (Region.free md ops listed x.1 && reachB md ops ops.size z x.1) else Region.ready md ops listed == [x.1])) && lexOrd2 md ops z r (listed.setIfInBounds x.1 true)

theorem AnyD.ord2 {l : List Oper} {z : Nat} {oz : Oper} {Q : Exit → Act → World → Prop} (hoz : l.toArray[z]? = some oz) (hs : Region.noSelect l.toArray = true) :
    ∀ (ord : List (Nat × Bool)) (listed : Array Bool) (a : Act) (w : World), Cl md l.toArray listed → C w → lexOrd2 md l.toArray z ord listed = true → OrdL P l.toArray C (fun a' w' => wpList P l.toArray Q [oz] a' w') (pickL l ord) a w → AnyD P md l.toArray C z Q ord.length listed a w
  | [], listed, a, w, _, hC, hB, h => by
    simp only [lexOrd2, Bool.and_eq_true, beq_iff_eq] at hB
    have hB1 : lexOrd md l.toArray z [] listed = true := by
      simp only [lexOrd, Bool.and_eq_true, beq_iff_eq]
      exact hB
    exact AnyD.ord hoz hs [] listed a w hC hB1 h
  | (k, true) :: r, listed, a, w, hcl, hC, hB, h => by
    simp only [lexOrd2, if_true, Bool.and_eq_true, bne_iff_ne, ne_eq] at hB
    obtain ⟨⟨hkz, hr, hf, hwz⟩, hB'⟩ := hB
    have hkr : k ∈ Region.ready md l.toArray listed := by simpa using hr
    obtain ⟨_, o, h0, _⟩ := mem_ready.1 hkr
    have hl : l[k]? = some o := by simpa using h0
    simp only [pickL, hl] at h
    obtain ⟨v, hy, hK⟩ := h
    exact AnyD.first2 h0 hkz (fun listed hcl2 hr => getD_tf (reach_spec hcl2 k _ z hwz (fun oz2 hz2 e he hb => by
      obtain ⟨_, oz3, h3, hall⟩ := mem_ready.1 hr
      rw [hz2] at h3
      cases h3
      exact hall e he hb))) (Region.noSelect_spec hs) r.length listed a w hcl hC (Region.free_spec h0 hf) hkr hy (AnyD.ord2 hoz hs r _ _ w (hcl.step hkr) hC hB' hK)
  | (k, false) :: r, listed, a, w, hcl, hC, hB, h => by
    simp only [lexOrd2, Bool.false_eq_true, if_false, Bool.and_eq_true, beq_iff_eq, bne_iff_ne, ne_eq] at hB
    obtain ⟨⟨hkz, hr⟩, hB'⟩ := hB
    have hkr : k ∈ Region.ready md l.toArray listed := by rw [hr]; simp
    obtain ⟨_, o, h0, _⟩ := mem_ready.1 hkr
    have hl : l[k]? = some o := by simpa using h0
    simp only [pickL, hl] at h
    refine ⟨fun e => (by rw [hr] at e; cases e), fun i hi => ?_⟩
    rw [hr, List.mem_singleton] at hi
    subst hi
    exact ⟨hkz, wpOp_noQ (fun a' w' hk => ⟨hk.2.1, AnyD.ord2 hoz hs r _ a' w' (hcl.step hkr) hk.2.1 hB' hk.2.2⟩) (list_op (fun e _ _ he hq => he hq.1) h0 h)⟩

def lexOrdB2 (ops : Array Oper) (z : Nat) (l : List (Nat × Bool)) : Bool := Region.noSelect ops && decide (l.length + 1 = ops.size) && lexOrd2 .any ops z l (Array.replicate ops.size false)

theorem wp_region_ord2 {id : Nat} {Q : Exit → Act → World → Prop} {a : Act} {w : World} {l : List Oper} {oz : Oper} (ord : List (Nat × Bool)) (z : Nat) (hm : P.follows .mixedOrders = true) (hB : lexOrdB2 l.toArray z ord = true) (hoz : l[z]? = some oz) (hC : C { w with drawn := w.drawn + 1 })
    (h : OrdL P l.toArray C (fun a'' w'' => wpList P l.toArray Q [oz] a'' w'') (pickL l ord) a { w with drawn := w.drawn + 1 }) : (Code.region id l.toArray true).wp P Q a w := by
  simp only [lexOrdB2, Bool.and_eq_true, decide_eq_true_eq] at hB
  obtain ⟨⟨hs, hn⟩, hlex⟩ := hB
  refine wp_region_any hm ?_
  have hcl0 : Cl .any l.toArray (Array.replicate l.toArray.size false) := fun y oy _ hl => by
    exfalso
    rcases Nat.lt_or_ge y l.toArray.size with h' | h'
    · simp at h'; simp [h'] at hl
    · simp at h'; simp [h'] at hl
  have H := AnyD.ord2 (md := .any) (Q := Q) (l := l) (z := z) (by simpa using hoz) hs ord (Array.replicate l.toArray.size false) a { w with drawn := w.drawn + 1 } hcl0 hC hlex h
  have H2 := AnyD.any _ _ _ _ H
  rw [hn] at H2
  exact H2
end

structure Es (w0 w : World) (wk mk nm h : Nat) (vc : Value) (l : List Ocm) (tm : Bool) (n1 n2 : Nat) (f1 f2 : List UInt8 → Option Value) : Prop where
  ew : Ew w wk mk nm h vc l tm n1 n2 f1 f2
  kx : Kx (fun _ => False) w0 w
  new : w0.heap.size ≤ wk ∧ w0.heap.size ≤ mk ∧ w0.heap.size ≤ nm ∧ ∀ k, vc.ownBlock = some k → w0.heap.size ≤ k
  gl : Gl w

section
variable {w0 w w' : World} {wk mk nm h : Nat} {vc vc' : Value} {l l' : List Ocm} {tm tm' : Bool} {n1 n2 n1' n2' : Nat} {f1 f2 f1' f2' : List UInt8 → Option Value}

theorem Es.et (e : Es w0 w wk mk nm h vc l tm n1 n2 f1 f2) : ∀ k, ET wk mk nm vc k → w0.heap.size ≤ k ∧ 7 ≤ k := fun k q => by
  have hn := e.new
  have hl := e.ew.low
  rcases q with q | q | q | q
  · omega
  · omega
  · omega
  · exact ⟨hn.2.2.2 k q, (e.ew.row.lt k q).1⟩

theorem Es.same (e : Es w0 w wk mk nm h vc l tm n1 n2 f1 f2) (hk : Kx (fun _ => False) w w') : Es w0 w' wk mk nm h vc l tm n1 n2 f1 f2 :=
  ⟨e.ew.same hk, e.kx.trans hk, e.new, e.gl.kept hk (fun _ _ => id)⟩

theorem Es.turn (e : Es w0 w wk mk nm h vc l tm n1 n2 f1 f2) (e' : Ew w' wk mk nm h vc' l' tm' n1' n2' f1' f2') (hk : Kx (ET wk mk nm vc) w w') (hloc : ∀ k, vc'.ownBlock = some k → vc.ownBlock = some k ∨ w.heap.size ≤ k) : Es w0 w' wk mk nm h vc' l' tm' n1' n2' f1' f2' := by
  have hn := e.new
  refine ⟨e', e.kx.join hk (fun k hk q => by have := (e.et k q).1; omega), ⟨hn.1, hn.2.1, hn.2.2.1, fun k q => ?_⟩, e.gl.kept hk (fun k hk q => by have := (e.et k q).2; omega)⟩
  rcases hloc k q with q | q
  · exact hn.2.2.2 k q
  · exact Nat.le_trans e.kx.size q
end

def StR (w0 w w' : World) (wk mk nm h : Nat) (vc : Value) (l : List Ocm) (tm : Bool) (n1 n2 d : Nat) (f2 : List UInt8 → Option Value) : Prop :=
  ∃ vc' l' tm' n1' f1', Es w0 w' wk mk nm h vc' l' tm' n1' n2 f1' f2 ∧ Kx (ET wk mk nm vc) w w' ∧ (∀ k, vc'.ownBlock = some k → vc.ownBlock = some k ∨ w.heap.size ≤ k) ∧ n1 ≤ n1' ∧ n1' ≤ n1 + d ∧
    (tm = true → tm' = true ∧ l'.length = l.length) ∧ (tm = false → (tm' = false ∧ l.length ≤ l'.length ∧ n1' + l.length ≤ n1 + l'.length) ∨ (tm' = true ∧ l'.length = l.length))

set_option maxHeartbeats 1600000 in
set_option maxRecDepth 100000 in
theorem eaddBlob_any {M : Nat → Prop} {w0 w : World} {wk mk nm h o c r t n : Nat} {S : St} {vc : Value} {l : List Ocm} {tm : Bool} {n1 n2 : Nat} {f1 f2 : List UInt8 → Option Value} (hs : Sto M w0 h o c r t n S) (hcont : ∀ id x, S.obj id = some x → x.2.length ≤ 14000)
    (e : Es w0 w wk mk nm h vc l tm n1 n2 f1 f2) (id : List UInt8) (hid : id.length ≤ 1000) (hn : n1 < 900000) :
    Calls Tryz.prog 267 #[.pointer (some ⟨wk, 0, none⟩), .string ⟨id.toArray⟩] w fun x w' => x = .returned (.tuple #[]) ∧ StR w0 w w' wk mk nm h vc l tm n1 n2 1 f2 := by
  have hmx : maxLen = 9223372036854775807 := rfl
  have c0 := Cb.cell e.ew.blk 0
  have c3 := Cb.cell e.ew.blk 3
  have hmks := e.ew.mks
  have hidl : id.length ≤ maxLen := by omega
  obtain ⟨q, hgv⟩ : ∃ q : Nat, (f1 id).getD (.int .i64 0) = .int .i64 (q : Int) := by
    cases hf : f1 id with
    | none => exact ⟨0, rfl⟩
    | some v =>
      obtain ⟨q, rfl, _⟩ := e.ew.v1 id v hf
      exact ⟨q, rfl⟩
  by_cases hq : 0 < q
  · have hq2 : (0 : Int) < (q : Int) := by omega
    have hF : StR w0 w w wk mk nm h vc l tm n1 n2 1 f2 := ⟨vc, l, tm, n1, f1, e, Kx.refl _ _, fun _ x => .inl x, by omega, by omega, fun x => ⟨x, rfl⟩, fun x => .inl ⟨x, Nat.le_refl _, Nat.le_refl _⟩⟩
    go_enter Tryz.func267, Tryz.ntmps267
    go_wp2_with (refine wpList_lookS rfl _ _ 196 rfl 3 (by kernel_rfl) (by kernel_rfl) (.int .i64 0) (by kernel_rfl) mk n1 f1 rfl hmks id rfl hidl ?_)
    refine bodyPost_ret (results_none rfl _ _ _) rfl ?_
    exact ⟨rfl, hF⟩
  · have hq2 : ¬ (0 : Int) < (q : Int) := by omega
    have hsw := hs.kept e.kx (fun _ _ x => x.elim) (fun _ _ => _root_.id)
    obtain ⟨k, a, b, hv, hf, hx⟩ := objF_val S.obj id
    have hal : a.size ≤ 14000 ∨ a = #[] := by
      cases ho : S.obj id with
      | none =>
        right
        unfold objF at hv
        rw [ho] at hv
        unfold zObj at hv
        cases hv
        rfl
      | some x =>
        left
        rw [(hx x ho).2]
        simpa using hcont id x ho
    have hal2 : a.toList.length ≤ 14000 := by
      rcases hal with q | q
      · simpa using q
      · rw [q]; simp
    obtain ⟨data, hda⟩ : ∃ data : List UInt8, a = data.toArray := ⟨a.toList, by simp⟩
    subst hda
    simp only at hal2
    have hcall := hobject_any hsw id hidl k _ b _ hv hf
    clear hv hf hx hal hsw
    generalize (S.obj id).isSome = fl at *
    go_enter Tryz.func267, Tryz.ntmps267
    go_wp2_with (refine wpList_lookS rfl _ _ 196 rfl 3 (by kernel_rfl) (by kernel_rfl) (.int .i64 0) (by kernel_rfl) mk n1 f1 rfl hmks id rfl hidl ?_)
    refine hcall.mono ?_
    rintro _ w1 ⟨rfl, hk1⟩
    clear hcall c0 c3 hmks
    have hbx := Cb.new #[.int .i64 k, .string ⟨data.toArray⟩, .string ⟨b⟩] 105 w1
    have hA := hk1.alloc (.cells #[.int .i64 k, .string ⟨data.toArray⟩, .string ⟨b⟩] 105)
    have e2 := e.same hA
    have hmb : mk ≠ w1.heap.size := by have := e.ew.lt.1; have := hk1.size; omega
    go_wp2_with fail
    generalize w1.alloc (.cells #[.int .i64 k, .string ⟨data.toArray⟩, .string ⟨b⟩] 105) = w2 at *
    generalize w1.heap.size = bb at *
    refine wp_region_ord2 (C := fun w' => Kx (Only mk) w2 w') [(0, true), (1, true), (2, true), (4, true), (5, true), (3, false), (6, false)] 7 (by kernel_rfl) (by kernel_rfl) rfl (Kx.refl _ _).drew ?_
    refine ord_val rfl (.pointer (some ⟨wk, 0, none⟩)) (fun w' hC => by go_simp) ?_
    refine ord_val rfl (.pointer (some ⟨wk, 0, none⟩)) (fun w' hC => by go_simp) ?_
    refine ord_val rfl (.string ⟨id.toArray⟩) (fun w' hC => by go_simp) ?_
    refine ord_val rfl (.pointer (some ⟨bb, 1, none⟩)) (fun w' hC => by go_simp) ?_
    refine ord_val rfl (.string ⟨data.toArray⟩) (fun w' hC => by
      have hc0 : w'.cell? ⟨bb, 1, none⟩ = some (.string ⟨data.toArray⟩) := Cb.cell (hbx.kept hC (fun x => hmb x.symm)) 1
      go_simp) ?_
    simp only [Act.put, sI, sS, sZ]
    have hkd := (Kx.refl (fun _ => False) w2).drew
    have e3 := e2.same hkd
    have hnm := enewMark_any e3.ew id hidl (by omega)
    refine ord_enter rfl 271 #[.pointer (some ⟨wk, 0, none⟩), .string ⟨id.toArray⟩] (by go_simp) ?_
    refine hnm.mono ?_
    rintro _ w4 ⟨q2, rfl, hq1, hq3, e4, hk4⟩
    have hk24 : Kx (Only mk) w2 w4 := (hkd.mono (fun _ _ x => x.elim)).trans hk4
    refine ⟨_, rfl, hk24, ?_⟩
    simp only [Act.put, sI, sS, sZ]
    refine ord_valT rfl (.agg #[.string ⟨#[98, 108, 111, 98]⟩, .string ⟨#[]⟩, .int .i64 (q2 : Int), .string ⟨#[]⟩, .string ⟨#[]⟩, .int .i64 0, .string ⟨data.toArray⟩, .int .i64 0, .string ⟨#[]⟩, .slice none 0 0, .slice none 0 0]) (by go_simp) hk24 ?_
    refine ord_nil ?_
    simp only [Act.put, sI, sS, sZ]
    have hadd := eadd_any e4 ⟨[98, 108, 111, 98], [], q2, ⟨[], [], 0⟩, data, 0, [], .slice none 0 0, .slice none 0 0, [], []⟩ none none 0 0 rfl rfl (Nat.zero_le _) (fun _ => oc_plain _ _ _ _ _ _ _ (.inl rfl) hq3 (by decide) (by simp; omega))
    unfold cmdV at hadd
    simp only at hadd
    go_wp2_with fail
    refine hadd.mono ?_
    rintro _ w5 ⟨rfl, vc5, l5, tm5, e5, hk5, hl5, ht5, hf5⟩
    clear hadd hnm
    have hkA : Kx (ET wk mk nm vc) w w4 := (hA.mono (fun _ _ x => x.elim)).trans (hk24.mono (fun _ _ x => .inr (.inl x)))
    have hkF := hkA.trans hk5
    have hlF : ∀ k, vc5.ownBlock = some k → vc.ownBlock = some k ∨ w.heap.size ≤ k := fun k x => (hl5 k x).imp _root_.id (fun x => Nat.le_trans hkA.size x)
    have hF : StR w0 w w5 wk mk nm h vc l tm n1 n2 1 f2 := ⟨vc5, l5, tm5, n1 + 1, _, e.turn e5 hkF hlF, hkF, hlF, by omega, by omega, ht5, fun x => (hf5 x).imp (fun y => ⟨y.1, by omega, by omega⟩) _root_.id⟩
    clear e5 hk5 hkA hkF e4 hk24 e3 e2 hbx
    go_wp2
    go_end0
    exact ⟨rfl, hF⟩

end Go.Proofs.YtepgoppgblfjbaaGreatDoor
namespace Go.Proofs.YtepgoppgblfjbaaGreatDoor
open Go.RowKit Go.Maps Go.WideMaps

theorem zero3 (w : World) : (zeroValue 3).run Tryz.prog w = .ok (.int .i64 0) w := by kernel_rfl
theorem under9 : Tryz.prog.underlying 9 = some .string := by kernel_rfl
theorem under196 : Tryz.prog.underlying 196 = some (.map 9 3) := by kernel_rfl

section
variable {P : Program} {K : TypeId} {ops : Array Oper} {C : World → Prop}
theorem ord_lookS {R : Act → World → Prop} {a : Act} {w : World} {o : Oper} {r : List (Oper × Bool)} (hg : o.guard = none) (m x : Operand) (t : TypeId) (hop : o.op = Op.lookup t m x false) (e : TypeId) (hK : P.underlying K = some .string) (ht : P.underlying t = some (.map K e)) (z : Value) (hz : ∀ w, (zeroValue e).run P w = .ok z w)
    (b n : Nat) (f : List UInt8 → Option Value) (hm : a.eval m = .map (some b)) (h : ∀ w, C w → MapS P K w b n f) (k : List UInt8) (hx : a.eval x = .string ⟨k.toArray⟩) (hk : k.length ≤ maxLen)
    (hc : OrdL P ops C R r (a.put o.dst ((f k).getD z)) w) : OrdL P ops C R ((o, true) :: r) a w := by
  refine ord_val hg _ (fun w' hC => ?_) hc
  obtain ⟨D, hown, ha⟩ := h w' hC
  obtain ⟨v, ps, hrun, hv⟩ := hown.lookup (string_keyed hK) ht (hz w') (zd := .held z) (zp := []) rfl (keyOf_string_mk (s := ⟨k.toArray⟩) hK (by simpa [ByteArray.size] using hk))
  rw [show (⟨k.toArray⟩ : ByteArray).data.toList = k from rfl, ha] at hv
  obtain rfl := held_of hv
  simp [execOp, hop, hm, hx, hrun, Result.andThen]
end

theorem Ew.look {w : World} {wk mk nm h : Nat} {vc : Value} {l : List Ocm} {tm : Bool} {n1 n2 : Nat} {f1 f2 : List UInt8 → Option Value} (e : Ew w wk mk nm h vc l tm n1 n2 f1 f2) (id : List UInt8) : ∃ q : Nat, (f1 id).getD (.int .i64 0) = .int .i64 (q : Int) ∧ q ≤ 1000000 := by
  cases hf : f1 id with
  | none => exact ⟨0, rfl, by decide⟩
  | some v =>
    obtain ⟨q, rfl, hq⟩ := e.v1 id v hf
    exact ⟨q, rfl, hq⟩
theorem Ew.lookN {w : World} {wk mk nm h : Nat} {vc : Value} {l : List Ocm} {tm : Bool} {n1 n2 : Nat} {f1 f2 : List UInt8 → Option Value} (e : Ew w wk mk nm h vc l tm n1 n2 f1 f2) (id : List UInt8) : ∃ q : Nat, (f2 id).getD (.int .i64 0) = .int .i64 (q : Int) ∧ q ≤ 1000000 := by
  cases hf : f2 id with
  | none => exact ⟨0, rfl, by decide⟩
  | some v =>
    obtain ⟨q, rfl, hq⟩ := e.v2 id v hf
    exact ⟨q, rfl, hq⟩

theorem Good.id {M : Nat → Prop} {w : World} {b : Nat} (h : Good M w b) : ∃ id : List UInt8, id.length = 64 ∧ w.cell? ⟨b, 2, none⟩ = some (.string ⟨id.toArray⟩) := by
  obtain ⟨⟨x, id, v, l, ap, cp, ps, au, msg, h1, _, _, _, _, _, _, h9⟩, _⟩ := h.out
  exact ⟨id, h9.id, Cb.cell h1 2⟩

end Go.Proofs.YtepgoppgblfjbaaGreatDoor
