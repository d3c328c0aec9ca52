import Derived.Test.YtepgoppgblfjbaaGreatDoorGw33
import Derived.Test.YtepgoppgblfjbaaGreatDoorRows
import Derived.ProofKit
import Derived.Deep.DeepHandedRow
import Derived.OpenShut
import Derived.LaidSub
import Derived.LaidMore
namespace Go.Proofs.YtepgoppgblfjbaaGreatDoor
open Go.RowKit

theorem es_new {M : Nat → Prop} {w : World} {h o c r t n : Nat} {S : St} (_ : Sto M w h o c r t n S) (hgl : Gl w) (h7 : 7 ≤ w.heap.size) :
    Es w (((w.alloc (.map #[] 0)).alloc (.map #[] 0)).alloc (.cells #[.pointer (some ⟨h, 0, none⟩), .slice none 0 0, .slice none 0 0, .map (some w.heap.size), .map (some (w.heap.size + 1)), .bool false] 198)) (w.heap.size + 2) w.heap.size (w.heap.size + 1) h (.slice none 0 0) [] false 0 0 none4 none4 := by
  have h1 := MapS.made (P := Tryz.prog) (K := 9) w
  have k1 := (Kx.refl (fun _ => False) w).alloc (.map #[] 0)
  have h2 := MapS.made (P := Tryz.prog) (K := 9) (w.alloc (.map #[] 0))
  have k2 := (Kx.refl (fun _ => False) (w.alloc (.map #[] 0))).alloc (.map #[] 0)
  have k3 := (Kx.refl (fun _ => False) ((w.alloc (.map #[] 0)).alloc (.map #[] 0))).alloc (.cells #[.pointer (some ⟨h, 0, none⟩), .slice none 0 0, .slice none 0 0, .map (some w.heap.size), .map (some (w.heap.size + 1)), .bool false] 198)
  have hcb := Cb.new #[.pointer (some ⟨h, 0, none⟩), .slice none 0 0, .slice none 0 0, .map (some w.heap.size), .map (some (w.heap.size + 1)), .bool false] 198 ((w.alloc (.map #[] 0)).alloc (.map #[] 0))
  have kx := (k1.trans k2).trans k3
  have hm1 := (h1.kept k2 id).kept k3 id
  have hm2 := h2.kept k3 id
  have hsz : (((w.alloc (.map #[] 0)).alloc (.map #[] 0)).alloc (.cells #[.pointer (some ⟨h, 0, none⟩), .slice none 0 0, .slice none 0 0, .map (some w.heap.size), .map (some (w.heap.size + 1)), .bool false] 198)).heap.size = w.heap.size + 3 := by simp
  simp only [World.size_alloc] at hcb hm2
  refine ⟨{ blk := hcb, row := World.ownsRow_nil _ _ _ _, mks := hm1, nms := hm2, v1 := fun k v e => (by cases e), v2 := fun k v e => (by cases e), few := Nat.zero_le _, ok := fun c hc => (by cases hc), sep := ⟨by omega, by omega, by omega, fun k e => (by cases e)⟩, low := by omega, lt := by rw [hsz]; omega }, kx, ⟨by omega, by omega, by omega, fun k e => by cases e⟩, hgl.kept kx (fun _ _ => id)⟩

set_option maxHeartbeats 1600000 in
set_option maxRecDepth 100000 in
theorem stream_any {M : Nat → Prop} {w : World} {h o c r t n : Nat} {S : St} (hs : Sto M w h o c r t n S) (hcont : ∀ id x, S.obj id = some x → x.2.length ≤ 14000) (hb : StB S) (hn : n ≤ 30000000000) (hgl : Gl w) (h7 : 7 ≤ w.heap.size) :
    Calls Tryz.prog 62 #[.pointer (some ⟨h, 0, none⟩), .slice none 0 0] w fun e w' => (∃ (text : List UInt8) (er : Int), e = .returned (.tuple #[.string ⟨text.toArray⟩, .int .i64 er]) ∧ (er = 0 ∨ er = 2)) ∧ Kx (fun _ => False) w w' := by
  have hmx : maxLen = 9223372036854775807 := rfl
  have hmk : ∀ t w, Sem.run Tryz.prog (Instr.makeMap t none) w = .ok (.map (some w.heap.size)) (w.alloc (.map #[] 0)) := fun _ _ => rfl
  have e0 := es_new hs hgl h7
  have hcall := addRefs_any hs hcont hb hn e0 (fun _ => Nat.le_refl _) (by decide) 0 (by decide) (by decide)
  go_enter Tryz.func62, Tryz.ntmps62
  go_wp2_with fail
  refine (areRight_nil _).mono ?_
  rintro _ wz ⟨rfl, hwz⟩
  rw [hwz]
  clear hwz wz
  go_wp2_with fail
  refine hcall.mono ?_
  rintro _ w1 ⟨rfl, vc1, l1, tm1, n11, n21, f11, f21, hP1, hn1, hn2⟩
  clear hcall hmk
  have hcall := addTags_any hs hcont hb hn hP1.es (fun x => by have := hP1.cnt x; simpa using this) hn1 (0 + n) hn2 (by omega)
  generalize w.heap.size = B at *
  go_wp2_with fail
  refine hcall.mono ?_
  rintro _ w2 ⟨rfl, vc2, l2, tm2, n12, n22, f12, f22, hP2, _, _⟩
  clear hcall
  have e2 := hP2.es
  have hkF := e2.kx
  have b5 := Cb.cell e2.ew.blk 5
  have b2 := Cb.cell e2.ew.blk 2
  obtain ⟨va, cv, hva⟩ := row_shape e2.ew.row
  subst hva
  clear hP1 hP2
  cases tm2 with
  | true =>
    go_wp2
    go_ret2
    exact ⟨⟨[], 2, rfl, .inr rfl⟩, hkF⟩
  | false =>
    have h7' : 7 ≤ w2.heap.size := by have := e2.ew.low.1; have := e2.ew.blk.lt; omega
    have hcall := writeAll_any l2 va cv w2 e2.gl h7' (Reads.of_own e2.ew.row) (fun k q => (e2.ew.row.lt k q).2) e2.ew.few (fun c hc => (e2.ew.ok c hc).mono (fun _ q => q.2))
    go_wp2_with fail
    refine hcall.mono ?_
    rintro _ w3 ⟨txt, rfl, htl, hk3⟩
    have hkG := hkF.trans hk3
    clear hcall b5 b2 e2 hk3 hkF
    by_cases h8 : 8000 < txt.length
    · have h8' : (8000 : Int) < (txt.length : Int) := by omega
      go_wp2
      go_ret2
      exact ⟨⟨[], 2, rfl, .inr rfl⟩, hkG⟩
    · have h8' : ¬ (8000 : Int) < (txt.length : Int) := by omega
      go_wp2
      go_ret2
      exact ⟨⟨txt, 0, rfl, .inl rfl⟩, hkG⟩

set_option maxHeartbeats 400000 in
theorem export_any {M : Nat → Prop} {w : World} {s h o c r t n : Nat} {S : St} {j : List UInt8} {vj : Value} (hs : Str M w s h o c r t n S j vj) (hcont : ∀ id x, S.obj id = some x → x.2.length ≤ 14000) (hb : StB S) (hn : n ≤ 30000000000) (hgl : Gl w) (h7 : 7 ≤ w.heap.size) :
    Calls Tryz.prog 41 #[.pointer (some ⟨s, 0, none⟩), .slice none 0 0] w fun e w' => (∃ (text : List UInt8) (er : Int), e = .returned (.tuple #[.string ⟨text.toArray⟩, .int .i64 er]) ∧ (er = 0 ∨ er = 2)) ∧ Kx (fun _ => False) w w' := by
  have c0 : w.cell? ⟨s, 0, none⟩ = some (.pointer (some ⟨h, 0, none⟩)) := Cb.cell hs.jr.blk 0
  have hcall := stream_any hs.sto hcont hb hn hgl h7
  go_enter Tryz.func41, Tryz.ntmps41
  go_wp2_with fail
  refine hcall.mono ?_
  rintro _ w1 ⟨⟨text, er, rfl, her⟩, hk⟩
  clear hcall c0
  go_wp2
  go_ret2
  exact ⟨⟨text, er, rfl, her⟩, hk⟩

structure OneJ (KK : List Int) (x : List UInt8) (S : St) (j : List UInt8) : Prop where
  pos : 1 ≤ j.length
  le : j.length ≤ 9000
  read : Pd.readJ KK (j.length + 1) j [] [] = some [x]
  opens : Pd.openS KK j = some (S, [x])
  cread : Pd.readJ KK ((j.take (j.length - 1)).length + 1) (j.take (j.length - 1)) [] [] = some []
  copens : Pd.openS KK (j.take (j.length - 1)) = some (St.empty, [])

theorem oneJ (KK : List Int) (x : List UInt8) (S : St) (n : Int) (h : Pd.imp KK St.empty x = ((n, 0), S)) : OneJ KK x S (Pd.record KK [] x) := by
  have hS : Pd.runS KK (fun _ => x) 1 = S := by
    show (Pd.imp KK St.empty x).2 = S
    rw [h]
  have hT : Pd.runT KK (fun _ => x) 1 = [x] := by
    show Pd.took KK St.empty [] x = _
    unfold Pd.took
    rw [h]
    rfl
  have hJ : Pd.runJ KK (fun _ => x) 1 = Pd.record KK [] x := by
    have := Pd.runJ_succ KK (fun _ => x) 0
    rw [this]
    show (if (Pd.imp KK St.empty x).1.2 = 0 then Pd.record KK [] x else _) = _
    rw [h]
    exact if_pos rfl
  have hlen : (Pd.record KK [] x).length = Pd.elen x := by
    rw [← hJ]
    show (Pd.entries KK [] (Pd.runT KK (fun _ => x) 1)).length = _
    rw [Pd.entries_len, hT]
    simp [Pd.total]
  have hx := (Pd.run_took KK (fun _ => x) 1).len x (by rw [hT]; exact List.mem_singleton.2 rfl)
  have he := Pd.elen_le hx.2
  have hrep : Pd.replay KK St.empty [x] = some S := by
    have := (Pd.run_took KK (fun _ => x) 1).rep
    rw [hT, hS] at this
    exact this
  have hr : Pd.readJ KK ((Pd.record KK [] x).length + 1) (Pd.record KK [] x) [] [] = some [x] := by
    have h := Pd.read_at KK (fun _ => x) 1 1 (Pd.record KK [] x).length ((Pd.record KK [] x).length + 1) (Nat.le_refl _) (by rw [hJ]; exact Nat.le_refl _) (fun k h1 h2 => absurd h1 (by omega)) (by rw [List.length_take]; omega)
    rw [hT, hJ, List.take_length] at h
    exact h
  have hpos : 1 ≤ (Pd.record KK [] x).length := by rw [hlen]; unfold Pd.elen; omega
  have hc : Pd.readJ KK (((Pd.record KK [] x).take ((Pd.record KK [] x).length - 1)).length + 1) ((Pd.record KK [] x).take ((Pd.record KK [] x).length - 1)) [] [] = some [] := by
    have h := Pd.read_at KK (fun _ => x) 1 0 ((Pd.record KK [] x).length - 1) (((Pd.record KK [] x).take ((Pd.record KK [] x).length - 1)).length + 1) (Nat.zero_le _) (Nat.zero_le _) (fun k h1 h2 => by
      obtain rfl : k = 1 := by omega
      rw [hJ]
      omega) (by rw [hJ]; exact Nat.lt_succ_self _)
    rw [hJ] at h
    exact h
  refine ⟨hpos, by omega, hr, ?_, hc, ?_⟩
  · unfold Pd.openS
    rw [hr]
    show (Pd.replay KK St.empty [x]).map _ = _
    rw [hrep]
    rfl
  · unfold Pd.openS
    rw [hc]
    rfl

theorem ex_journal : ∃ j, OneJ Sh.K exampleL Ex.st j ∧ Pd.record Sh.K [] exampleL = j := ⟨_, oneJ Sh.K exampleL Ex.st 2 Ex.imp, rfl⟩

set_option maxHeartbeats 1600000 in
set_option maxRecDepth 100000 in
theorem opened_any (w : World) (hgl : Gl w) (h7 : 7 ≤ w.heap.size) :
    Calls Tryz.prog 35 #[] w fun e w' => e = .returned (.bool true) ∧ Kx (fun _ => False) w w' := by
  have hmx : maxLen = 9223372036854775807 := rfl
  obtain ⟨jl, ⟨hjp, hjl, hjr, hjo, hcr, hco⟩, hjn⟩ := ex_journal
  go_enter Tryz.func35, Tryz.ntmps35
  go_wp2_with fail
  refine (imported_any w hgl h7).mono ?_
  rintro _ w1 ⟨rfl, hk1⟩
  have hgl1 := hgl.kept hk1 (fun _ _ => id)
  have h71 : 7 ≤ w1.heap.size := Nat.le_trans h7 hk1.size
  go_wp2_with fail
  refine (new_any (fun _ => False) w1 (fun _ h => h.elim) h71).mono ?_
  rintro _ w2 ⟨s, h, o, c, r, t, rfl, hN⟩
  obtain ⟨hO, hX⟩ := Oj.start hN
  have hk2 := hk1.trans hN.kx
  have hgl2 := hgl1.kept hN.kx (fun _ _ => id)
  have himp := hO.import hgl2 exampleL (by decide) (by decide) (by decide)
  rw [Ex.imp, if_pos rfl, hjn] at himp
  have HO : Hid (Oj (fun k => False ∨ k = s ∨ Fo o c r t k) w2 s St.empty [] 0 (StX s o c r t (.slice none 0 0))) := hO
  have hN1 := hN.kx
  clear hN hO hgl hgl1
  go_wp2_with fail
  refine (example_any _).mono ?_
  rintro _ _ ⟨rfl, rfl⟩
  go_wp2_with fail
  refine himp.mono ?_
  rintro _ w3 ⟨rfl, M3, X3, g1, g2, g3, g4, g5⟩
  clear himp
  have hk13 : Kx (fun _ => False) w1 w3 := hN1.join g5 (fun k hk e => absurd (hX k e) (by omega))
  have hk3 := hk1.trans hk13
  have hgl3 := hgl2.kept g5 (fun k hk e => by have := (HO.out.low k (HO.out.inM k e)).1; omega)
  have h73 : 7 ≤ w3.heap.size := Nat.le_trans h7 hk3.size
  have hbytes := g1.bytes (by omega)
  clear HO g2 g3 g4 g5 hX hN1 hk13 hk2 hgl2 h71
  go_wp2_with fail
  refine hbytes.mono ?_
  rintro _ w4 ⟨vb, rfl, hrow, hk4⟩
  clear hbytes
  have hs4 := g1.kept hk4
  have hgl4 := hgl3.kept hk4 (fun _ _ => id)
  have h74 : 7 ≤ w4.heap.size := Nat.le_trans h73 hk4.size
  have hB4 := BytesAt.of_own hrow rfl
  obtain ⟨g, cap, rfl, hcell⟩ : ∃ g cap, vb = .slice (some ⟨g, 0, none⟩) jl.length cap ∧ jl.length ≤ cap := by
    rcases hrow.2 with ⟨_, h2⟩ | ⟨g, cap, cur, h1, _, _, h2, _⟩
    · omega
    · exact ⟨g, cap, h1, h2⟩
  have hk04 := hk3.trans hk4
  have hop := open_any (fun _ => False) _ jl w4 (fun _ h => h.elim) hgl4 hB4 (by omega) h74 (fun xs hx => by rw [hjr] at hx; cases hx; decide)
  rw [hjo] at hop
  clear g1 hgl3 h73 hk3 hk4 hrow
  go_wp2_with fail
  refine hop.mono ?_
  rintro e w5 ⟨hR, hk5⟩
  obtain ⟨t1, rfl, M5, X5, hT5, _, _, _⟩ : ∃ t1, e = .returned (.tuple #[.pointer (some ⟨t1, 0, none⟩), .int .i64 0]) ∧ OpenOk (fun _ => False) w4 w5 t1 Ex.st (Pd.entries Sh.K [] [exampleL]) (800000 * 1) := hR
  clear hop
  have hB5 : BytesAt w5 (.slice (some ⟨g, 0, none⟩) (jl.length - 1) cap) (jl.take (jl.length - 1)) := by
    rcases hB4.kept hk5 with ⟨h1, _⟩ | ⟨a, c2, h1, h2⟩
    · cases h1
    · cases h1
      refine .inr ⟨_, cap, by rw [List.length_take, Nat.min_eq_left (by omega)], fun i x hx => h2 i x ?_⟩
      unfold A8 at hx ⊢
      rw [List.map_take] at hx
      have hi : i < jl.length - 1 := by
        have := (List.getElem?_eq_some_iff.1 hx).1
        rw [List.length_take] at this
        omega
      rw [List.getElem?_take_of_lt hi] at hx
      exact hx
  have hs5 := hs4.kept hk5
  have hgl5 := hgl4.kept hk5 (fun _ _ => id)
  have h75 : 7 ≤ w5.heap.size := Nat.le_trans h74 hk5.size
  have hk05 := hk04.trans hk5
  have hop2 := open_any (fun _ => False) _ _ w5 (fun _ h => h.elim) hgl5 hB5 (by rw [List.length_take]; omega) h75 (fun xs hx => by rw [hcr] at hx; cases hx; decide)
  rw [hco] at hop2
  clear hB4 hB5 hs4 hgl4 h74 hk04 hk5 hgl5 h75
  have hj0 : ¬ (jl.length : Int) = 0 := by omega
  have hj1 : ((jl.length : Int) == 0) = false := by simpa using hj0
  have hj2 : ((jl.length : Int) - 1) = ((jl.length - 1 : Nat) : Int) := by omega
  generalize hJ : jl.length = J at *
  go_wp2_with fail
  refine hop2.mono ?_
  rintro e w6 ⟨hR, hk6⟩
  obtain ⟨t2, rfl, M6, X6, hU6, _, _, _⟩ : ∃ t2, e = .returned (.tuple #[.pointer (some ⟨t2, 0, none⟩), .int .i64 0]) ∧ OpenOk (fun _ => False) w5 w6 t2 St.empty (Pd.entries Sh.K [] []) (800000 * 0) := hR
  clear hop2
  have hk06 := hk05.trans hk6
  have hs6 := hs5.kept hk6
  have hsh1 := (hT5.kept hk6).shown (by decide)
  clear hT5 hs5 hk05 hk6
  go_wp2_with fail
  refine hsh1.mono ?_
  rintro _ w7 ⟨o1, rfl, hS1, _, hk7⟩
  clear hsh1
  have hsh2 := (hs6.kept hk7).shown (by decide)
  have hU7 := hU6.kept hk7
  have hk07 := hk06.trans hk7
  clear hs6 hU6 hk06 hk7
  go_wp2_with fail
  refine hsh2.mono ?_
  rintro _ w8 ⟨o2, rfl, hS2, _, hk8⟩
  clear hsh2
  obtain rfl := hS1.one hS2
  have hsh3 := (hU7.kept hk8).shown (by decide)
  have hk08 := hk07.trans hk8
  clear hU7 hk07 hk8 hS1 hS2
  go_wp2_with fail
  refine hsh3.mono ?_
  rintro _ w9 ⟨o3, rfl, hS3, _, hk9⟩
  clear hsh3
  obtain rfl := hS3.empty
  have hk09 := hk08.trans hk9
  go_wp2
  go_ret
  exact ⟨rfl, hk09⟩

set_option maxHeartbeats 400000 in
theorem pick_wide (c : Int) (n : Nat) (w : World) (h1 : 0 < n) (h2 : n ≤ 100000000) (hc1 : -9223372036854775808 ≤ c) (hc2 : c ≤ 9223372036854775807) :
    Calls Tryz.prog 19 #[.int .i64 c, .int .i64 (n : Int)] w fun e w' => e = .returned (.int .i64 (pickN c n : Nat)) ∧ w' = w := by
  by_cases h : c < 0
  · have HE : Hid ((pickN c n : Int) = -(c + 1).tmod (n : Int)) := by
      show _ = _
      unfold pickN
      rw [if_pos h, toNat_mod _ _ (by omega), ← Int.tmod_eq_emod_of_nonneg (by omega), Int.neg_tmod]
    have hn : ¬ (n : Int) = 0 := by omega
    go_enter Tryz.func19, Tryz.ntmps19
    go_wp2
    go_ret
    exact ⟨ret_int HE.out.symm, rfl⟩
  · have HE : Hid ((pickN c n : Int) = c % (n : Int)) := by
      show _ = _
      unfold pickN; rw [if_neg h, toNat_mod _ _ (by omega)]
    have hn : ¬ (n : Int) = 0 := by omega
    go_enter Tryz.func19, Tryz.ntmps19
    go_wp2
    go_ret
    exact ⟨ret_int HE.out.symm, rfl⟩

structure ActsL (W : World) (a : Option Addr) (len : Nat) (y : Nat → List UInt8) : Prop where
  small : len ≤ maxLen
  ylen : ∀ i, (y i).length ≤ 2405
  at' : len ≠ 0 → ∃ b off, a = some ⟨b, off, none⟩ ∧ ∀ i, i < len → ∃ a' l' c', W.cell? ⟨b, off + i, none⟩ = some (.slice a' l' c') ∧
    ∀ w1, Kx (fun _ => False) W w1 → Calls Tryz.prog 17 #[.slice a' l' c'] w1 fun e w' => e = .returned (.string ⟨(y i).toArray⟩) ∧ Kx (fun _ => False) w1 w'

theorem ActsL.get {W wr : World} {b off i : Nat} {v : Value} (h : W.cell? ⟨b, off + i, none⟩ = some v) (hk : Kx (fun _ => False) W wr) : wr.cell? ⟨b, off + i, none⟩ = some v :=
  (hk.cell (p := ⟨b, off + i, none⟩) (lt_of_cell (p := ⟨b, off + i, none⟩) h) id).trans h

namespace Pd
end Pd

inductive Ask (w : World) : Value → Int → Prop
  | no : Ask w (.pointer none) 6
  | yes (b : List UInt8) (hb : b.length ≤ 1048576) (S : St) (xs : List (List UInt8)) (ho : Pd.openS Sh.K b = some (S, xs)) (M X : Nat → Prop) (s : Nat) (hO : Oj M w s S (Pd.entries Sh.K [] xs) (800000 * xs.length) X) : Ask w (.pointer (some ⟨s, 0, none⟩)) 0

theorem Ask.kept {w w' : World} {v : Value} {e : Int} (h : Ask w v e) (hk : Kx (fun _ => False) w w') : Ask w' v e := by
  cases h with
  | no => exact .no
  | yes b hb S xs ho M X s hO => exact .yes b hb S xs ho M X s (hO.kept hk)

theorem openAsk_any (vb : Value) (b : List UInt8) (w : World) (hgl : Gl w) (hv : BytesAt w vb b) (hbl : b.length ≤ 1048576) (h7 : 7 ≤ w.heap.size) :
    Calls Tryz.prog 38 #[vb] w fun e w' => ∃ xv ev, e = .returned (.tuple #[xv, .int .i64 ev]) ∧ Ask w' xv ev ∧ Kx (fun _ => False) w w' := by
  refine (open_any (fun _ => False) vb b w (fun _ h => h.elim) hgl hv (by omega) h7 (fun xs hx => (Pd.open_few hbl xs hx).1)).mono ?_
  rintro e w' ⟨hR, hk⟩
  cases ho : Pd.openS Sh.K b with
  | none =>
    rw [ho] at hR
    exact ⟨_, _, hR, .no, hk⟩
  | some x =>
    obtain ⟨S, xs⟩ := x
    rw [ho] at hR
    obtain ⟨s, he, M, X, hO, _, _, _⟩ := hR
    exact ⟨_, _, he, .yes b hbl S xs ho M X s hO, hk⟩

set_option maxHeartbeats 1600000 in
set_option maxRecDepth 100000 in
theorem asked_any (v : Value) (er : Int) (w : World) (hA : Ask w v er) (hgl : Gl w) (h7 : 7 ≤ w.heap.size) :
    Calls Tryz.prog 39 #[v, .int .i64 er] w fun e w' => e = .returned (.bool true) ∧ Kx (fun _ => False) w w' := by
  have hmx : maxLen = 9223372036854775807 := rfl
  cases hA with
  | no =>
    have hk0 := Kx.refl (fun _ => False) w
    go_enter Tryz.func39, Tryz.ntmps39
    go_wp2
    go_ret
    exact ⟨rfl, hk0⟩
  | yes b hb S xs ho M X s hO =>
    obtain ⟨hr1, _⟩ := Pd.openS_some ho
    obtain ⟨hx3, hj12⟩ := Pd.open_few hb xs hr1
    obtain ⟨hr2, ho2⟩ := Pd.open_again ho
    have hK := Pd.open_k ho
    clear hr1 ho hb
    generalize Pd.entries Sh.K [] xs = j at *
    have hby := hO.bytes (by omega)
    go_enter Tryz.func39, Tryz.ntmps39
    go_wp2_with fail
    refine hby.mono ?_
    rintro _ w1 ⟨vb, rfl, hrow, hk1⟩
    clear hby
    have hgl1 := hgl.kept hk1 (fun _ _ => id)
    have h71 := Nat.le_trans h7 hk1.size
    have hop := open_any (fun _ => False) vb j w1 (fun _ h => h.elim) hgl1 (BytesAt.of_own hrow rfl) (by omega) h71 (fun ys hy => by rw [hr2] at hy; cases hy; omega)
    rw [ho2] at hop
    clear hr2 ho2 hrow
    go_wp2_with fail
    refine hop.mono ?_
    rintro e w2 ⟨hR, hk2⟩
    obtain ⟨t2, rfl, M2, X2, hT2, _, _, _⟩ := hR
    clear hop
    have hk02 := hk1.trans hk2
    have hsh := hT2.shown (show 800000 * xs.length ≤ 30000000000 by omega)
    go_wp2_with fail
    refine hsh.mono ?_
    rintro _ w3 ⟨out, rfl, hSR, hol, hk3⟩
    clear hsh hT2
    have hk03 := hk02.trans hk3
    have hO3 := hO.kept hk03
    have hsh := hO3.shown (by omega)
    go_wp2_with fail
    refine hsh.mono ?_
    rintro _ w4 ⟨out2, rfl, hSR2, hol2, hk4⟩
    clear hsh
    obtain rfl := hSR.one hSR2
    have hk04 := hk03.trans hk4
    have hO4 := hO.kept hk04
    obtain ⟨hh, o, c, r, t, nn, vj, hs4, hnn, _⟩ := hO4.ex
    have hcall := refs_any' hs4 (by omega)
    clear hSR hSR2 hk1 hk2 hk3 hk4 hk02 hk03 hO3 hgl1 h71
    go_wp2_with fail
    refine hcall.mono ?_
    rintro _ w5 ⟨rv, ks, rfl, hKL, hkn, hrow, hk5⟩
    clear hcall
    have hk05 := hk04.trans hk5
    obtain ⟨av, cv, hav⟩ := row_shape hrow
    subst hav
    clear hk5
    go_wp2_with fail
    go_loopw [9] (fun iv wr => ∃ k : Nat, iv = .int .i64 k ∧ k ≤ ks.length ∧ Kx (fun _ => False) w5 wr) (fun iv _ => ks.length - (intOf iv).toNat)
    case atStart => exact ⟨0, rfl, by omega, Kx.refl _ _⟩
    case round =>
      obtain ⟨k, rfl, hk, hkr⟩ := hrel
      have hk0r := hk05.trans hkr
      have hOr := hO.kept hk0r
      by_cases hlt : k < ks.length
      · have hlt2 : (k : Int) < (ks.length : Int) := by omega
        have hrow2 := own_kept' hrow hkr (fun _ _ _ => id)
        obtain ⟨rb, rc, he, r0, r1⟩ := row2b_cell (g := idAt S.ref) hrow2 k hlt
        cases he
        obtain ⟨xc, hxc, hxl, hcn⟩ : ∃ xc : List UInt8, idAt S.ref ks[k] = Sh.hex xc ∧ xc.length = 32 ∧ ∃ cc, S.com (Sh.hex xc) = some cc := by
          have h2 := (hKL.mem ks[k]).1 (List.getElem_mem hlt)
          cases hx : S.ref ks[k] with
          | none => rw [hx] at h2; cases h2
          | some x =>
            refine ⟨x.sum, by unfold idAt; rw [hx]; rfl, (hK.ref _ _ hx).sum, ?_⟩
            have := (hK.ref _ _ hx).com
            cases hy : S.com (Sh.hex x.sum) with
            | none => exact absurd hy this
            | some cc => exact ⟨cc, rfl⟩
        obtain ⟨cc, hcc⟩ := hcn
        rw [hxc] at r1
        have hrl : (Sh.hex xc).length ≤ maxLen := by rw [hex_len]; omega
        generalize Sh.hex xc = rid at *
        generalize ks[k] = name at *
        obtain ⟨hh2, o2, c2, r2, t2', nn2, vj2, hsr, _, _⟩ := hOr.ex
        have hcall := files_any hsr rid hrl
        rw [hcc] at hcall
        clear hrow2 hxc r0
        go_wp2_with fail
        refine hcall.mono ?_
        rintro e w6 ⟨⟨fv, rfl, _⟩, hk6⟩
        have hkq := hkr.trans hk6
        clear hcall r1
        go_wp2
        go_roundw
        case rel => exact ⟨k + 1, by go_num, hlt, hkq⟩
        case measure => simp [intOf]; omega
      · have hlt2 : ¬ (k : Int) < (ks.length : Int) := by omega
        obtain ⟨hh2, o2, c2, r2, t2', nn2, vj2, hsr, hnn2, _⟩ := hOr.ex
        have hcall := export_any hsr hK.obj hOr.b (by omega) (hgl.kept hk0r (fun _ _ => id)) (Nat.le_trans h7 hk0r.size)
        go_wp2_with fail
        refine hcall.mono ?_
        rintro _ w6 ⟨⟨text, eq, rfl, heq⟩, hk6⟩
        have hkF := hk0r.trans hk6
        clear hcall
        rcases heq with rfl | rfl
        · go_wp2
          go_ret
          exact ⟨rfl, hkF⟩
        · go_wp2
          go_ret
          exact ⟨rfl, hkF⟩

structure Fed (w w' : World) (s : Nat) : Prop where
  ex : ∃ S j M X, Oj M w' s S j 4000000 X ∧ j.length ≤ 40185
  kx : Kx (fun _ => False) w w'
  gl : Gl w'

set_option maxHeartbeats 1600000 in
set_option maxRecDepth 100000 in
theorem fed_any (a : Option Addr) (len cap : Nat) (y : Nat → List UInt8) (w : World) (hgl : Gl w) (h7 : 7 ≤ w.heap.size) (hY : ActsL w a len y) :
    Calls Tryz.prog 30 #[.slice a len cap] w fun e w' => ∃ s, e = .returned (.pointer (some ⟨s, 0, none⟩)) ∧ Fed w w' s := by
  have hmx : maxLen = 9223372036854775807 := rfl
  have HA : Hid (ActsL w a len y) := hY
  have hls := HA.out.small
  go_enter Tryz.func30, Tryz.ntmps30
  go_wp2_with fail
  refine (new_any (fun _ => False) w (fun _ h => h.elim) h7).mono ?_
  rintro _ w1 ⟨s, h, o, c, r, t, rfl, hN⟩
  obtain ⟨hO, hX⟩ := Oj.start hN
  have hk1 := hN.kx
  have hgl1 := hgl.kept hk1 (fun _ _ => id)
  have HI : Hid (∃ (S : St) (j : List UInt8) (M X : Nat → Prop), Oj M w1 s S j (800000 * 0) X ∧ j.length ≤ 8037 * 0 ∧ (∀ k, X k → w.heap.size ≤ k) ∧ Gl w1 ∧ Kx (fun _ => False) w w1) := ⟨_, _, _, _, hO, Nat.le_refl _, hX, hgl1, hk1⟩
  clear hN hO hX hk1 hgl1
  go_wp2_with fail
  go_loopw [4] (fun iv wr => ∃ i : Nat, iv = .int .i64 i ∧ i ≤ 5 ∧ Hid (∃ (S : St) (j : List UInt8) (M X : Nat → Prop), Oj M wr s S j (800000 * i) X ∧ j.length ≤ 8037 * i ∧ (∀ k, X k → w.heap.size ≤ k) ∧ Gl wr ∧ Kx (fun _ => False) w wr)) (fun iv _ => 5 - (intOf iv).toNat)
  case atStart => exact ⟨0, rfl, by omega, HI⟩
  case round =>
    obtain ⟨i, rfl, hi, HJ⟩ := hrel
    clear HI
    obtain ⟨S, j, M, X, hO, hjl, hX, hglr, hkr⟩ := HJ.out
    clear HJ
    by_cases him : i < len ∧ i < 5
    · have hil : (i : Int) < (len : Int) := by omega
      have hi5 : (i : Int) < 5 := by omega
      obtain ⟨b, off, rfl, hcells⟩ := HA.out.at' (by omega)
      obtain ⟨a', l', c', hc0, hcall⟩ := hcells i (by omega)
      have hc := ActsL.get hc0 hkr
      have hstr := hcall wr hkr
      have hyl := HA.out.ylen i
      clear hcells hc0 hcall
      go_wp2_with fail
      refine hstr.mono ?_
      rintro _ w5 ⟨rfl, hk5⟩
      clear hstr hc
      have hO5 := hO.kept hk5
      have hgl5 := hglr.kept hk5 (fun _ _ => id)
      have himp := hO5.import hgl5 (y i) (by omega) (by omega) (by omega)
      have hk05 := hkr.trans hk5
      have hrec : (if (Pd.imp Sh.K S (y i)).1.2 = 0 then Pd.record Sh.K j (y i) else j).length ≤ 8037 * (i + 1) := by
        split
        · have h1 := Pd.elen_le (x := y i) (by omega)
          have h2 : (Pd.record Sh.K j (y i)).length = j.length + Pd.elen (y i) := by
            rw [Pd.record_entry, List.length_append, Pd.entry_len]
          omega
        · omega
      generalize (if (Pd.imp Sh.K S (y i)).1.2 = 0 then Pd.record Sh.K j (y i) else j) = j2 at *
      generalize (Pd.imp Sh.K S (y i)).2 = S2 at *
      generalize (Pd.imp Sh.K S (y i)).1.1 = n1 at *
      generalize (Pd.imp Sh.K S (y i)).1.2 = e1 at *
      generalize y i = yi at *
      clear hO hk5 hglr
      go_wp2_with fail
      refine himp.mono ?_
      rintro _ w6 ⟨rfl, M6, X6, g1, g2, g3, g4, g5⟩
      clear himp
      have hk6 : Kx (fun _ => False) w w6 := hk05.join g5 (fun k hk e => absurd (hX k e) (by omega))
      have hgl6 := hgl5.kept g5 (fun k hk e => by have := (hO5.low k (hO5.inM k e)).1; omega)
      have HJ6 : Hid (∃ (S : St) (j : List UInt8) (M X : Nat → Prop), Oj M w6 s S j (800000 * (i + 1)) X ∧ j.length ≤ 8037 * (i + 1) ∧ (∀ k, X k → w.heap.size ≤ k) ∧ Gl w6 ∧ Kx (fun _ => False) w w6) :=
        ⟨_, _, _, _, g1.more (by omega), hrec, fun k e => (g4 k e).elim (hX k) (fun e => Nat.le_trans hk05.size e), hgl6, hk6⟩
      clear g1 g2 g3 g4 g5 hO5 hgl5 hk05 hk6 hgl6 hrec hX hkr
      go_wp2
      go_roundw
      case rel => exact ⟨i + 1, by go_num, by omega, HJ6⟩
      case measure => simp [intOf]; omega
    · have hF : Fed w wr s := ⟨⟨S, j, M, X, hO.more (by omega), by omega⟩, hkr, hglr⟩
      clear hO hX hglr hkr
      by_cases hil : i < len
      · have hil2 : (i : Int) < (len : Int) := by omega
        have hi5 : ¬ (i : Int) < 5 := by omega
        go_wp2
        go_ret
        exact ⟨s, rfl, hF⟩
      · have hil2 : ¬ (i : Int) < (len : Int) := by omega
        go_wp2
        go_ret
        exact ⟨s, rfl, hF⟩

theorem ActsL.kept {W W' : World} {a : Option Addr} {len : Nat} {y : Nat → List UInt8} (h : ActsL W a len y) (hk : Kx (fun _ => False) W W') : ActsL W' a len y := by
  refine ⟨h.small, h.ylen, fun hn => ?_⟩
  obtain ⟨b, off, ha, hc⟩ := h.at' hn
  refine ⟨b, off, ha, fun i hi => ?_⟩
  obtain ⟨a', l', c', h1, h2⟩ := hc i hi
  exact ⟨a', l', c', ActsL.get h1 hk, fun w1 hk1 => h2 w1 (hk.trans hk1)⟩

theorem u8_of (E : Int) (h0 : 0 ≤ E) (h1 : E < 256) : ∃ c : UInt8, E = (c.toNat : Int) := by
  refine ⟨UInt8.ofNat E.toNat, ?_⟩
  have h2 : E.toNat < 256 := by omega
  rw [UInt8.toNat_ofNat', Nat.mod_eq_of_lt h2]
  omega

theorem A8_set (j : List UInt8) (k : Nat) (c : UInt8) : A8 (j.set k c) = (A8 j).set k (.int .u8 (c.toNat : Int)) := by
  unfold A8
  rw [List.map_set]

theorem BytesAt.put {w : World} {g cap k : Nat} {cur : Array Value} {j : List UInt8} (c : UInt8) (hg : Cb g cur 5 w) (hk : k < j.length) (hcap : cur.size = cap * 1) (hjc : j.length ≤ cap) (ht : cur.toList.take (j.length * 1) = A8 j) :
    BytesAt (w.setCell ⟨g, k, none⟩ (.int .u8 (c.toNat : Int))) (.slice (some ⟨g, 0, none⟩) j.length cap) (j.set k c) := by
  refine .inr ⟨⟨g, 0, none⟩, cap, by rw [List.length_set], fun i x hx => ?_⟩
  have hb := hg.set k (.int .u8 (c.toNat : Int))
  have hi : i < j.length := by
    have := (List.getElem?_eq_some_iff.1 hx).1
    rwa [A8_len, List.length_set] at this
  have hadd : (⟨g, 0, none⟩ : Addr).add i = ⟨g, i, none⟩ := by unfold Addr.add; simp; omega
  rw [hadd, Cb.cell hb i]
  rw [A8_set] at hx
  by_cases hik : i = k
  · subst hik
    rw [List.getElem?_set_self (by rw [A8_len]; omega)] at hx
    rw [Array.getElem?_setIfInBounds_self_of_lt (by omega)]
    exact hx
  · rw [List.getElem?_set_ne (Ne.symm hik)] at hx
    rw [Array.getElem?_setIfInBounds_ne (Ne.symm hik)]
    rw [← ht, List.getElem?_take_of_lt (by omega)] at hx
    simpa using hx

set_option maxHeartbeats 1600000 in
set_option maxRecDepth 100000 in
theorem strange_any (bs : List UInt8) (hbs : bs.length ≤ 1048576) (a : Option Addr) (len cap : Nat) (pos tob : Int) (y : Nat → List UInt8) (w : World) (hgl : Gl w) (h7 : 7 ≤ w.heap.size) (hY : ActsL w a len y)
    (hp : -9223372036854775808 ≤ pos ∧ pos ≤ 9223372036854775807) :
    Calls Tryz.prog 11 #[.string ⟨bs.toArray⟩, .slice a len cap, .int .i64 pos, .int .i64 tob] w fun e w' => e = .returned (.bool true) ∧ Kx (fun _ => False) w w' := by
  have hmx : maxLen = 9223372036854775807 := rfl
  go_enter Tryz.func11, Tryz.ntmps11
  go_wp2_with fail
  refine (opened_any w hgl h7).mono ?_
  rintro _ w1 ⟨rfl, hk1⟩
  have hgl1 := hgl.kept hk1 (fun _ _ => id)
  have h71 := Nat.le_trans h7 hk1.size
  have hfed := fed_any a len cap y w1 hgl1 h71 (hY.kept hk1)
  clear hY hgl
  go_wp2_with fail
  refine hfed.mono ?_
  rintro _ w2 ⟨s, rfl, hF⟩
  clear hfed hgl1
  obtain ⟨⟨S, j, M, X, hO, hjl⟩, hk2, hgl2⟩ := hF
  have hk02 := hk1.trans hk2
  go_wp2_with (refine wpList_bytesOf _ rfl 9 58 5 _ rfl Tryz.underlying9 Tryz.underlying58 Tryz.underlying5 bs rfl (by omega) ?_)
  intro v3 w3 hown3 hk3
  have hk03 := hk02.trans hk3
  have hgl3 := hgl2.kept hk3 (fun _ _ => id)
  have hop := openAsk_any v3 bs w3 hgl3 (BytesAt.of_ownB hown3) hbs (Nat.le_trans h7 hk03.size)
  clear hown3
  go_wp2_with fail
  refine hop.mono ?_
  rintro _ w4 ⟨xv, ev, rfl, hAx, hk4⟩
  clear hop
  have hk04 := hk03.trans hk4
  have hgl4 := hgl3.kept hk4 (fun _ _ => id)
  have hO4 := hO.kept (hk3.trans hk4)
  have hby := hO4.bytes (by omega)
  clear hO hk1 hk2 hk3 hk4 hk02 hk03 hgl2 hgl3 h71
  go_wp2_with fail
  refine hby.mono ?_
  rintro _ w5 ⟨vb, rfl, hrow, hk5⟩
  clear hby hO4
  obtain ⟨av, cv, hav⟩ := row_shape hrow
  subst hav
  go_upto_if 37 with fail
  go_cut [] from 18 (fun wx => ∃ j' : List UInt8, BytesAt wx (.slice av j.length cv) j' ∧ j'.length ≤ 50000 ∧ Kx (fun _ => False) w4 wx)
  case first =>
    by_cases hj0 : 0 < j.length
    · have hj1 : (0 : Int) < (j.length : Int) := by omega
      obtain ⟨g, cap', cur, h1, hge, hg, hc, hm, hsz, ht⟩ : ∃ g cap' cur, Value.slice av j.length cv = .slice (some ⟨g, 0, none⟩) j.length cap' ∧ w4.heap.size ≤ g ∧ w5.heap[g]? = some (.cells cur 5 (0, 0)) ∧ j.length ≤ cap' ∧ cap' ≤ maxLen ∧ cur.size = cap' * 1 ∧ cur.toList.take (j.length * 1) = A8 j := by
        rcases hrow.2 with ⟨_, h0⟩ | ⟨g, cap', cur, h1, hge, hg, hc, hm, hsz, ht⟩
        · omega
        · exact ⟨g, cap', cur, h1, hge, hg, hc, hm, hsz, ht⟩
      cases h1
      have hpick := fun w => pick_wide pos j.length w hj0 (by omega) hp.1 hp.2
      have hkk := pickN_lt pos j.length hj0
      generalize pickN pos j.length = k at *
      have hCb : Cb g cur 5 w5 := hg
      obtain ⟨c0, hc0⟩ : ∃ c0 : Value, w5.cell? ⟨g, k, none⟩ = some c0 := ⟨cur[k]'(by omega), by rw [Cb.cell hCb k]; simp⟩
      have z0 := Cb.frozen hCb k
      have hk2 : (k : Int) < (j.length : Int) := by omega
      have HW : ∀ c : UInt8, Hid (∃ j' : List UInt8, BytesAt (w5.setCell ⟨g, k, none⟩ (.int .u8 (c.toNat : Int))) (.slice (some ⟨g, 0, none⟩) j.length cv) j' ∧ j'.length ≤ 50000 ∧ Kx (fun _ => False) w4 (w5.setCell ⟨g, k, none⟩ (.int .u8 (c.toNat : Int)))) := fun c =>
        ⟨j.set k c, BytesAt.put c hCb hkk hsz hc ht, by rw [List.length_set]; omega, hk5.join ((Kx.refl _ _).only_set _ : Kx (Only g) w5 _) (fun i hi e => absurd (show i = g from e) (by omega))⟩
      obtain ⟨cB, hcB⟩ := u8_of (tob % 256) (Int.emod_nonneg _ (by decide)) (Int.emod_lt_of_pos _ (by decide))
      have HB := HW cB
      rw [← hcB] at HB
      clear hCb ht hg hrow HW hcB
      go_wp2_with fail
      refine (hpick _).mono ?_
      rintro _ w6 ⟨rfl, hw6⟩
      subst hw6
      clear hpick
      go_wp2_with fail
      go_meet
      exact HB.out
    · have hj1 : ¬ (0 : Int) < (j.length : Int) := by omega
      have hB := BytesAt.of_own hrow rfl
      go_wp2_with fail
      go_meet
      exact ⟨j, hB, by omega, hk5⟩
  case rest =>
    obtain ⟨j', hB, hjl', hk6⟩ := hcut
    have hk06 := hk04.trans hk6
    have hgl6 := hgl4.kept hk6 (fun _ _ => id)
    have hop := openAsk_any _ j' wc hgl6 hB (by omega) (Nat.le_trans h7 hk06.size)
    clear hB hrow hk5
    go_wp2_with fail
    refine hop.mono ?_
    rintro _ w8 ⟨yv, ev2, rfl, hAy, hk8⟩
    clear hop
    have hk08 := hk06.trans hk8
    have hgl8 := hgl6.kept hk8 (fun _ _ => id)
    have ha1 := asked_any xv ev w8 (hAx.kept (hk6.trans hk8)) hgl8 (Nat.le_trans h7 hk08.size)
    clear hk6 hk8 hgl6 hAx
    go_wp2_with fail
    refine ha1.mono ?_
    rintro _ w9 ⟨rfl, hk9⟩
    clear ha1
    have hk09 := hk08.trans hk9
    have ha2 := asked_any yv ev2 w9 (hAy.kept hk9) (hgl8.kept hk9 (fun _ _ => id)) (Nat.le_trans h7 hk09.size)
    clear hAy hgl8
    go_wp2_with fail
    refine ha2.mono ?_
    rintro _ w10 ⟨rfl, hk10⟩
    have hkF := hk09.trans hk10
    clear ha2
    go_wp2
    go_ret
    exact ⟨rfl, hkF⟩

theorem max_of {w : World} (h : w.ShapedOpen Tryz.prog) : ∃ m, w.cell? ⟨1, 0, none⟩ = some (.int .i64 m) :=
  Go.Proofs.cell_of_shapedOpen_int (zero := #[.int .i64 0]) (t := 3) h (of_decide_eq_true (by kernel_rfl)) (by kernel_rfl) rfl (by kernel_rfl) (by kernel_rfl) Tryz.underlying3

theorem size_of {w : World} (h : w.ShapedOpen Tryz.prog) : 6 < w.heap.size := by
  obtain ⟨o, o0, h1, _⟩ := h.2 7 (of_decide_eq_true (by kernel_rfl)) (of_decide_eq_true (by kernel_rfl))
  have := (Array.getElem?_eq_some_iff.1 h1).1
  omega

end Go.Proofs.YtepgoppgblfjbaaGreatDoor
namespace Go.Proofs.YtepgoppgblfjbaaGreatDoor

noncomputable def startW (os : Os) : World := { World.holding Tryz.prog os ⟨#[], #[], []⟩ with heap := (Array.modify (Array.modify (Array.modify (Array.modify (Array.modify (Array.modify (World.holding Tryz.prog os ⟨#[], #[], []⟩).heap 0 (fun | .cells _ t frozen => .cells #[.int .u64 1, .int .u64 10, .int .u64 100, .int .u64 1000, .int .u64 10000, .int .u64 100000, .int .u64 1000000, .int .u64 10000000, .int .u64 100000000, .int .u64 1000000000, .int .u64 10000000000, .int .u64 100000000000, .int .u64 1000000000000, .int .u64 10000000000000, .int .u64 100000000000000, .int .u64 1000000000000000, .int .u64 10000000000000000, .int .u64 100000000000000000, .int .u64 1000000000000000000, .int .u64 10000000000000000000] t frozen | o => o)) 2 (fun | .cells _ t frozen => .cells #[.string ⟨#[]⟩, .string ⟨#[98, 108, 111, 98]⟩, .string ⟨#[116, 114, 101, 101]⟩, .string ⟨#[99, 111, 109, 109, 105, 116]⟩, .string ⟨#[116, 97, 103]⟩] t frozen | o => o)) 3 (fun | .cells _ t frozen => .cells #[.int .u8 0, .int .u8 1, .int .u8 28, .int .u8 2, .int .u8 29, .int .u8 14, .int .u8 24, .int .u8 3, .int .u8 30, .int .u8 22, .int .u8 20, .int .u8 15, .int .u8 25, .int .u8 17, .int .u8 4, .int .u8 8, .int .u8 31, .int .u8 27, .int .u8 13, .int .u8 23, .int .u8 21, .int .u8 19, .int .u8 16, .int .u8 7, .int .u8 26, .int .u8 12, .int .u8 18, .int .u8 6, .int .u8 11, .int .u8 5, .int .u8 10, .int .u8 9] t frozen | o => o)) 4 (fun | .cells _ t frozen => .cells #[.int .u8 0, .int .u8 1, .int .u8 56, .int .u8 2, .int .u8 57, .int .u8 49, .int .u8 28, .int .u8 3, .int .u8 61, .int .u8 58, .int .u8 42, .int .u8 50, .int .u8 38, .int .u8 29, .int .u8 17, .int .u8 4, .int .u8 62, .int .u8 47, .int .u8 59, .int .u8 36, .int .u8 45, .int .u8 43, .int .u8 51, .int .u8 22, .int .u8 53, .int .u8 39, .int .u8 33, .int .u8 30, .int .u8 24, .int .u8 18, .int .u8 12, .int .u8 5, .int .u8 63, .int .u8 55, .int .u8 48, .int .u8 27, .int .u8 60, .int .u8 41, .int .u8 37, .int .u8 16, .int .u8 46, .int .u8 35, .int .u8 44, .int .u8 21, .int .u8 52, .int .u8 32, .int .u8 23, .int .u8 11, .int .u8 54, .int .u8 26, .int .u8 40, .int .u8 15, .int .u8 34, .int .u8 20, .int .u8 31, .int .u8 10, .int .u8 25, .int .u8 14, .int .u8 19, .int .u8 9, .int .u8 13, .int .u8 8, .int .u8 7, .int .u8 6] t frozen | o => o)) 5 (fun | .cells _ t frozen => .cells (Go.Pinned.utf8FirstZ.map (fun z : Nat => Value.int .u8 (z : Int))).toArray t frozen | o => o)) 6 (fun | .cells _ t frozen => .cells #[.int .u8 128, .int .u8 191, .int .u8 160, .int .u8 191, .int .u8 128, .int .u8 159, .int .u8 144, .int .u8 191, .int .u8 128, .int .u8 143, .int .u8 0, .int .u8 0, .int .u8 0, .int .u8 0, .int .u8 0, .int .u8 0, .int .u8 0, .int .u8 0, .int .u8 0, .int .u8 0, .int .u8 0, .int .u8 0, .int .u8 0, .int .u8 0, .int .u8 0, .int .u8 0, .int .u8 0, .int .u8 0, .int .u8 0, .int .u8 0, .int .u8 0, .int .u8 0] t frozen | o => o)) }

theorem own : ownKnob Tryz.prog.godebug = none := by kernel_rfl
theorem laidOut : laidOutB Tryz.prog = true := by kernel_rfl

end Go.Proofs.YtepgoppgblfjbaaGreatDoor
namespace Go.Proofs.YtepgoppgblfjbaaGreatDoor
open Go.ChangeShapes Go.WideShapes Go.ChangeAt Go.RowKit Go.Deep

theorem cells33 : Tryz.prog.cellsOf 38 = 5 := by kernel_rfl
theorem cells3 : Tryz.prog.cellsOf 3 = 1 := by kernel_rfl

theorem i64_of {n : Int} (h : (Lit.int .i64 n).wf = true) : I64 n := by
  have h1 := bounds_i64 h
  unfold I64; omega

set_option maxRecDepth 100000 in
theorem act_of {H : Type} {enc : TypeId × Value → H} {w : World} {base : Nat} {spare : Nat → Bool} {held : Bool} {fuel : Nat} {cs : List Value} {x : DataW H × List MemPlace}
    (h : DataW.trod enc Tryz.prog w base spare held fuel 38 cs = some x) :
    ∃ a : Ac, a.ok ∧ cs = [.int .i64 a.K, .int .i64 a.A, .int .i64 a.B, .int .i64 a.C, .int .i64 a.D] := by
  obtain ⟨xs, n, _, rfl, hl, hlen, hf⟩ := DataW.trod_struct Tryz.underlying38 h
  rw [cells33] at hl
  match xs, hlen, cs, hl with
  | [y0, y1, y2, y3, y4], _, [c0, c1, c2, c3, c4], _ =>
    have f0 : DataW.trod enc Tryz.prog w base spare held n 3 (([c0, c1, c2, c3, c4].drop 0).take (Tryz.prog.cellsOf 3)) = some y0 := hf 0 _ rfl
    have f1 : DataW.trod enc Tryz.prog w base spare held n 3 (([c0, c1, c2, c3, c4].drop 1).take (Tryz.prog.cellsOf 3)) = some y1 := hf 1 _ rfl
    have f2 : DataW.trod enc Tryz.prog w base spare held n 3 (([c0, c1, c2, c3, c4].drop 2).take (Tryz.prog.cellsOf 3)) = some y2 := hf 2 _ rfl
    have f3 : DataW.trod enc Tryz.prog w base spare held n 3 (([c0, c1, c2, c3, c4].drop 3).take (Tryz.prog.cellsOf 3)) = some y3 := hf 3 _ rfl
    have f4 : DataW.trod enc Tryz.prog w base spare held n 3 (([c0, c1, c2, c3, c4].drop 4).take (Tryz.prog.cellsOf 3)) = some y4 := hf 4 _ rfl
    rw [cells3] at f0 f1 f2 f3 f4
    obtain ⟨n0, e0, _, w0⟩ := DataW.trod_int Tryz.underlying3 f0
    obtain ⟨n1, e1, _, w1⟩ := DataW.trod_int Tryz.underlying3 f1
    obtain ⟨n2, e2, _, w2⟩ := DataW.trod_int Tryz.underlying3 f2
    obtain ⟨n3, e3, _, w3⟩ := DataW.trod_int Tryz.underlying3 f3
    obtain ⟨n4, e4, _, w4⟩ := DataW.trod_int Tryz.underlying3 f4
    simp at e0 e1 e2 e3 e4
    subst e0 e1 e2 e3 e4
    exact ⟨⟨n0, n1, n2, n3, n4⟩, ⟨i64_of w0, i64_of w1, i64_of w2, i64_of w3, i64_of w4⟩, rfl⟩

theorem stream_of {H : Type} {enc : TypeId × Value → H} {W : World} {spare : Nat → Bool} {held : Bool} {fuel : Nat} {v : Value} {x : DataW H × List MemPlace}
    (h : DataW.trod enc Tryz.prog W 0 spare held fuel 25 [v] = some x) :
    ∃ (f : Nat → Ac) (len : Nat), ∀ w1 : World, (∀ X, Kx X W w1) → Calls Tryz.prog 17 #[v] w1 fun e w' => e = .returned (.string ⟨(streamOf f len).toArray⟩) ∧ ∀ X, Kx X w1 w' := by
  rcases open_slice Tryz.underlying25 h with ⟨hcs, _⟩ | ⟨a, len, cap, m, n, D, Pl, hcs, _, hl, hm, hmm, _, hel⟩
  · simp at hcs
    subst hcs
    exact ⟨fun _ => ⟨0, 0, 0, 0, 0⟩, 0, fun w1 _ => streamL_none none 0 _ w1⟩
  · simp at hcs
    subst hcs
    by_cases h0 : len = 0
    · subst h0
      exact ⟨fun _ => ⟨0, 0, 0, 0, 0⟩, 0, fun w1 _ => streamL_none (some a) cap _ w1⟩
    · have hlm : len ≤ m := by rw [hmm]; split <;> omega
      rw [cells33] at hel
      have hel2 : ∀ i, i < len → ∃ c : Ac, c.ok ∧ W.cells? 0 (a.add (i * 5)) 5 = some [.int .i64 c.K, .int .i64 c.A, .int .i64 c.B, .int .i64 c.C, .int .i64 c.D] := by
        intro i hi
        obtain ⟨cs, h1, h2⟩ := hel i (by omega)
        obtain ⟨c, hc, rfl⟩ := act_of h2
        exact ⟨c, hc, h1⟩
      obtain ⟨f, hf⟩ : ∃ f : Nat → Ac, ∀ i, i < len → (f i).ok ∧ W.cells? 0 (a.add (i * 5)) 5 = some [.int .i64 (f i).K, .int .i64 (f i).A, .int .i64 (f i).B, .int .i64 (f i).C, .int .i64 (f i).D] := by
        have : Inhabited Ac := ⟨⟨0, 0, 0, 0, 0⟩⟩
        exact choose_lt hel2
      obtain ⟨b, off, spot⟩ := a
      have hspot : spot = none := by
        have hc := (World.cells?_some (hf 0 (by omega)).2).2.2 0 (by omega)
        simpa [Addr.add] using World.cell?_spot hc
      subst hspot
      have hadd : ∀ i j, ((⟨b, off, none⟩ : Addr).add (i * 5)).add j = ⟨b, off + i * 5 + j, none⟩ := by
        intro i j
        rw [add_add]
        unfold Addr.add; split <;> simp_all [Nat.add_assoc]
      have hcell : ∀ i, i < len → ∀ j, j < 5 → W.cell? ⟨b, off + i * 5 + j, none⟩ = [Value.int .i64 (f i).K, .int .i64 (f i).A, .int .i64 (f i).B, .int .i64 (f i).C, .int .i64 (f i).D][j]? := by
        intro i hi j hj
        rw [← hadd]
        exact (World.cells?_some (hf i hi).2).2.2 j hj
      refine ⟨f, len, fun w1 hk => ?_⟩
      have hk1 : ∀ i, i < len → ∀ j, j < 5 → w1.cell? ⟨b, off + i * 5 + j, none⟩ = [Value.int .i64 (f i).K, .int .i64 (f i).A, .int .i64 (f i).B, .int .i64 (f i).C, .int .i64 (f i).D][j]? := by
        intro i hi j hj
        have e := hcell i hi j hj
        have hl : (⟨b, off + i * 5 + j, none⟩ : Addr).block < W.heap.size := by
          rw [List.getElem?_eq_getElem (by simpa using hj)] at e
          exact lt_of_cell e
        rw [(hk (fun _ => False)).cell hl id]
        exact e
      exact streamL_any b off len cap f w1 (by omega) (fun i hi => (hf i hi).1) (fun i hi => hk1 i hi 0 (by omega)) (fun i hi => hk1 i hi 1 (by omega)) (fun i hi => hk1 i hi 2 (by omega)) (fun i hi => hk1 i hi 3 (by omega)) (fun i hi => hk1 i hi 4 (by omega))

set_option maxRecDepth 100000 in
theorem gl_of {W : World} (h : laidMetH Tryz.prog Rows.followedRow.laid W) (hsh : W.ShapedOpen Tryz.prog) : Gl W := by
  rw [MakeChecks.laidMetH_plain _ _ _ (by kernel_rfl)] at h
  refine ⟨max_of hsh, ?_, ?_⟩
  · have h1 := h.filter (fun x => x.1 == "internal/strconv.uint64pow10")
    rw [show (Rows.followedRow.laid.filter (fun x => x.1 == "internal/strconv.uint64pow10")) = [("internal/strconv.uint64pow10", Lib.tabData .u64 Lib.pow10Tab)] by kernel_rfl] at h1
    exact Lib.tabIs_of_head (g := 0) (t := 397) (e := 229) (n := 20) (by kernel_rfl) (by kernel_rfl) (by kernel_rfl) (by kernel_rfl) (by kernel_rfl) (by kernel_rfl) h1
  · have h1 := h.filter (fun x => x.1 == "braid/object.kindWords")
    rw [show (Rows.followedRow.laid.filter (fun x => x.1 == "braid/object.kindWords")) = [("braid/object.kindWords", .agg (Sh.kindW.map fun s => .lit (.string s)))] by kernel_rfl] at h1
    obtain ⟨ps, ⟨g, t, cs, fuel, p, q, hg, ht, hv, hd, _, _⟩, _, _⟩ := h1
    obtain rfl := Option.some.inj ((show Tryz.prog.globalNamed "braid/object.kindWords" = some 2 by kernel_rfl).symm.trans hg)
    obtain rfl := Option.some.inj ((show (Tryz.prog.globals[2]?).map (·.type) = some 421 by kernel_rfl).symm.trans ht)
    have hu : Tryz.prog.underlying 421 = some (.array 5 9) := by kernel_rfl
    obtain ⟨xs, m, _, ex, hlen, hl, hel⟩ := DataW.trod_array hu hd
    have c9 : Tryz.prog.cellsOf 9 = 1 := by kernel_rfl
    intro j s hs
    have hj : j < 5 := (List.getElem?_eq_some_iff.1 hs).1
    have hE := hel j hj
    rw [c9, Nat.mul_one, List.getElem?_eq_getElem (by omega)] at hE
    obtain ⟨z, e1, e2, _⟩ := DataW.trod_string Tryz.underlying9 hE
    have e3 : (xs.map (·.1)) = Sh.kindW.map fun s => (DataW.lit (.string s) : DataW Unit) := (DataW.agg.inj (Prod.mk.inj ex).1).symm
    have e4 : (xs.map (·.1))[j]? = (Sh.kindW.map fun s => (DataW.lit (.string s) : DataW Unit))[j]? := by rw [e3]
    rw [List.getElem?_map, List.getElem?_map, List.getElem?_eq_getElem (by omega : j < xs.length), hs, e2] at e4
    have hz : z.data.toList = s := by
      simp only [Option.map_some, Option.some.injEq, DataW.lit.injEq, Lit.string.injEq] at e4
      exact e4
    rw [World.var?_cell hg hv j]
    have h0 : ((cs.toList.drop j).take 1)[0]? = some (.string z) := by rw [e1]; rfl
    have h1 : cs.toList[j]? = some (.string z) := by simpa using h0
    have hz2 : z = ⟨s.toArray⟩ := by
      rw [← hz]
    rw [← hz2]
    simpa using h1

end Go.Proofs.YtepgoppgblfjbaaGreatDoor
