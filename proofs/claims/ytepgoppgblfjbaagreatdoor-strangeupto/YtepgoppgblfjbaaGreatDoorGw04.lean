import Derived.Test.YtepgoppgblfjbaaGreatDoorGw03
import Derived.BigQuiet
import Derived.StillTail
namespace Go.Proofs.YtepgoppgblfjbaaGreatDoor
open Go.RowKit

namespace Sh
structure St where
  (a b c d e f g h : Int)

def round (k w : Int) (s : St) : St :=
  let s1 := bits .xor .u32 (bits .xor .u32 (rotr s.e 6) (rotr s.e 11)) (rotr s.e 25)
  let ch := bits .xor .u32 (bits .and .u32 s.e s.f) (bits .and .u32 (bits .xor .u32 4294967295 s.e) s.g)
  let t1 := (s.h + s1 + ch + k + w) % 4294967296
  let s0 := bits .xor .u32 (bits .xor .u32 (rotr s.a 2) (rotr s.a 13)) (rotr s.a 22)
  let mj := bits .xor .u32 (bits .xor .u32 (bits .and .u32 s.a s.b) (bits .and .u32 s.a s.c)) (bits .and .u32 s.b s.c)
  let t2 := (s0 + mj) % 4294967296
  ⟨(t1 + t2) % 4294967296, s.a, s.b, s.c, (s.d + t1) % 4294967296, s.e, s.f, s.g⟩

def rounds (ad sc : List Int) (s : St) : Nat → St
  | 0 => s
  | k + 1 => round (ad.getD k 0) (sc.getD k 0) (rounds ad sc s k)

def part (s v : List Int) (k : Nat) : List Int := (List.zipWith (fun x y => (x + y) % 4294967296) s v).take k ++ s.drop k

def mixed (s ad sc : List Int) : List Int :=
  match s with
  | [a, b, c, d, e, f, g, h] => let v := rounds ad sc ⟨a, b, c, d, e, f, g, h⟩ 64; part s [v.a, v.b, v.c, v.d, v.e, v.f, v.g, v.h] 8
  | _ => []
end Sh

theorem part_len (s v : List Int) (k : Nat) (hv : v.length = s.length) : (Sh.part s v k).length = s.length := by
  simp [Sh.part]; omega

theorem part_get (s v : List Int) (k : Nat) (hv : v.length = s.length) (hk : k < s.length) : (A32 (Sh.part s v k))[k]? = some (.int .u32 (s.getD k 0)) := by
  rw [A32_get _ _ (by rw [part_len _ _ _ hv]; exact hk)]
  simp only [Sh.part, List.getD_eq_getElem?_getD]
  rw [List.getElem?_append_right (by simp; omega), List.getElem?_drop]
  have : k + (k - (List.take k (List.zipWith (fun x y => (x + y) % 4294967296) s v)).length) = k := by simp; omega
  rw [this]

theorem part_succ (s v : List Int) (k : Nat) (hv : v.length = s.length) (hk : k < s.length) : (A32 (Sh.part s v k)).setIfInBounds k (.int .u32 ((s.getD k 0 + v.getD k 0) % 4294967296)) = A32 (Sh.part s v (k + 1)) := by
  apply Array.ext_getElem?
  intro j
  rw [Array.getElem?_setIfInBounds]
  by_cases hj : j < s.length
  · rw [A32_get _ _ (by rw [part_len _ _ _ hv]; exact hj)]
    by_cases e : k = j
    · subst e
      rw [if_pos rfl, if_pos (by simp [A32, part_len _ _ _ hv]; exact hj), A32_get _ _ (by rw [part_len _ _ _ hv]; exact hj)]
      simp only [Sh.part, List.getD_eq_getElem?_getD]
      rw [List.getElem?_append_left (by simp; omega), List.getElem?_take_of_lt (by omega), List.getElem?_zipWith, List.getElem?_eq_getElem hk, List.getElem?_eq_getElem (by omega)]
      rfl
    · rw [if_neg e, A32_get _ _ (by rw [part_len _ _ _ hv]; exact hj)]
      simp only [Sh.part, List.getD_eq_getElem?_getD]
      by_cases hjk : j < k
      · rw [List.getElem?_append_left (by simp; omega), List.getElem?_append_left (by simp; omega), List.getElem?_take_of_lt hjk, List.getElem?_take_of_lt (by omega)]
      · rw [List.getElem?_append_right (by simp; omega), List.getElem?_append_right (by simp; omega), List.getElem?_drop, List.getElem?_drop]
        have e1 : k + (j - (List.take k (List.zipWith (fun x y => (x + y) % 4294967296) s v)).length) = j := by simp; omega
        have e2 : k + 1 + (j - (List.take (k + 1) (List.zipWith (fun x y => (x + y) % 4294967296) s v)).length) = j := by simp; omega
        rw [e1, e2]
  · have n1 : (A32 (Sh.part s v k)).size ≤ j := by simp [A32, part_len _ _ _ hv]; omega
    have n2 : (A32 (Sh.part s v (k + 1))).size ≤ j := by simp [A32, part_len _ _ _ hv]; omega
    rw [if_neg (by omega), Array.getElem?_eq_none n1, Array.getElem?_eq_none n2]

theorem index8 (a b c d e f g h : Int) (k : Nat) (hk : k < 8) (w : World) :
    Sem.run Tryz.prog (Instr.index 173 (.agg #[.int .u32 a, .int .u32 b, .int .u32 c, .int .u32 d, .int .u32 e, .int .u32 f, .int .u32 g, .int .u32 h]) (.int .i64 (k : Int))) w = .ok (.int .u32 ([a, b, c, d, e, f, g, h].getD k 0)) w := by
  obtain rfl | rfl | rfl | rfl | rfl | rfl | rfl | rfl : k = 0 ∨ k = 1 ∨ k = 2 ∨ k = 3 ∨ k = 4 ∨ k = 5 ∨ k = 6 ∨ k = 7 := by omega
  all_goals kernel_rfl

theorem new4 (w : World) (a b c d : Array Value) (t u v x : TypeId) : ∃ w1, (((w.alloc (.cells a t)).alloc (.cells b u)).alloc (.cells c v)).alloc (.cells d x) = w1 ∧ Kx (fun _ => False) w w1 ∧
    Cb w.heap.size a t w1 ∧ Cb (w.heap.size + 1) b u w1 ∧ Cb (w.heap.size + 1 + 1) c v w1 ∧ Cb (w.heap.size + 1 + 1 + 1) d x w1 := by
  refine ⟨_, rfl, ((((Kx.refl _ _).alloc _).alloc _).alloc _).alloc _, (((Cb.new a t w).alloc _).alloc _).alloc _, ?_, ?_, ?_⟩
  · have h := ((Cb.new b u (w.alloc (.cells a t))).alloc (.cells c v)).alloc (.cells d x)
    simpa using h
  · have h := (Cb.new c v ((w.alloc (.cells a t)).alloc (.cells b u))).alloc (.cells d x)
    simpa using h
  · have h := Cb.new d x (((w.alloc (.cells a t)).alloc (.cells b u)).alloc (.cells c v))
    simpa using h

set_option maxHeartbeats 1000000 in
set_option maxRecDepth 4000 in
theorem mixed_any (s0 s1 s2 s3 s4 s5 s6 s7 : Int) (ad sc : List Int) (ha : ad.length = 64) (hc : sc.length = 64) (w : World) :
    Calls Tryz.prog 179 #[.agg (A32 [s0, s1, s2, s3, s4, s5, s6, s7]), .agg (A32 ad), .agg (A32 sc)] w fun e w' => e = .returned (.agg (A32 (Sh.mixed [s0, s1, s2, s3, s4, s5, s6, s7] ad sc))) ∧ Kx (fun _ => False) w w' := by
  have e8 : A32 [s0, s1, s2, s3, s4, s5, s6, s7] = #[.int .u32 s0, .int .u32 s1, .int .u32 s2, .int .u32 s3, .int .u32 s4, .int .u32 s5, .int .u32 s6, .int .u32 s7] := rfl
  rw [e8]
  go_enter Tryz.func179, Tryz.ntmps179
  go_wp2
  obtain ⟨w1, e1, hk, h0, h1, h2, h3⟩ := new4 w #[.int .u32 s0, .int .u32 s1, .int .u32 s2, .int .u32 s3, .int .u32 s4, .int .u32 s5, .int .u32 s6, .int .u32 s7] (A32 ad) (A32 sc) #[.int .u32 0, .int .u32 0, .int .u32 0, .int .u32 0, .int .u32 0, .int .u32 0, .int .u32 0, .int .u32 0] 173 174 174 173
  rw [e1]
  clear e1
  obtain ⟨B, hB⟩ : ∃ B, w.heap.size = B := ⟨_, rfl⟩
  rw [hB] at h0 h1 h2 h3 ⊢
  have HB : Hid (w.heap.size = B) := hB
  clear hB
  have c0 : w1.cell? ⟨B, 0, none⟩ = some (.int .u32 s0) := h0.cell 0
  have c1 : w1.cell? ⟨B, 1, none⟩ = some (.int .u32 s1) := h0.cell 1
  have c2 : w1.cell? ⟨B, 2, none⟩ = some (.int .u32 s2) := h0.cell 2
  have c3 : w1.cell? ⟨B, 3, none⟩ = some (.int .u32 s3) := h0.cell 3
  have c4 : w1.cell? ⟨B, 4, none⟩ = some (.int .u32 s4) := h0.cell 4
  have c5 : w1.cell? ⟨B, 5, none⟩ = some (.int .u32 s5) := h0.cell 5
  have c6 : w1.cell? ⟨B, 6, none⟩ = some (.int .u32 s6) := h0.cell 6
  have c7 : w1.cell? ⟨B, 7, none⟩ = some (.int .u32 s7) := h0.cell 7
  go_quiet (fail)
  go_wp2
  go_quiet (fail)
  go_wp2
  obtain ⟨q0, hq0⟩ : ∃ q : World, q = w1 := ⟨_, rfl⟩
  go_loopw [40, 7, 8, 9, 10, 11, 12, 13, 14] (fun iv va vb vc vd ve vf vg vh w' => ∃ (k n : Nat), iv = .int .i64 k ∧ k ≤ 64 ∧ w' = w1.drewN n ∧ va = .int .u32 (Sh.rounds ad sc ⟨s0, s1, s2, s3, s4, s5, s6, s7⟩ k).a ∧ vb = .int .u32 (Sh.rounds ad sc ⟨s0, s1, s2, s3, s4, s5, s6, s7⟩ k).b ∧ vc = .int .u32 (Sh.rounds ad sc ⟨s0, s1, s2, s3, s4, s5, s6, s7⟩ k).c ∧ vd = .int .u32 (Sh.rounds ad sc ⟨s0, s1, s2, s3, s4, s5, s6, s7⟩ k).d ∧ ve = .int .u32 (Sh.rounds ad sc ⟨s0, s1, s2, s3, s4, s5, s6, s7⟩ k).e ∧ vf = .int .u32 (Sh.rounds ad sc ⟨s0, s1, s2, s3, s4, s5, s6, s7⟩ k).f ∧ vg = .int .u32 (Sh.rounds ad sc ⟨s0, s1, s2, s3, s4, s5, s6, s7⟩ k).g ∧ vh = .int .u32 (Sh.rounds ad sc ⟨s0, s1, s2, s3, s4, s5, s6, s7⟩ k).h) (fun iv _ _ _ _ _ _ _ _ _ => 64 - (intOf iv).toNat)
  case atStart => exact ⟨0, _, rfl, by omega, World.drewN_drewN _ _ _, rfl, rfl, rfl, rfl, rfl, rfl, rfl, rfl⟩
  case round =>
    obtain ⟨k, n, rfl, hk64, rfl, rfl, rfl, rfl, rfl, rfl, rfl, rfl, rfl⟩ := hrel
    have HN : Hid (Sh.rounds ad sc ⟨s0, s1, s2, s3, s4, s5, s6, s7⟩ (k + 1) = Sh.round (ad.getD k 0) (sc.getD k 0) (Sh.rounds ad sc ⟨s0, s1, s2, s3, s4, s5, s6, s7⟩ k)) := rfl
    obtain ⟨S, hS⟩ : ∃ S, Sh.rounds ad sc ⟨s0, s1, s2, s3, s4, s5, s6, s7⟩ k = S := ⟨_, rfl⟩
    rw [hS] at HN ⊢
    have HS : Hid (Sh.rounds ad sc ⟨s0, s1, s2, s3, s4, s5, s6, s7⟩ k = S) := hS
    clear hS
    obtain ⟨a, b, c, d, e, f, g, h⟩ := S
    by_cases hlt : k < 64
    · have hlt' : (k : Int) < 64 := by omega
      have ca : w1.cell? ⟨B + 1, k, none⟩ = some (.int .u32 (ad.getD k 0)) := by rw [h1.cell, A32_get _ _ (by omega)]
      have cs : w1.cell? ⟨B + 1 + 1, k, none⟩ = some (.int .u32 (sc.getD k 0)) := by rw [h2.cell, A32_get _ _ (by omega)]
      generalize ad.getD k 0 = ak at *
      generalize sc.getD k 0 = sk at *
      have hsg : IntKind.u32.signed = false := rfl
      have hmx : IntKind.u32.max = 4294967295 := rfl
      clear c0 c1 c2 c3 c4 c5 c6 c7
      go_wp2_with fail
      refine (turned_any e 6 6 rfl (by omega) _).mono ?_
      rintro _ _ ⟨rfl, rfl⟩
      go_wp2_with fail
      refine (turned_any e 11 11 rfl (by omega) _).mono ?_
      rintro _ _ ⟨rfl, rfl⟩
      go_wp2_with fail
      refine (turned_any e 25 25 rfl (by omega) _).mono ?_
      rintro _ _ ⟨rfl, rfl⟩
      go_wp2_with fail
      go_quiet (fail)
      go_wp2_with fail
      refine (turned_any a 2 2 rfl (by omega) _).mono ?_
      rintro _ _ ⟨rfl, rfl⟩
      go_wp2_with fail
      refine (turned_any a 13 13 rfl (by omega) _).mono ?_
      rintro _ _ ⟨rfl, rfl⟩
      go_wp2_with fail
      refine (turned_any a 22 22 rfl (by omega) _).mono ?_
      rintro _ _ ⟨rfl, rfl⟩
      go_wp2
      go_roundw
      case rel => exact ⟨k + 1, _, by go_num, by omega, rfl, by rw [HN.out]; rfl, by rw [HN.out]; rfl, by rw [HN.out]; rfl, by rw [HN.out]; rfl, by rw [HN.out]; rfl, by rw [HN.out]; rfl, by rw [HN.out]; rfl, by rw [HN.out]; rfl⟩
      case measure => simp [intOf]; omega
    · obtain rfl : k = 64 := by omega
      have hlt' : ¬ ((64 : Nat) : Int) < 64 := by omega
      clear HN
      go_wp2
      have f0 : ∀ j, (w1.drewN n).frozen? ⟨B, j, none⟩ = false := fun j => h0.frozen j
      go_loopw [116] (fun iv w' => ∃ (k : Nat), iv = .int .i64 k ∧ k ≤ 8 ∧ Kx (Only B) (w1.drewN n) w' ∧ Cb B (A32 (Sh.part [s0, s1, s2, s3, s4, s5, s6, s7] [a, b, c, d, e, f, g, h] k)) 173 w') (fun iv _ => 8 - (intOf iv).toNat)
      case atStart => exact ⟨0, rfl, by omega, Kx.refl _ _, h0⟩
      case round =>
        obtain ⟨k, rfl, hk8, hkx, hcb⟩ := hrel
        by_cases hlt : k < 8
        · have hlt2 : (k : Int) < 8 := by omega
          have hix := index8 a b c d e f g h k hlt wr
          have ck : wr.cell? ⟨B, k, none⟩ = some (.int .u32 ([s0, s1, s2, s3, s4, s5, s6, s7].getD k 0)) := by
            rw [hcb.cell]; exact part_get _ _ _ rfl hlt
          have hsu := part_succ [s0, s1, s2, s3, s4, s5, s6, s7] [a, b, c, d, e, f, g, h] k rfl hlt
          have hset := hcb.set k (.int .u32 (([s0, s1, s2, s3, s4, s5, s6, s7].getD k 0 + [a, b, c, d, e, f, g, h].getD k 0) % 4294967296))
          rw [hsu] at hset
          have HSET : Hid (Cb B (A32 (Sh.part [s0, s1, s2, s3, s4, s5, s6, s7] [a, b, c, d, e, f, g, h] (k + 1))) 173 (wr.setCell ⟨B, k, none⟩ (.int .u32 (([s0, s1, s2, s3, s4, s5, s6, s7].getD k 0 + [a, b, c, d, e, f, g, h].getD k 0) % 4294967296)))) := hset
          clear hset hsu
          generalize [s0, s1, s2, s3, s4, s5, s6, s7].getD k 0 = sk at *
          generalize [a, b, c, d, e, f, g, h].getD k 0 = vk at *
          have fk : wr.frozen? ⟨B, k, none⟩ = false := hcb.frozen k
          go_wp2
          go_roundw
          case rel => exact ⟨k + 1, by go_num, by omega, hkx.only_set _, HSET.out⟩
          case measure => simp [intOf]; omega
        · obtain rfl : k = 8 := by omega
          have hlt2 : ¬ ((8 : Nat) : Int) < 8 := by omega
          have d0 : wr.cell? ⟨B, 0, none⟩ = some (.int .u32 ((s0 + a) % 4294967296)) := hcb.cell 0
          have d1 : wr.cell? ⟨B, 1, none⟩ = some (.int .u32 ((s1 + b) % 4294967296)) := hcb.cell 1
          have d2 : wr.cell? ⟨B, 2, none⟩ = some (.int .u32 ((s2 + c) % 4294967296)) := hcb.cell 2
          have d3 : wr.cell? ⟨B, 3, none⟩ = some (.int .u32 ((s3 + d) % 4294967296)) := hcb.cell 3
          have d4 : wr.cell? ⟨B, 4, none⟩ = some (.int .u32 ((s4 + e) % 4294967296)) := hcb.cell 4
          have d5 : wr.cell? ⟨B, 5, none⟩ = some (.int .u32 ((s5 + f) % 4294967296)) := hcb.cell 5
          have d6 : wr.cell? ⟨B, 6, none⟩ = some (.int .u32 ((s6 + g) % 4294967296)) := hcb.cell 6
          have d7 : wr.cell? ⟨B, 7, none⟩ = some (.int .u32 ((s7 + h) % 4294967296)) := hcb.cell 7
          have h3' : Cb (B + 1 + 1 + 1) #[.int .u32 0, .int .u32 0, .int .u32 0, .int .u32 0, .int .u32 0, .int .u32 0, .int .u32 0, .int .u32 0] 173 wr := Cb.kept (w := w1.drewN n) h3 hkx (by unfold Only; omega)
          have g0 : wr.cell? ⟨B + 1 + 1 + 1, 0, none⟩ = some (.int .u32 0) := h3'.cell 0
          have k0 : wr.frozen? ⟨B + 1 + 1 + 1, 0, none⟩ = false := h3'.frozen 0
          have g1 : wr.cell? ⟨B + 1 + 1 + 1, 1, none⟩ = some (.int .u32 0) := h3'.cell 1
          have k1 : wr.frozen? ⟨B + 1 + 1 + 1, 1, none⟩ = false := h3'.frozen 1
          have g2 : wr.cell? ⟨B + 1 + 1 + 1, 2, none⟩ = some (.int .u32 0) := h3'.cell 2
          have k2 : wr.frozen? ⟨B + 1 + 1 + 1, 2, none⟩ = false := h3'.frozen 2
          have g3 : wr.cell? ⟨B + 1 + 1 + 1, 3, none⟩ = some (.int .u32 0) := h3'.cell 3
          have k3 : wr.frozen? ⟨B + 1 + 1 + 1, 3, none⟩ = false := h3'.frozen 3
          have g4 : wr.cell? ⟨B + 1 + 1 + 1, 4, none⟩ = some (.int .u32 0) := h3'.cell 4
          have k4 : wr.frozen? ⟨B + 1 + 1 + 1, 4, none⟩ = false := h3'.frozen 4
          have g5 : wr.cell? ⟨B + 1 + 1 + 1, 5, none⟩ = some (.int .u32 0) := h3'.cell 5
          have k5 : wr.frozen? ⟨B + 1 + 1 + 1, 5, none⟩ = false := h3'.frozen 5
          have g6 : wr.cell? ⟨B + 1 + 1 + 1, 6, none⟩ = some (.int .u32 0) := h3'.cell 6
          have k6 : wr.frozen? ⟨B + 1 + 1 + 1, 6, none⟩ = false := h3'.frozen 6
          have g7 : wr.cell? ⟨B + 1 + 1 + 1, 7, none⟩ = some (.int .u32 0) := h3'.cell 7
          have k7 : wr.frozen? ⟨B + 1 + 1 + 1, 7, none⟩ = false := h3'.frozen 7
          clear c0 c1 c2 c3 c4 c5 c6 c7
          go_wp2
          have h4 := (((((((h3'.set 0 (.int .u32 ((s0 + a) % 4294967296))).set 1 (.int .u32 ((s1 + b) % 4294967296))).set 2 (.int .u32 ((s2 + c) % 4294967296))).set 3 (.int .u32 ((s3 + d) % 4294967296))).set 4 (.int .u32 ((s4 + e) % 4294967296))).set 5 (.int .u32 ((s5 + f) % 4294967296))).set 6 (.int .u32 ((s6 + g) % 4294967296))).set 7 (.int .u32 ((s7 + h) % 4294967296))
          refine bodyPost_ret (v := .agg (A32 (Sh.mixed [s0, s1, s2, s3, s4, s5, s6, s7] ad sc))) ?_ rfl ?_
          · have HM : A32 (Sh.mixed [s0, s1, s2, s3, s4, s5, s6, s7] ad sc) = #[.int .u32 ((s0 + a) % 4294967296), .int .u32 ((s1 + b) % 4294967296), .int .u32 ((s2 + c) % 4294967296), .int .u32 ((s3 + d) % 4294967296), .int .u32 ((s4 + e) % 4294967296), .int .u32 ((s5 + f) % 4294967296), .int .u32 ((s6 + g) % 4294967296), .int .u32 ((s7 + h) % 4294967296)] := by
              show A32 (Sh.part [s0, s1, s2, s3, s4, s5, s6, s7] [(Sh.rounds ad sc ⟨s0, s1, s2, s3, s4, s5, s6, s7⟩ 64).a, (Sh.rounds ad sc ⟨s0, s1, s2, s3, s4, s5, s6, s7⟩ 64).b, (Sh.rounds ad sc ⟨s0, s1, s2, s3, s4, s5, s6, s7⟩ 64).c, (Sh.rounds ad sc ⟨s0, s1, s2, s3, s4, s5, s6, s7⟩ 64).d, (Sh.rounds ad sc ⟨s0, s1, s2, s3, s4, s5, s6, s7⟩ 64).e, (Sh.rounds ad sc ⟨s0, s1, s2, s3, s4, s5, s6, s7⟩ 64).f, (Sh.rounds ad sc ⟨s0, s1, s2, s3, s4, s5, s6, s7⟩ 64).g, (Sh.rounds ad sc ⟨s0, s1, s2, s3, s4, s5, s6, s7⟩ 64).h] 8) = _
              rw [HS.out]; rfl
            rw [HM]
            exact results_arr (k := B + 1 + 1 + 1) rfl rfl h4 Tryz.underlying173 rfl (by kernel_rfl)
          · refine ⟨rfl, ?_⟩
            have hle : w.heap.size ≤ B + 1 + 1 + 1 := by rw [HB.out]; omega
            have h5 : Kx (fun _ => False) w wr := (hk.drewN n).join hkx (fun j hj e => by have := HB.out; unfold Only at e; omega)
            exact (((((((h5.setNew (p := ⟨B + 1 + 1 + 1, 0, none⟩) hle _).setNew (p := ⟨B + 1 + 1 + 1, 1, none⟩) hle _).setNew (p := ⟨B + 1 + 1 + 1, 2, none⟩) hle _).setNew (p := ⟨B + 1 + 1 + 1, 3, none⟩) hle _).setNew (p := ⟨B + 1 + 1 + 1, 4, none⟩) hle _).setNew (p := ⟨B + 1 + 1 + 1, 5, none⟩) hle _).setNew (p := ⟨B + 1 + 1 + 1, 6, none⟩) hle _).setNew (p := ⟨B + 1 + 1 + 1, 7, none⟩) hle _

namespace Sh
def loaded (bs : List UInt8) : Nat → List Int
  | 0 => List.replicate 64 0
  | i + 1 => (loaded bs i).set (i / 4) (bits .or .u32 ((loaded bs i).getD (i / 4) 0 * 256 % 4294967296) (((bs.getD i 0).toNat : Int) % 4294967296))

def word (l : List Int) (i : Nat) : Int :=
  let early := l.getD (i - 15) 0
  let late := l.getD (i - 2) 0
  let s0 := bits .xor .u32 (bits .xor .u32 (rotr early 7) (rotr early 18)) (early / 8)
  let s1 := bits .xor .u32 (bits .xor .u32 (rotr late 17) (rotr late 19)) (late / 1024)
  (l.getD (i - 16) 0 + s0 + l.getD (i - 7) 0 + s1) % 4294967296

def spread (l : List Int) : Nat → List Int
  | 0 => l
  | i + 1 => (spread l i).set (16 + i) (word (spread l i) (16 + i))

def schedule (bs : List UInt8) : List Int := spread (loaded bs 64) 48
end Sh

theorem loaded_len (bs : List UInt8) (i : Nat) : (Sh.loaded bs i).length = 64 := by
  induction i with
  | zero => simp [Sh.loaded]
  | succ i ih => simp [Sh.loaded, ih]

theorem spread_len (l : List Int) (i : Nat) : (Sh.spread l i).length = l.length := by
  induction i with
  | zero => rfl
  | succ i ih => simp [Sh.spread, ih]

theorem A32_set (l : List Int) (k : Nat) (x : Int) : (A32 l).setIfInBounds k (.int .u32 x) = A32 (l.set k x) := by
  simp [A32, List.map_set]

theorem new2 (w : World) (a b : Array Value) (t u : TypeId) : ∃ w1, (w.alloc (.cells a t)).alloc (.cells b u) = w1 ∧ Kx (fun _ => False) w w1 ∧
    Cb w.heap.size a t w1 ∧ Cb (w.heap.size + 1) b u w1 := by
  refine ⟨_, rfl, ((Kx.refl _ _).alloc _).alloc _, (Cb.new a t w).alloc _, ?_⟩
  have h := Cb.new b u (w.alloc (.cells a t))
  simpa using h

set_option maxHeartbeats 1000000 in
set_option maxRecDepth 4000 in
theorem schedule_any (bs : List UInt8) (p o c : Nat) (w : World) (hr : ∀ i, i < 64 → w.cell? ⟨p, o + i, none⟩ = some (.int .u8 ((bs.getD i 0).toNat : Int))) :
    Calls Tryz.prog 180 #[.slice (some ⟨p, o, none⟩) 64 c] w fun e w' => e = .returned (.agg (A32 (Sh.schedule bs))) ∧ Kx (fun _ => False) w w' := by
  go_enter Tryz.func180, Tryz.ntmps180
  go_wp2
  obtain ⟨w1, e1, hk, h0, h1⟩ := new2 w #[.int .u32 0, .int .u32 0, .int .u32 0, .int .u32 0, .int .u32 0, .int .u32 0, .int .u32 0, .int .u32 0, .int .u32 0, .int .u32 0, .int .u32 0, .int .u32 0, .int .u32 0, .int .u32 0, .int .u32 0, .int .u32 0, .int .u32 0, .int .u32 0, .int .u32 0, .int .u32 0, .int .u32 0, .int .u32 0, .int .u32 0, .int .u32 0, .int .u32 0, .int .u32 0, .int .u32 0, .int .u32 0, .int .u32 0, .int .u32 0, .int .u32 0, .int .u32 0, .int .u32 0, .int .u32 0, .int .u32 0, .int .u32 0, .int .u32 0, .int .u32 0, .int .u32 0, .int .u32 0, .int .u32 0, .int .u32 0, .int .u32 0, .int .u32 0, .int .u32 0, .int .u32 0, .int .u32 0, .int .u32 0, .int .u32 0, .int .u32 0, .int .u32 0, .int .u32 0, .int .u32 0, .int .u32 0, .int .u32 0, .int .u32 0, .int .u32 0, .int .u32 0, .int .u32 0, .int .u32 0, .int .u32 0, .int .u32 0, .int .u32 0, .int .u32 0] #[.int .u32 0, .int .u32 0, .int .u32 0, .int .u32 0, .int .u32 0, .int .u32 0, .int .u32 0, .int .u32 0, .int .u32 0, .int .u32 0, .int .u32 0, .int .u32 0, .int .u32 0, .int .u32 0, .int .u32 0, .int .u32 0, .int .u32 0, .int .u32 0, .int .u32 0, .int .u32 0, .int .u32 0, .int .u32 0, .int .u32 0, .int .u32 0, .int .u32 0, .int .u32 0, .int .u32 0, .int .u32 0, .int .u32 0, .int .u32 0, .int .u32 0, .int .u32 0, .int .u32 0, .int .u32 0, .int .u32 0, .int .u32 0, .int .u32 0, .int .u32 0, .int .u32 0, .int .u32 0, .int .u32 0, .int .u32 0, .int .u32 0, .int .u32 0, .int .u32 0, .int .u32 0, .int .u32 0, .int .u32 0, .int .u32 0, .int .u32 0, .int .u32 0, .int .u32 0, .int .u32 0, .int .u32 0, .int .u32 0, .int .u32 0, .int .u32 0, .int .u32 0, .int .u32 0, .int .u32 0, .int .u32 0, .int .u32 0, .int .u32 0, .int .u32 0] 174 174
  rw [e1]
  clear e1
  obtain ⟨B, hB⟩ : ∃ B, w.heap.size = B := ⟨_, rfl⟩
  have hp : p < w.heap.size := lt_of_cell (hr 0 (by omega))
  have hr1 : ∀ i, i < 64 → w1.cell? ⟨p, o + i, none⟩ = some (.int .u8 ((bs.getD i 0).toNat : Int)) := fun i hi => by rw [hk.cell (p := ⟨p, o + i, none⟩) hp (by simp)]; exact hr i hi
  have hpB : p < B := by omega
  rw [hB] at h0 h1 ⊢
  have HB : Hid (w.heap.size = B) := hB
  clear hB hr hp
  have h0' : Cb B (A32 (List.replicate 64 0)) 174 w1 := h0
  have h1' : Cb (B + 1) (A32 (List.replicate 64 0)) 174 w1 := h1
  clear h0 h1
  go_loopw [10] (fun iv w' => ∃ (k : Nat), iv = .int .i64 k ∧ k ≤ 64 ∧ Kx (Only (B + 1)) w1 w' ∧ Cb (B + 1) (A32 (Sh.loaded bs k)) 174 w') (fun iv _ => 64 - (intOf iv).toNat)
  case atStart => exact ⟨0, rfl, by omega, Kx.refl _ _, h1'⟩
  case round =>
    obtain ⟨k, rfl, hk64, hkx, hcb⟩ := hrel
    by_cases hlt : k < 64
    · have hlt2 : (k : Int) < 64 := by omega
      have hw1 : w1.heap.size > B + 1 := h1'.lt
      have cb : wr.cell? ⟨p, o + k, none⟩ = some (.int .u8 ((bs.getD k 0).toNat : Int)) := by
        rw [hkx.cell (p := ⟨p, o + k, none⟩) (show p < w1.heap.size by omega) (show ¬ p = B + 1 by omega)]; exact hr1 k hlt
      have ck : wr.cell? ⟨B + 1, k / 4, none⟩ = some (.int .u32 ((Sh.loaded bs k).getD (k / 4) 0)) := by
        rw [hcb.cell, A32_get _ _ (by rw [loaded_len]; omega)]
      have fk : wr.frozen? ⟨B + 1, k / 4, none⟩ = false := hcb.frozen _
      have hq : (k : Int) / 4 < 64 := by omega
      have hq0 : 0 ≤ (k : Int) / 4 := by omega
      have hset := hcb.set (k / 4) (.int .u32 (bits .or .u32 ((Sh.loaded bs k).getD (k / 4) 0 * 256 % 4294967296) (((bs.getD k 0).toNat : Int) % 4294967296)))
      rw [A32_set] at hset
      have HSET : Hid (Cb (B + 1) (A32 (Sh.loaded bs (k + 1))) 174 (wr.setCell ⟨B + 1, k / 4, none⟩ (.int .u32 (bits .or .u32 ((Sh.loaded bs k).getD (k / 4) 0 * 256 % 4294967296) (((bs.getD k 0).toNat : Int) % 4294967296))))) := hset
      clear hset
      generalize (Sh.loaded bs k).getD (k / 4) 0 = x at *
      generalize bs.getD k 0 = y at *
      go_wp2
      go_region
      go_wp2
      go_roundw
      case rel => exact ⟨k + 1, by go_num, by omega, (hkx.only_set _).drew, HSET.out⟩
      case measure => simp [intOf]; omega
    · obtain rfl : k = 64 := by omega
      have hlt2 : ¬ ((64 : Nat) : Int) < 64 := by omega
      go_wp2
      go_loopw [5] (fun iv w' => ∃ (k : Nat), iv = .int .i64 ((16 + k : Nat) : Int) ∧ k ≤ 48 ∧ Kx (Only (B + 1)) w1 w' ∧ Cb (B + 1) (A32 (Sh.spread (Sh.loaded bs 64) k)) 174 w') (fun iv _ => 64 - (intOf iv).toNat)
      case atStart => exact ⟨0, rfl, by omega, hkx, hcb⟩
      case round =>
        clear hkx hcb
        obtain ⟨k, rfl, hk48, hkx, hcb⟩ := hrel
        by_cases hlt : k < 48
        · have hlt2 : ((16 + k : Nat) : Int) < 64 := by omega
          have hL : (Sh.spread (Sh.loaded bs 64) k).length = 64 := by rw [spread_len, loaded_len]
          have HW : Hid (Sh.spread (Sh.loaded bs 64) (k + 1) = (Sh.spread (Sh.loaded bs 64) k).set (16 + k) (Sh.word (Sh.spread (Sh.loaded bs 64) k) (16 + k))) := rfl
          generalize Sh.spread (Sh.loaded bs 64) k = l at *
          have cA : wr.cell? ⟨B + 1, 16 + k - 15, none⟩ = some (.int .u32 (l.getD (16 + k - 15) 0)) := by rw [hcb.cell, A32_get _ _ (by omega)]
          have cB : wr.cell? ⟨B + 1, 16 + k - 2, none⟩ = some (.int .u32 (l.getD (16 + k - 2) 0)) := by rw [hcb.cell, A32_get _ _ (by omega)]
          have cC : wr.cell? ⟨B + 1, 16 + k - 16, none⟩ = some (.int .u32 (l.getD (16 + k - 16) 0)) := by rw [hcb.cell, A32_get _ _ (by omega)]
          have cD : wr.cell? ⟨B + 1, 16 + k - 7, none⟩ = some (.int .u32 (l.getD (16 + k - 7) 0)) := by rw [hcb.cell, A32_get _ _ (by omega)]
          have cE : wr.cell? ⟨B + 1, 16 + k, none⟩ = some (.int .u32 (l.getD (16 + k) 0)) := by rw [hcb.cell, A32_get _ _ (by omega)]
          have fE : wr.frozen? ⟨B + 1, 16 + k, none⟩ = false := hcb.frozen _
          have hset := hcb.set (16 + k) (.int .u32 (Sh.word l (16 + k)))
          rw [A32_set] at hset
          have HSET : Hid (Cb (B + 1) (A32 (l.set (16 + k) (Sh.word l (16 + k)))) 174 (wr.setCell ⟨B + 1, 16 + k, none⟩ (.int .u32 (Sh.word l (16 + k))))) := hset
          have HWD : Hid (Sh.word l (16 + k) = (l.getD (16 + k - 16) 0 + bits .xor .u32 (bits .xor .u32 (Sh.rotr (l.getD (16 + k - 15) 0) 7) (Sh.rotr (l.getD (16 + k - 15) 0) 18)) (l.getD (16 + k - 15) 0 / 8) + l.getD (16 + k - 7) 0 + bits .xor .u32 (bits .xor .u32 (Sh.rotr (l.getD (16 + k - 2) 0) 17) (Sh.rotr (l.getD (16 + k - 2) 0) 19)) (l.getD (16 + k - 2) 0 / 1024)) % 4294967296) := rfl
          clear hset
          generalize l.getD (16 + k - 15) 0 = xA at *
          generalize l.getD (16 + k - 2) 0 = xB at *
          generalize l.getD (16 + k - 16) 0 = xC at *
          generalize l.getD (16 + k - 7) 0 = xD at *
          generalize l.getD (16 + k) 0 = xE at *
          generalize Sh.word l (16 + k) = xW at *
          obtain ⟨j, hj⟩ : ∃ j, 16 + k = j := ⟨_, rfl⟩
          have hj1 : 16 ≤ j := by omega
          have hj2 : (j : Int) < 64 := by omega
          have hj3 : (16 : Int) ≤ (j : Int) := by omega
          rw [hj] at cA cB cC cD cE fE HSET HW ⊢
          have b1 : (0 : Int) ≤ (j : Int) - 15 := by omega
          have b2 : (j : Int) - 15 < 64 := by omega
          have b3 : (0 : Int) ≤ (j : Int) - 2 := by omega
          have b4 : (j : Int) - 2 < 64 := by omega
          have b5 : (0 : Int) ≤ (j : Int) - 16 := by omega
          have b6 : (j : Int) - 16 < 64 := by omega
          have b7 : (0 : Int) ≤ (j : Int) - 7 := by omega
          have b8 : (j : Int) - 7 < 64 := by omega
          have t1 : ((j : Int) - 15).toNat = j - 15 := by omega
          have t2 : ((j : Int) - 2).toNat = j - 2 := by omega
          have t3 : ((j : Int) - 16).toNat = j - 16 := by omega
          have t4 : ((j : Int) - 7).toNat = j - 7 := by omega
          go_wp2
          go_quiet (fail)
          go_wp2_with fail
          refine (turned_any xA 7 7 rfl (by omega) _).mono ?_
          rintro _ _ ⟨rfl, rfl⟩
          go_wp2_with fail
          refine (turned_any xA 18 18 rfl (by omega) _).mono ?_
          rintro _ _ ⟨rfl, rfl⟩
          go_wp2_with fail
          refine (turned_any xB 17 17 rfl (by omega) _).mono ?_
          rintro _ _ ⟨rfl, rfl⟩
          go_wp2_with fail
          refine (turned_any xB 19 19 rfl (by omega) _).mono ?_
          rintro _ _ ⟨rfl, rfl⟩
          go_wp2
          go_region
          go_wp2
          go_roundw
          case rel =>
            refine ⟨k + 1, by rw [← hj]; go_num, by omega, (hkx.drewN _).only_set _, ?_⟩
            rw [HW.out, ← HWD.out]
            exact HSET.out
          case measure => simp [intOf]; omega
        · obtain rfl : k = 48 := by omega
          have hlt2 : ¬ ((16 + 48 : Nat) : Int) < 64 := by omega
          have hsz : (A32 (Sh.spread (Sh.loaded bs 64) 48)).size = 64 := by rw [A32_size, spread_len, loaded_len]
          have hone := A32_all (Sh.spread (Sh.loaded bs 64) 48)
          have HSC : Hid (Sh.schedule bs = Sh.spread (Sh.loaded bs 64) 48) := rfl
          have hB0 : Cb B (A32 (List.replicate 64 0)) 174 wr := h0'.kept hkx (show ¬ B = B + 1 by omega)
          have hfin := hB0.row (A32 (Sh.spread (Sh.loaded bs 64) 48))
          obtain ⟨arr, harr⟩ : ∃ arr, A32 (Sh.spread (Sh.loaded bs 64) 48) = arr := ⟨_, rfl⟩
          rw [harr] at hsz hone hfin hcb
          have HARR : Hid (A32 (Sh.spread (Sh.loaded bs 64) 48) = arr) := harr
          clear harr
          have hi : (Tryz.prog.info? 174).map (·.size) = some arr.size := by rw [hsz]; kernel_rfl
          have hi2 : (A32 (List.replicate 64 0)).size = arr.size := by rw [hsz]; rfl
          clear h0' h1'
          go_wp2_with (first | refine wpList_loadAll _ rfl 174 _ rfl rfl hcb Tryz.underlying174 rfl hi ?_ | refine wpList_storeAll _ rfl 174 _ _ rfl rfl rfl hB0 hi hi2 hone ?_)
          refine bodyPost_ret (v := .agg arr) (results_arr (k := B) rfl rfl hfin Tryz.underlying174 rfl hi) rfl ⟨?_, ?_⟩
          · rw [HSC.out, HARR.out]
          · exact (hk.join hkx (fun j hj e => by have := HB.out; unfold Only at e; omega)).setRow (fun hl => absurd hl (by rw [HB.out]; omega)) _

namespace Sh
def consts : Nat → List Int
  | 0 => List.replicate 72 0
  | k + 1 => (if k < 8 then (consts k).set k (frac (primes.getD k 0) 2) else consts k).set (8 + k) (frac (primes.getD k 0) 3)

def K : List Int := consts 64
end Sh

theorem consts_len (k : Nat) : (Sh.consts k).length = 72 := by
  induction k with
  | zero => simp [Sh.consts]
  | succ k ih => unfold Sh.consts; split <;> simp [ih]

set_option maxHeartbeats 800000 in
set_option maxRecDepth 100000 in
theorem newConstants_any (w : World) :
    Calls Tryz.prog 83 #[] w fun e w' => e = .returned (.agg (A32 Sh.K)) ∧ Kx (fun _ => False) w w' := by
  go_enter Tryz.func83, Tryz.ntmps83
  go_wp2_with fail
  have hz : Tryz.zeroCells176 = A32 (List.replicate 72 0) := by kernel_rfl
  obtain ⟨w1, e1, hk, h0, h1⟩ := new2 w Tryz.zeroCells176 Tryz.zeroCells176 176 176
  rw [e1]
  clear e1
  rw [hz] at h0 h1
  clear hz
  refine (primes_any w1).mono ?_
  rintro _ w2 ⟨⟨v, rfl, hown⟩, hk2⟩
  have hB1 : w.heap.size + 1 < w1.heap.size := h1.lt
  have h0' := h0.kept hk2 (by simp)
  have h1' := h1.kept hk2 (by simp)
  have hk3 := hk.trans hk2
  clear h0 h1 hk hk2
  obtain ⟨g, cap, hv, hg1, hg2, hc⟩ := own_cells hown (by omega)
  subst hv
  have hcp : ∀ k, k < 64 → w2.cell? ⟨g, k, none⟩ = some (.int .u64 (Sh.primes.getD k 0)) := fun k hk => hc k _ (by
    have := primes_len
    simp [A64, List.getD, List.getElem?_eq_getElem (show k < Sh.primes.length by omega)])
  clear hc hown
  obtain ⟨B, hB⟩ : ∃ B, w.heap.size = B := ⟨_, rfl⟩
  rw [hB] at hB1 h0' h1' ⊢
  have HB : Hid (w.heap.size = B) := hB
  clear hB
  go_wp2
  go_loopw [6] (fun iv w' => ∃ (k : Nat), iv = .int .i64 k ∧ k ≤ 64 ∧ Kx (Only (B + 1)) w2 w' ∧ Cb (B + 1) (A32 (Sh.consts k)) 176 w') (fun iv _ => 64 - (intOf iv).toNat)
  case atStart => exact ⟨0, rfl, by omega, Kx.refl _ _, h1'⟩
  case round =>
    obtain ⟨k, rfl, hk64, hkx, hcb⟩ := hrel
    by_cases hlt : k < 64
    · have hlt2 : (k : Int) < 64 := by omega
      have cg : wr.cell? ⟨g, k, none⟩ = some (.int .u64 (Sh.primes.getD k 0)) := by
        rw [hkx.cell (p := ⟨g, k, none⟩) hg2 (show ¬ g = B + 1 by omega)]; exact hcp k hlt
      have HC : Hid (Sh.consts (k + 1) = (if k < 8 then (Sh.consts k).set k (Sh.frac (Sh.primes.getD k 0) 2) else Sh.consts k).set (8 + k) (Sh.frac (Sh.primes.getD k 0) 3)) := rfl
      have hlen := consts_len k
      generalize Sh.consts k = c at *
      generalize Sh.primes.getD k 0 = p at *
      have c8 : wr.cell? ⟨B + 1, 8 + k, none⟩ = some (.int .u32 (c.getD (8 + k) 0)) := by rw [hcb.cell, A32_get _ _ (by omega)]
      have f8 : wr.frozen? ⟨B + 1, 8 + k, none⟩ = false := hcb.frozen _
      by_cases h8 : k < 8
      · have h82 : (k : Int) < 8 := by omega
        have ck : wr.cell? ⟨B + 1, k, none⟩ = some (.int .u32 (c.getD k 0)) := by rw [hcb.cell, A32_get _ _ (by omega)]
        have fk : wr.frozen? ⟨B + 1, k, none⟩ = false := hcb.frozen _
        go_wp2_with fail
        refine (fraction_any p 2 2 rfl (by omega) _).mono ?_
        rintro _ w3 ⟨rfl, hw3⟩
        rw [hw3]
        clear hw3
        go_wp2_with fail
        refine (fraction_any p 3 3 rfl (by omega) _).mono ?_
        rintro _ w3 ⟨rfl, hw3⟩
        rw [hw3]
        clear hw3
        go_wp2
        go_roundw
        case rel =>
          refine ⟨k + 1, by go_num, by omega, (hkx.only_set _).only_set _, ?_⟩
          rw [HC.out, if_pos h8, ← A32_set, ← A32_set]
          exact (hcb.set k _).set (8 + k) _
        case measure => simp [intOf]; omega
      · have h82 : ¬ (k : Int) < 8 := by omega
        go_wp2_with fail
        refine (fraction_any p 3 3 rfl (by omega) _).mono ?_
        rintro _ w3 ⟨rfl, hw3⟩
        rw [hw3]
        clear hw3
        go_wp2
        go_roundw
        case rel =>
          refine ⟨k + 1, by go_num, by omega, hkx.only_set _, ?_⟩
          rw [HC.out, if_neg h8, ← A32_set]
          exact hcb.set (8 + k) _
        case measure => simp [intOf]; omega
    · obtain rfl : k = 64 := by omega
      have hlt2 : ¬ ((64 : Nat) : Int) < 64 := by omega
      have hsz : (A32 (Sh.consts 64)).size = 72 := by rw [A32_size, consts_len]
      have hone := A32_all (Sh.consts 64)
      have HK : Hid (A32 Sh.K = A32 (Sh.consts 64)) := rfl
      have hB0 : Cb B (A32 (List.replicate 72 0)) 176 wr := h0'.kept hkx (show ¬ B = B + 1 by omega)
      have hfin := hB0.row (A32 (Sh.consts 64))
      obtain ⟨arr, harr⟩ : ∃ arr, A32 (Sh.consts 64) = arr := ⟨_, rfl⟩
      rw [harr] at hsz hone hfin hcb HK
      clear harr
      have hi : (Tryz.prog.info? 176).map (·.size) = some arr.size := by rw [hsz]; kernel_rfl
      have hi2 : (A32 (List.replicate 72 0)).size = arr.size := by rw [hsz]; rfl
      clear h0' h1'
      go_wp2_with (first | refine wpList_loadAll _ rfl 176 _ rfl rfl hcb Tryz.underlying176 rfl hi ?_ | refine wpList_storeAll _ rfl 176 _ _ rfl rfl rfl hB0 hi hi2 hone ?_)
      refine bodyPost_ret (v := .agg arr) (results_arr (k := B) rfl rfl hfin Tryz.underlying176 rfl hi) rfl ⟨?_, ?_⟩
      · rw [HK.out]
      · exact (hk3.join hkx (fun j hj e => by have := HB.out; unfold Only at e; omega)).setRow (fun hl => absurd hl (by rw [HB.out]; omega)) _

set_option maxRecDepth 100000 in
theorem K_eq : Sh.K = [0x6a09e667, 0xbb67ae85, 0x3c6ef372, 0xa54ff53a, 0x510e527f, 0x9b05688c, 0x1f83d9ab, 0x5be0cd19,
    0x428a2f98, 0x71374491, 0xb5c0fbcf, 0xe9b5dba5, 0x3956c25b, 0x59f111f1, 0x923f82a4, 0xab1c5ed5,
    0xd807aa98, 0x12835b01, 0x243185be, 0x550c7dc3, 0x72be5d74, 0x80deb1fe, 0x9bdc06a7, 0xc19bf174,
    0xe49b69c1, 0xefbe4786, 0x0fc19dc6, 0x240ca1cc, 0x2de92c6f, 0x4a7484aa, 0x5cb0a9dc, 0x76f988da,
    0x983e5152, 0xa831c66d, 0xb00327c8, 0xbf597fc7, 0xc6e00bf3, 0xd5a79147, 0x06ca6351, 0x14292967,
    0x27b70a85, 0x2e1b2138, 0x4d2c6dfc, 0x53380d13, 0x650a7354, 0x766a0abb, 0x81c2c92e, 0x92722c85,
    0xa2bfe8a1, 0xa81a664b, 0xc24b8b70, 0xc76c51a3, 0xd192e819, 0xd6990624, 0xf40e3585, 0x106aa070,
    0x19a4c116, 0x1e376c08, 0x2748774c, 0x34b0bcb5, 0x391c0cb3, 0x4ed8aa4a, 0x5b9cca4f, 0x682e6ff3,
    0x748f82ee, 0x78a5636f, 0x84c87814, 0x8cc70208, 0x90befffa, 0xa4506ceb, 0xbef9a3f7, 0xc67178f2] := by kernel_rfl

section
variable {P : Program} {md : Region.Mode} {ops : Array Oper} {C : World → Prop}

def HeadQ (P : Program) (md : Region.Mode) (ops : Array Oper) (C : World → Prop) (n : Nat) (L : Array Bool → Act → Prop) : Nat → Array Bool → Act → Prop
  | 0, listed, a => L listed a
  | f + 1, listed, a => Region.ready md ops listed ≠ [] ∧ ∀ i ∈ Region.ready md ops listed, i < n ∧ qOp P ops C i (HeadQ P md ops C n L f (listed.setIfInBounds i true)) a

theorem HeadQ.any {n g : Nat} {L : Array Bool → Act → Prop} {Q : Exit → Act → World → Prop} (hL : ∀ listed a w, C w → L listed a → wpAny P md ops Q g listed a w) :
    ∀ (f : Nat) (listed : Array Bool) (a : Act) (w : World), C w → HeadQ P md ops C n L f listed a → wpAny P md ops Q (f + g) listed a w
  | 0, listed, a, w, hC, h => by rw [Nat.zero_add]; exact hL _ _ _ hC h
  | f + 1, listed, a, w, hC, h => by
    have e : f + 1 + g = (f + g) + 1 := by omega
    rw [e]
    exact ⟨fun h0 => absurd h0 h.1, fun i hi => wpOp_of_qOp hC (fun a' w' hw' h' => HeadQ.any hL f _ a' w' hw' h') (h.2 i hi).2⟩

theorem HeadQ.first {n i : Nat} {oi : Oper} {v : Value} {L : Array Bool → Act → Prop} (hi : ops[i]? = some oi) (hsel : ∀ (j : Nat) (o : Oper) cs b, ops[j]? = some o → o.op ≠ .select cs b)
    (hs : Region.sinkB md ops n = true) (hc : Region.chainB md ops n = true) (hn : n < ops.size) (hin : i < n)
    (hdone : ∀ listed a, L listed a → ∀ j ∈ Region.ready md ops listed, n ≤ j) (f : Nat) :
    ∀ (listed : Array Bool) (a : Act), HeadInv md ops n listed →
      (∀ j oj, ops[j]? = some oj → j ≠ i → listed.getD j true = false → (∀ e ∈ oj.after, Region.binds md e = true → e.on ≠ i) → oi.apart ops oj = true) →
      i ∈ Region.ready md ops listed → YieldsIn P ops C oi v a →
      HeadQ P md ops C n L f (listed.setIfInBounds i true) (a.put oi.dst v) → HeadQ P md ops C n L (f + 1) listed a := by
  induction f with
  | zero =>
    intro listed a inv _ hr hy H
    have hun := (mem_ready.1 hr).1
    refine ⟨fun h => (by rw [h] at hr; cases hr), fun j hj => ?_⟩
    have hjn : j < n := Nat.lt_of_not_le fun h => tail_waits hs hc hn inv _ i rfl hin hun j h hj
    refine ⟨hjn, ?_⟩
    by_cases hji : j = i
    · subst hji; exact hy.qOp hi H
    · exact absurd (hdone _ _ H j (ready_mono hj hji)) (by omega)
  | succ f ih =>
    intro listed a inv hfree hr hy H
    have hun := (mem_ready.1 hr).1
    refine ⟨fun h => (by rw [h] at hr; cases hr), fun j hj => ?_⟩
    have hjn : j < n := Nat.lt_of_not_le fun h => tail_waits hs hc hn inv _ i rfl hin hun j h hj
    refine ⟨hjn, ?_⟩
    by_cases hji : j = i
    · subst hji; exact hy.qOp hi H
    · have h1 := (H.2 j (ready_mono hj hji)).2
      obtain ⟨hjun, oj, hoj, hall⟩ := mem_ready.1 hj
      have hnot : ∀ e ∈ oj.after, Region.binds md e = true → e.on ≠ i := fun e he hb heq => by
        have h3 := hall e he hb
        rw [heq] at h3
        rcases Nat.lt_or_ge i listed.size with h' | h'
        · simp [h'] at hun h3; rw [hun] at h3; cases h3
        · simp [Array.getElem?_eq_none h'] at h3
      have h2 := qOp_put hoj (hfree j oj hoj hji hjun hnot) (fun cs b => hsel i oi cs b hi) (fun cs b => hsel j oj cs b hoj) hy h1
      refine qOp_mono (fun a' h3 => ih (listed.setIfInBounds j true) a' (inv.set hj hjn) ?_ (ready_mono hr (Ne.symm hji)) h3.1 (by rw [Array.setIfInBounds_comm _ _ hji]; exact h3.2)) h2
      intro k ok hk hki hun' hno
      refine hfree k ok hk hki ?_ hno
      by_cases hjk : j = k
      · subst hjk; exact hjun
      · rw [getD_set_ne true hjk] at hun'; exact hun'

theorem HeadQ.lex {n g : Nat} {Lq : Act → Prop} (hsel : Region.noSelect ops = true) (hs : Region.sinkB md ops n = true) (hc : Region.chainB md ops n = true) (hn : n < ops.size) :
    ∀ (l : List Oper) (k : Nat) (listed : Array Bool) (a : Act), (∀ j, j < l.length → l[j]? = ops[k + j]?) → k + l.length = n → HeadInv md ops n listed →
    Region.lexHead md ops g l.length k listed = true → wpQuiet P ops C Lq l a →
    HeadQ P md ops C n (fun listed' a' => Region.seqB md ops g n listed' = true ∧ Lq a') l.length listed a
  | [], k, listed, a, _, hk, _, hB, h => by
    obtain rfl : k = n := by simpa using hk
    exact ⟨by simpa [Region.lexHead] using hB, h⟩
  | o :: l, k, listed, a, hl, hk, inv, hB, h => by
    have h0 : ops[k]? = some o := by simpa using (hl 0 (by simp)).symm
    simp only [List.length_cons, Region.lexHead, Bool.and_eq_true] at hB
    obtain ⟨⟨hr, hf⟩, hB'⟩ := hB
    have hkn : k < n := by simp only [List.length_cons] at hk; omega
    have hr' : k ∈ Region.ready md ops listed := by simpa using hr
    have hst : qOp P ops C k (wpQuiet P ops C Lq l) a := by unfold qOp; simp only [h0]; exact h
    obtain ⟨v, hy, hK⟩ := yieldsIn_of_qOp h0 hst
    exact HeadQ.first h0 (Region.noSelect_spec hsel) hs hc hn hkn (fun listed' a' hL => seqB_ready hL.1) l.length listed a inv (Region.free_spec h0 hf) hr' hy
      (HeadQ.lex hsel hs hc hn l (k + 1) _ _ (fun j hj => by have := hl (j + 1) (by simp; omega); simpa [Nat.add_assoc, Nat.add_comm 1 j] using this) (by simp only [List.length_cons] at hk; omega) (inv.set hr' hkn) hB' hK)

theorem wp_region_quiet_tail {id : Nat} {Q : Exit → Act → World → Prop} {a : Act} {w : World} {l : List Oper} (n : Nat) (hm : P.follows .mixedOrders = true) (hB : Region.lexTailB .any l.toArray n = true) (hC : C { w with drawn := w.drawn + 1 })
    (h : wpQuiet P l.toArray C (fun a' => ∀ w', C w' → wpList P l.toArray Q (l.drop n) a' w') (l.take n) a) : (Code.region id l.toArray true).wp P Q a w := by
  simp only [Region.lexTailB, Bool.and_eq_true, decide_eq_true_eq] at hB
  obtain ⟨⟨⟨⟨hsel, hn⟩, hs⟩, hc⟩, hlex⟩ := hB
  have hn' : n < l.length := by simpa using hn
  have htl : (l.take n).length = n := by simp; omega
  have hdl : (l.drop n).length = l.toArray.size - n := by simp
  have inv0 : HeadInv .any l.toArray n (Array.replicate l.toArray.size false) :=
    ⟨by simp, fun j oj _ hl => (by rw [getD_replicate_false] at hl; cases hl), fun t _ ht => getD_in (by simpa using ht) (getD_replicate_false _ _)⟩
  have H := HeadQ.lex (md := .any) (g := l.toArray.size - n) hsel hs hc hn (l.take n) 0 _ a (fun j hj => by
    have hj' : j < n := by rw [htl] at hj; exact hj
    simp [hj']) (by simpa using htl) inv0 (by rw [htl]; exact hlex) h
  refine wp_region_any hm ?_
  have H2 := HeadQ.any (Q := Q) (g := l.toArray.size - n) (fun listed a' w' hC' hL => by
    have := wpAny_of_seq (Q' := Q) (P := P) (md := .any) (l.drop n) n listed a' w' (fun j => by simp) (by rw [hdl]; exact hL.1) (hL.2 w' hC')
    rw [hdl] at this
    exact this) _ _ _ _ hC H
  have e : (l.take n).length + (l.toArray.size - n) = l.toArray.size := by rw [htl]; simp; omega
  rw [e] at H2
  exact H2

theorem quiet_val {Q : Act → Prop} {a : Act} {o : Oper} {rest : List Oper} (hg : o.guard = none) (v : Value) (hrun : ∀ w, C w → (execOp a.eval o).run P w = .ok (.value v) w) (h : wpQuiet P ops C Q rest (a.put o.dst v)) : wpQuiet P ops C Q (o :: rest) a := by
  unfold wpQuiet
  have hw : Region.wanted o (yielded ops a.tmps) = true := by simp [Region.wanted, hg]
  rw [if_pos hw]
  refine ⟨v, fun w hC => ?_, h⟩
  unfold Oper.quietAt
  rw [hrun w hC]
  exact ⟨rfl, rfl⟩

theorem quiet_enter {Q : Act → Prop} {a : Act} {o : Oper} {rest : List Oper} (hg : o.guard = none) (f : Nat) (args : Array Value) (v : Value) (hrun : ∀ w, (execOp a.eval o).run P w = .ok (.enter f args) w)
    (hcall : ∀ w, C w → Calls P f args w fun e w' => e = .returned v ∧ C w') (h : wpQuiet P ops C Q rest (a.put o.dst v)) : wpQuiet P ops C Q (o :: rest) a := by
  unfold wpQuiet
  have hw : Region.wanted o (yielded ops a.tmps) = true := by simp [Region.wanted, hg]
  rw [if_pos hw]
  refine ⟨v, fun w hC => ?_, h⟩
  unfold Oper.quietAt
  rw [hrun w]
  exact ⟨rfl, hcall w hC⟩
end

end Go.Proofs.YtepgoppgblfjbaaGreatDoor
