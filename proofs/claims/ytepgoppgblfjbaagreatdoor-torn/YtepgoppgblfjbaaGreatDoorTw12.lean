import Derived.Test.YtepgoppgblfjbaaGreatDoorTw11
import Derived.Test.YtepgoppgblfjbaaGreatDoorTw01
import Derived.Deep.QuietTactic
import Derived.BigQuiet
import Derived.BigRegion
import Derived.KernelRfl
import Derived.Test.YtepgoppgblfjbaaGreatDoorTw10
import Derived.Deep.Quiet
import Derived.StillTail
/- Package sum: schedule. -/
namespace Go.Proofs.YtepgoppgblfjbaaGreatDoor
open Go.RowKit

namespace Sh
/-- The words, when i bytes of a block have come in. -/
def loaded (bs : List UInt8) : Nat → List Int
  | 0 => List.replicate 64 0
  | i + 1 => (loaded bs i).set (i / 4) (bits .or .u32 ((loaded bs i).getD (i / 4) 0 * 256 % 4294967296) (((bs.getD i 0).toNat : Int) % 4294967296))

/-- One more word. -/
def word (l : List Int) (i : Nat) : Int :=
  let early := l.getD (i - 15) 0
  let late := l.getD (i - 2) 0
  let s0 := bits .xor .u32 (bits .xor .u32 (rotr early 7) (rotr early 18)) (early / 8)
  let s1 := bits .xor .u32 (bits .xor .u32 (rotr late 17) (rotr late 19)) (late / 1024)
  (l.getD (i - 16) 0 + s0 + l.getD (i - 7) 0 + s1) % 4294967296

def spread (l : List Int) : Nat → List Int
  | 0 => l
  | i + 1 => (spread l i).set (16 + i) (word (spread l i) (16 + i))

def schedule (bs : List UInt8) : List Int := spread (loaded bs 64) 48
end Sh

theorem loaded_len (bs : List UInt8) (i : Nat) : (Sh.loaded bs i).length = 64 := by
  induction i with
  | zero => simp [Sh.loaded]
  | succ i ih => simp [Sh.loaded, ih]

theorem spread_len (l : List Int) (i : Nat) : (Sh.spread l i).length = l.length := by
  induction i with
  | zero => rfl
  | succ i ih => simp [Sh.spread, ih]

theorem A32_set (l : List Int) (k : Nat) (x : Int) : (A32 l).setIfInBounds k (.int .u32 x) = A32 (l.set k x) := by
  simp [A32, List.map_set]

/-- Two new blocks. -/
theorem new2 (w : World) (a b : Array Value) (t u : TypeId) : ∃ w1, (w.alloc (.cells a t)).alloc (.cells b u) = w1 ∧ Kx (fun _ => False) w w1 ∧
    Cb w.heap.size a t w1 ∧ Cb (w.heap.size + 1) b u w1 := by
  refine ⟨_, rfl, ((Kx.refl _ _).alloc _).alloc _, (Cb.new a t w).alloc _, ?_⟩
  have h := Cb.new b u (w.alloc (.cells a t))
  simpa using h

set_option maxHeartbeats 1000000 in
set_option maxRecDepth 4000 in
theorem schedule_any (bs : List UInt8) (p o c : Nat) (w : World) (hr : ∀ i, i < 64 → w.cell? ⟨p, o + i, none⟩ = some (.int .u8 ((bs.getD i 0).toNat : Int))) :
    Calls Tryz.prog 180 #[.slice (some ⟨p, o, none⟩) 64 c] w fun e w' => e = .returned (.agg (A32 (Sh.schedule bs))) ∧ Kx (fun _ => False) w w' := by
  go_enter Tryz.func180, Tryz.ntmps180
  go_wp2
  obtain ⟨w1, e1, hk, h0, h1⟩ := new2 w #[.int .u32 0, .int .u32 0, .int .u32 0, .int .u32 0, .int .u32 0, .int .u32 0, .int .u32 0, .int .u32 0, .int .u32 0, .int .u32 0, .int .u32 0, .int .u32 0, .int .u32 0, .int .u32 0, .int .u32 0, .int .u32 0, .int .u32 0, .int .u32 0, .int .u32 0, .int .u32 0, .int .u32 0, .int .u32 0, .int .u32 0, .int .u32 0, .int .u32 0, .int .u32 0, .int .u32 0, .int .u32 0, .int .u32 0, .int .u32 0, .int .u32 0, .int .u32 0, .int .u32 0, .int .u32 0, .int .u32 0, .int .u32 0, .int .u32 0, .int .u32 0, .int .u32 0, .int .u32 0, .int .u32 0, .int .u32 0, .int .u32 0, .int .u32 0, .int .u32 0, .int .u32 0, .int .u32 0, .int .u32 0, .int .u32 0, .int .u32 0, .int .u32 0, .int .u32 0, .int .u32 0, .int .u32 0, .int .u32 0, .int .u32 0, .int .u32 0, .int .u32 0, .int .u32 0, .int .u32 0, .int .u32 0, .int .u32 0, .int .u32 0, .int .u32 0] #[.int .u32 0, .int .u32 0, .int .u32 0, .int .u32 0, .int .u32 0, .int .u32 0, .int .u32 0, .int .u32 0, .int .u32 0, .int .u32 0, .int .u32 0, .int .u32 0, .int .u32 0, .int .u32 0, .int .u32 0, .int .u32 0, .int .u32 0, .int .u32 0, .int .u32 0, .int .u32 0, .int .u32 0, .int .u32 0, .int .u32 0, .int .u32 0, .int .u32 0, .int .u32 0, .int .u32 0, .int .u32 0, .int .u32 0, .int .u32 0, .int .u32 0, .int .u32 0, .int .u32 0, .int .u32 0, .int .u32 0, .int .u32 0, .int .u32 0, .int .u32 0, .int .u32 0, .int .u32 0, .int .u32 0, .int .u32 0, .int .u32 0, .int .u32 0, .int .u32 0, .int .u32 0, .int .u32 0, .int .u32 0, .int .u32 0, .int .u32 0, .int .u32 0, .int .u32 0, .int .u32 0, .int .u32 0, .int .u32 0, .int .u32 0, .int .u32 0, .int .u32 0, .int .u32 0, .int .u32 0, .int .u32 0, .int .u32 0, .int .u32 0, .int .u32 0] 174 174
  rw [e1]
  clear e1
  obtain ⟨B, hB⟩ : ∃ B, w.heap.size = B := ⟨_, rfl⟩
  have hp : p < w.heap.size := lt_of_cell (hr 0 (by omega))
  have hr1 : ∀ i, i < 64 → w1.cell? ⟨p, o + i, none⟩ = some (.int .u8 ((bs.getD i 0).toNat : Int)) := fun i hi => by rw [hk.cell (p := ⟨p, o + i, none⟩) hp (by simp)]; exact hr i hi
  have hpB : p < B := by omega
  rw [hB] at h0 h1 ⊢
  have HB : Hid (w.heap.size = B) := hB
  clear hB hr hp
  have h0' : Cb B (A32 (List.replicate 64 0)) 174 w1 := h0
  have h1' : Cb (B + 1) (A32 (List.replicate 64 0)) 174 w1 := h1
  clear h0 h1
  go_loopw [10] (fun iv w' => ∃ (k : Nat), iv = .int .i64 k ∧ k ≤ 64 ∧ Kx (Only (B + 1)) w1 w' ∧ Cb (B + 1) (A32 (Sh.loaded bs k)) 174 w') (fun iv _ => 64 - (intOf iv).toNat)
  case atStart => exact ⟨0, rfl, by omega, Kx.refl _ _, h1'⟩
  case round =>
    obtain ⟨k, rfl, hk64, hkx, hcb⟩ := hrel
    by_cases hlt : k < 64
    · have hlt2 : (k : Int) < 64 := by omega
      have hw1 : w1.heap.size > B + 1 := h1'.lt
      have cb : wr.cell? ⟨p, o + k, none⟩ = some (.int .u8 ((bs.getD k 0).toNat : Int)) := by
        rw [hkx.cell (p := ⟨p, o + k, none⟩) (show p < w1.heap.size by omega) (show ¬ p = B + 1 by omega)]; exact hr1 k hlt
      have ck : wr.cell? ⟨B + 1, k / 4, none⟩ = some (.int .u32 ((Sh.loaded bs k).getD (k / 4) 0)) := by
        rw [hcb.cell, A32_get _ _ (by rw [loaded_len]; omega)]
      have fk : wr.frozen? ⟨B + 1, k / 4, none⟩ = false := hcb.frozen _
      have hq : (k : Int) / 4 < 64 := by omega
      have hq0 : 0 ≤ (k : Int) / 4 := by omega
      have hset := hcb.set (k / 4) (.int .u32 (bits .or .u32 ((Sh.loaded bs k).getD (k / 4) 0 * 256 % 4294967296) (((bs.getD k 0).toNat : Int) % 4294967296)))
      rw [A32_set] at hset
      have HSET : Hid (Cb (B + 1) (A32 (Sh.loaded bs (k + 1))) 174 (wr.setCell ⟨B + 1, k / 4, none⟩ (.int .u32 (bits .or .u32 ((Sh.loaded bs k).getD (k / 4) 0 * 256 % 4294967296) (((bs.getD k 0).toNat : Int) % 4294967296))))) := hset
      clear hset
      generalize (Sh.loaded bs k).getD (k / 4) 0 = x at *
      generalize bs.getD k 0 = y at *
      go_wp2
      go_region
      go_wp2
      go_roundw
      case rel => exact ⟨k + 1, by go_num, by omega, (hkx.only_set _).drew, HSET.out⟩
      case measure => simp [intOf]; omega
    · obtain rfl : k = 64 := by omega
      have hlt2 : ¬ ((64 : Nat) : Int) < 64 := by omega
      go_wp2
      go_loopw [5] (fun iv w' => ∃ (k : Nat), iv = .int .i64 ((16 + k : Nat) : Int) ∧ k ≤ 48 ∧ Kx (Only (B + 1)) w1 w' ∧ Cb (B + 1) (A32 (Sh.spread (Sh.loaded bs 64) k)) 174 w') (fun iv _ => 64 - (intOf iv).toNat)
      case atStart => exact ⟨0, rfl, by omega, hkx, hcb⟩
      case round =>
        clear hkx hcb
        obtain ⟨k, rfl, hk48, hkx, hcb⟩ := hrel
        by_cases hlt : k < 48
        · have hlt2 : ((16 + k : Nat) : Int) < 64 := by omega
          have hL : (Sh.spread (Sh.loaded bs 64) k).length = 64 := by rw [spread_len, loaded_len]
          have HW : Hid (Sh.spread (Sh.loaded bs 64) (k + 1) = (Sh.spread (Sh.loaded bs 64) k).set (16 + k) (Sh.word (Sh.spread (Sh.loaded bs 64) k) (16 + k))) := rfl
          generalize Sh.spread (Sh.loaded bs 64) k = l at *
          have cA : wr.cell? ⟨B + 1, 16 + k - 15, none⟩ = some (.int .u32 (l.getD (16 + k - 15) 0)) := by rw [hcb.cell, A32_get _ _ (by omega)]
          have cB : wr.cell? ⟨B + 1, 16 + k - 2, none⟩ = some (.int .u32 (l.getD (16 + k - 2) 0)) := by rw [hcb.cell, A32_get _ _ (by omega)]
          have cC : wr.cell? ⟨B + 1, 16 + k - 16, none⟩ = some (.int .u32 (l.getD (16 + k - 16) 0)) := by rw [hcb.cell, A32_get _ _ (by omega)]
          have cD : wr.cell? ⟨B + 1, 16 + k - 7, none⟩ = some (.int .u32 (l.getD (16 + k - 7) 0)) := by rw [hcb.cell, A32_get _ _ (by omega)]
          have cE : wr.cell? ⟨B + 1, 16 + k, none⟩ = some (.int .u32 (l.getD (16 + k) 0)) := by rw [hcb.cell, A32_get _ _ (by omega)]
          have fE : wr.frozen? ⟨B + 1, 16 + k, none⟩ = false := hcb.frozen _
          have hset := hcb.set (16 + k) (.int .u32 (Sh.word l (16 + k)))
          rw [A32_set] at hset
          have HSET : Hid (Cb (B + 1) (A32 (l.set (16 + k) (Sh.word l (16 + k)))) 174 (wr.setCell ⟨B + 1, 16 + k, none⟩ (.int .u32 (Sh.word l (16 + k))))) := hset
          have HWD : Hid (Sh.word l (16 + k) = (l.getD (16 + k - 16) 0 + bits .xor .u32 (bits .xor .u32 (Sh.rotr (l.getD (16 + k - 15) 0) 7) (Sh.rotr (l.getD (16 + k - 15) 0) 18)) (l.getD (16 + k - 15) 0 / 8) + l.getD (16 + k - 7) 0 + bits .xor .u32 (bits .xor .u32 (Sh.rotr (l.getD (16 + k - 2) 0) 17) (Sh.rotr (l.getD (16 + k - 2) 0) 19)) (l.getD (16 + k - 2) 0 / 1024)) % 4294967296) := rfl
          clear hset
          generalize l.getD (16 + k - 15) 0 = xA at *
          generalize l.getD (16 + k - 2) 0 = xB at *
          generalize l.getD (16 + k - 16) 0 = xC at *
          generalize l.getD (16 + k - 7) 0 = xD at *
          generalize l.getD (16 + k) 0 = xE at *
          generalize Sh.word l (16 + k) = xW at *
          obtain ⟨j, hj⟩ : ∃ j, 16 + k = j := ⟨_, rfl⟩
          have hj1 : 16 ≤ j := by omega
          have hj2 : (j : Int) < 64 := by omega
          have hj3 : (16 : Int) ≤ (j : Int) := by omega
          rw [hj] at cA cB cC cD cE fE HSET HW ⊢
          have b1 : (0 : Int) ≤ (j : Int) - 15 := by omega
          have b2 : (j : Int) - 15 < 64 := by omega
          have b3 : (0 : Int) ≤ (j : Int) - 2 := by omega
          have b4 : (j : Int) - 2 < 64 := by omega
          have b5 : (0 : Int) ≤ (j : Int) - 16 := by omega
          have b6 : (j : Int) - 16 < 64 := by omega
          have b7 : (0 : Int) ≤ (j : Int) - 7 := by omega
          have b8 : (j : Int) - 7 < 64 := by omega
          have t1 : ((j : Int) - 15).toNat = j - 15 := by omega
          have t2 : ((j : Int) - 2).toNat = j - 2 := by omega
          have t3 : ((j : Int) - 16).toNat = j - 16 := by omega
          have t4 : ((j : Int) - 7).toNat = j - 7 := by omega
          go_wp2
          go_quiet (fail)
          go_wp2_with fail
          refine (turned_any xA 7 7 rfl (by omega) _).mono ?_
          rintro _ _ ⟨rfl, rfl⟩
          go_wp2_with fail
          refine (turned_any xA 18 18 rfl (by omega) _).mono ?_
          rintro _ _ ⟨rfl, rfl⟩
          go_wp2_with fail
          refine (turned_any xB 17 17 rfl (by omega) _).mono ?_
          rintro _ _ ⟨rfl, rfl⟩
          go_wp2_with fail
          refine (turned_any xB 19 19 rfl (by omega) _).mono ?_
          rintro _ _ ⟨rfl, rfl⟩
          go_wp2
          go_region
          go_wp2
          go_roundw
          case rel =>
            refine ⟨k + 1, by rw [← hj]; go_num, by omega, (hkx.drewN _).only_set _, ?_⟩
            rw [HW.out, ← HWD.out]
            exact HSET.out
          case measure => simp [intOf]; omega
        · obtain rfl : k = 48 := by omega
          have hlt2 : ¬ ((16 + 48 : Nat) : Int) < 64 := by omega
          have hsz : (A32 (Sh.spread (Sh.loaded bs 64) 48)).size = 64 := by rw [A32_size, spread_len, loaded_len]
          have hone := A32_all (Sh.spread (Sh.loaded bs 64) 48)
          have HSC : Hid (Sh.schedule bs = Sh.spread (Sh.loaded bs 64) 48) := rfl
          have hB0 : Cb B (A32 (List.replicate 64 0)) 174 wr := h0'.kept hkx (show ¬ B = B + 1 by omega)
          have hfin := hB0.row (A32 (Sh.spread (Sh.loaded bs 64) 48))
          obtain ⟨arr, harr⟩ : ∃ arr, A32 (Sh.spread (Sh.loaded bs 64) 48) = arr := ⟨_, rfl⟩
          rw [harr] at hsz hone hfin hcb
          have HARR : Hid (A32 (Sh.spread (Sh.loaded bs 64) 48) = arr) := harr
          clear harr
          have hi : (Tryz.prog.info? 174).map (·.size) = some arr.size := by rw [hsz]; kernel_rfl
          have hi2 : (A32 (List.replicate 64 0)).size = arr.size := by rw [hsz]; rfl
          clear h0' h1'
          go_wp2_with (first | refine wpList_loadAll _ rfl 174 _ rfl rfl hcb Tryz.underlying174 rfl hi ?_ | refine wpList_storeAll _ rfl 174 _ _ rfl rfl rfl hB0 hi hi2 hone ?_)
          refine bodyPost_ret (v := .agg arr) (results_arr (k := B) rfl rfl hfin Tryz.underlying174 rfl hi) rfl ⟨?_, ?_⟩
          · rw [HSC.out, HARR.out]
          · exact (hk.join hkx (fun j hj e => by have := HB.out; unfold Only at e; omega)).setRow (fun hl => absurd hl (by rw [HB.out]; omega)) _

end Go.Proofs.YtepgoppgblfjbaaGreatDoor

/- Package sum: NewConstants. -/
namespace Go.Proofs.YtepgoppgblfjbaaGreatDoor
open Go.RowKit

namespace Sh
/-- The 8 and the 64 words, when k primes have been taken. -/
def consts : Nat → List Int
  | 0 => List.replicate 72 0
  | k + 1 => (if k < 8 then (consts k).set k (frac (primes.getD k 0) 2) else consts k).set (8 + k) (frac (primes.getD k 0) 3)

def K : List Int := consts 64
end Sh

theorem consts_len (k : Nat) : (Sh.consts k).length = 72 := by
  induction k with
  | zero => simp [Sh.consts]
  | succ k ih => unfold Sh.consts; split <;> simp [ih]

theorem K_len : Sh.K.length = 72 := consts_len 64

set_option maxHeartbeats 800000 in
set_option maxRecDepth 100000 in
theorem newConstants_any (w : World) :
    Calls Tryz.prog 83 #[] w fun e w' => e = .returned (.agg (A32 Sh.K)) ∧ Kx (fun _ => False) w w' := by
  go_enter Tryz.func83, Tryz.ntmps83
  go_wp2_with fail
  have hz : Tryz.zeroCells176 = A32 (List.replicate 72 0) := by kernel_rfl
  obtain ⟨w1, e1, hk, h0, h1⟩ := new2 w Tryz.zeroCells176 Tryz.zeroCells176 176 176
  rw [e1]
  clear e1
  rw [hz] at h0 h1
  clear hz
  refine (primes_any w1).mono ?_
  rintro _ w2 ⟨⟨v, rfl, hown⟩, hk2⟩
  have hB1 : w.heap.size + 1 < w1.heap.size := h1.lt
  have h0' := h0.kept hk2 (by simp)
  have h1' := h1.kept hk2 (by simp)
  have hk3 := hk.trans hk2
  clear h0 h1 hk hk2
  obtain ⟨g, cap, hv, hg1, hg2, hc⟩ := own_cells hown (by omega)
  subst hv
  have hcp : ∀ k, k < 64 → w2.cell? ⟨g, k, none⟩ = some (.int .u64 (Sh.primes.getD k 0)) := fun k hk => hc k _ (by
    have := primes_len
    simp [A64, List.getD, List.getElem?_eq_getElem (show k < Sh.primes.length by omega)])
  clear hc hown
  obtain ⟨B, hB⟩ : ∃ B, w.heap.size = B := ⟨_, rfl⟩
  rw [hB] at hB1 h0' h1' ⊢
  have HB : Hid (w.heap.size = B) := hB
  clear hB
  go_wp2
  go_loopw [6] (fun iv w' => ∃ (k : Nat), iv = .int .i64 k ∧ k ≤ 64 ∧ Kx (Only (B + 1)) w2 w' ∧ Cb (B + 1) (A32 (Sh.consts k)) 176 w') (fun iv _ => 64 - (intOf iv).toNat)
  case atStart => exact ⟨0, rfl, by omega, Kx.refl _ _, h1'⟩
  case round =>
    obtain ⟨k, rfl, hk64, hkx, hcb⟩ := hrel
    by_cases hlt : k < 64
    · have hlt2 : (k : Int) < 64 := by omega
      have cg : wr.cell? ⟨g, k, none⟩ = some (.int .u64 (Sh.primes.getD k 0)) := by
        rw [hkx.cell (p := ⟨g, k, none⟩) hg2 (show ¬ g = B + 1 by omega)]; exact hcp k hlt
      have HC : Hid (Sh.consts (k + 1) = (if k < 8 then (Sh.consts k).set k (Sh.frac (Sh.primes.getD k 0) 2) else Sh.consts k).set (8 + k) (Sh.frac (Sh.primes.getD k 0) 3)) := rfl
      have hlen := consts_len k
      generalize Sh.consts k = c at *
      generalize Sh.primes.getD k 0 = p at *
      have c8 : wr.cell? ⟨B + 1, 8 + k, none⟩ = some (.int .u32 (c.getD (8 + k) 0)) := by rw [hcb.cell, A32_get _ _ (by omega)]
      have f8 : wr.frozen? ⟨B + 1, 8 + k, none⟩ = false := hcb.frozen _
      by_cases h8 : k < 8
      · have h82 : (k : Int) < 8 := by omega
        have ck : wr.cell? ⟨B + 1, k, none⟩ = some (.int .u32 (c.getD k 0)) := by rw [hcb.cell, A32_get _ _ (by omega)]
        have fk : wr.frozen? ⟨B + 1, k, none⟩ = false := hcb.frozen _
        go_wp2_with fail
        refine (fraction_any p 2 2 rfl (by omega) _).mono ?_
        rintro _ w3 ⟨rfl, hw3⟩
        rw [hw3]
        clear hw3
        go_wp2_with fail
        refine (fraction_any p 3 3 rfl (by omega) _).mono ?_
        rintro _ w3 ⟨rfl, hw3⟩
        rw [hw3]
        clear hw3
        go_wp2
        go_roundw
        case rel =>
          refine ⟨k + 1, by go_num, by omega, (hkx.only_set _).only_set _, ?_⟩
          rw [HC.out, if_pos h8, ← A32_set, ← A32_set]
          exact (hcb.set k _).set (8 + k) _
        case measure => simp [intOf]; omega
      · have h82 : ¬ (k : Int) < 8 := by omega
        go_wp2_with fail
        refine (fraction_any p 3 3 rfl (by omega) _).mono ?_
        rintro _ w3 ⟨rfl, hw3⟩
        rw [hw3]
        clear hw3
        go_wp2
        go_roundw
        case rel =>
          refine ⟨k + 1, by go_num, by omega, hkx.only_set _, ?_⟩
          rw [HC.out, if_neg h8, ← A32_set]
          exact hcb.set (8 + k) _
        case measure => simp [intOf]; omega
    · obtain rfl : k = 64 := by omega
      have hlt2 : ¬ ((64 : Nat) : Int) < 64 := by omega
      have hsz : (A32 (Sh.consts 64)).size = 72 := by rw [A32_size, consts_len]
      have hone := A32_all (Sh.consts 64)
      have HK : Hid (A32 Sh.K = A32 (Sh.consts 64)) := rfl
      have hB0 : Cb B (A32 (List.replicate 72 0)) 176 wr := h0'.kept hkx (show ¬ B = B + 1 by omega)
      have hfin := hB0.row (A32 (Sh.consts 64))
      obtain ⟨arr, harr⟩ : ∃ arr, A32 (Sh.consts 64) = arr := ⟨_, rfl⟩
      rw [harr] at hsz hone hfin hcb HK
      clear harr
      have hi : (Tryz.prog.info? 176).map (·.size) = some arr.size := by rw [hsz]; kernel_rfl
      have hi2 : (A32 (List.replicate 72 0)).size = arr.size := by rw [hsz]; rfl
      clear h0' h1'
      go_wp2_with (first | refine wpList_loadAll _ rfl 176 _ rfl rfl hcb Tryz.underlying176 rfl hi ?_ | refine wpList_storeAll _ rfl 176 _ _ rfl rfl rfl hB0 hi hi2 hone ?_)
      refine bodyPost_ret (v := .agg arr) (results_arr (k := B) rfl rfl hfin Tryz.underlying176 rfl hi) rfl ⟨?_, ?_⟩
      · rw [HK.out]
      · exact (hk3.join hkx (fun j hj e => by have := HB.out; unfold Only at e; omega)).setRow (fun hl => absurd hl (by rw [HB.out]; omega)) _

set_option maxRecDepth 100000 in
/-- The constants are those of FIPS 180-4. -/
theorem K_eq : Sh.K = [0x6a09e667, 0xbb67ae85, 0x3c6ef372, 0xa54ff53a, 0x510e527f, 0x9b05688c, 0x1f83d9ab, 0x5be0cd19,
    0x428a2f98, 0x71374491, 0xb5c0fbcf, 0xe9b5dba5, 0x3956c25b, 0x59f111f1, 0x923f82a4, 0xab1c5ed5,
    0xd807aa98, 0x12835b01, 0x243185be, 0x550c7dc3, 0x72be5d74, 0x80deb1fe, 0x9bdc06a7, 0xc19bf174,
    0xe49b69c1, 0xefbe4786, 0x0fc19dc6, 0x240ca1cc, 0x2de92c6f, 0x4a7484aa, 0x5cb0a9dc, 0x76f988da,
    0x983e5152, 0xa831c66d, 0xb00327c8, 0xbf597fc7, 0xc6e00bf3, 0xd5a79147, 0x06ca6351, 0x14292967,
    0x27b70a85, 0x2e1b2138, 0x4d2c6dfc, 0x53380d13, 0x650a7354, 0x766a0abb, 0x81c2c92e, 0x92722c85,
    0xa2bfe8a1, 0xa81a664b, 0xc24b8b70, 0xc76c51a3, 0xd192e819, 0xd6990624, 0xf40e3585, 0x106aa070,
    0x19a4c116, 0x1e376c08, 0x2748774c, 0x34b0bcb5, 0x391c0cb3, 0x4ed8aa4a, 0x5b9cca4f, 0x682e6ff3,
    0x748f82ee, 0x78a5636f, 0x84c87814, 0x8cc70208, 0x90befffa, 0xa4506ceb, 0xbef9a3f7, 0xc67178f2] := by kernel_rfl

end Go.Proofs.YtepgoppgblfjbaaGreatDoor

/- A region that asks the tape for its order: its head is quiet in a class of worlds, its tail comes in the order of the text. -/
namespace Go.Proofs.YtepgoppgblfjbaaGreatDoor
open Go.RowKit

section
variable {P : Program} {md : Region.Mode} {ops : Array Oper} {C : World → Prop}

/-- f operations of the head come up, in whatever order; then L. -/
def HeadQ (P : Program) (md : Region.Mode) (ops : Array Oper) (C : World → Prop) (n : Nat) (L : Array Bool → Act → Prop) : Nat → Array Bool → Act → Prop
  | 0, listed, a => L listed a
  | f + 1, listed, a => Region.ready md ops listed ≠ [] ∧ ∀ i ∈ Region.ready md ops listed, i < n ∧ qOp P ops C i (HeadQ P md ops C n L f (listed.setIfInBounds i true)) a

theorem HeadQ.any {n g : Nat} {L : Array Bool → Act → Prop} {Q : Exit → Act → World → Prop} (hL : ∀ listed a w, C w → L listed a → wpAny P md ops Q g listed a w) :
    ∀ (f : Nat) (listed : Array Bool) (a : Act) (w : World), C w → HeadQ P md ops C n L f listed a → wpAny P md ops Q (f + g) listed a w
  | 0, listed, a, w, hC, h => by rw [Nat.zero_add]; exact hL _ _ _ hC h
  | f + 1, listed, a, w, hC, h => by
    have e : f + 1 + g = (f + g) + 1 := by omega
    rw [e]
    exact ⟨fun h0 => absurd h0 h.1, fun i hi => wpOp_of_qOp hC (fun a' w' hw' h' => HeadQ.any hL f _ a' w' hw' h') (h.2 i hi).2⟩

theorem HeadQ.first {n i : Nat} {oi : Oper} {v : Value} {L : Array Bool → Act → Prop} (hi : ops[i]? = some oi) (hsel : ∀ (j : Nat) (o : Oper) cs b, ops[j]? = some o → o.op ≠ .select cs b)
    (hs : Region.sinkB md ops n = true) (hc : Region.chainB md ops n = true) (hn : n < ops.size) (hin : i < n)
    (hdone : ∀ listed a, L listed a → ∀ j ∈ Region.ready md ops listed, n ≤ j) (f : Nat) :
    ∀ (listed : Array Bool) (a : Act), HeadInv md ops n listed →
      (∀ j oj, ops[j]? = some oj → j ≠ i → listed.getD j true = false → (∀ e ∈ oj.after, Region.binds md e = true → e.on ≠ i) → oi.apart ops oj = true) →
      i ∈ Region.ready md ops listed → YieldsIn P ops C oi v a →
      HeadQ P md ops C n L f (listed.setIfInBounds i true) (a.put oi.dst v) → HeadQ P md ops C n L (f + 1) listed a := by
  induction f with
  | zero =>
    intro listed a inv _ hr hy H
    have hun := (mem_ready.1 hr).1
    refine ⟨fun h => (by rw [h] at hr; cases hr), fun j hj => ?_⟩
    have hjn : j < n := Nat.lt_of_not_le fun h => tail_waits hs hc hn inv _ i rfl hin hun j h hj
    refine ⟨hjn, ?_⟩
    by_cases hji : j = i
    · subst hji; exact hy.qOp hi H
    · exact absurd (hdone _ _ H j (ready_mono hj hji)) (by omega)
  | succ f ih =>
    intro listed a inv hfree hr hy H
    have hun := (mem_ready.1 hr).1
    refine ⟨fun h => (by rw [h] at hr; cases hr), fun j hj => ?_⟩
    have hjn : j < n := Nat.lt_of_not_le fun h => tail_waits hs hc hn inv _ i rfl hin hun j h hj
    refine ⟨hjn, ?_⟩
    by_cases hji : j = i
    · subst hji; exact hy.qOp hi H
    · have h1 := (H.2 j (ready_mono hj hji)).2
      obtain ⟨hjun, oj, hoj, hall⟩ := mem_ready.1 hj
      have hnot : ∀ e ∈ oj.after, Region.binds md e = true → e.on ≠ i := fun e he hb heq => by
        have h3 := hall e he hb
        rw [heq] at h3
        rcases Nat.lt_or_ge i listed.size with h' | h'
        · simp [h'] at hun h3; rw [hun] at h3; cases h3
        · simp [Array.getElem?_eq_none h'] at h3
      have h2 := qOp_put hoj (hfree j oj hoj hji hjun hnot) (fun cs b => hsel i oi cs b hi) (fun cs b => hsel j oj cs b hoj) hy h1
      refine qOp_mono (fun a' h3 => ih (listed.setIfInBounds j true) a' (inv.set hj hjn) ?_ (ready_mono hr (Ne.symm hji)) h3.1 (by rw [Array.setIfInBounds_comm _ _ hji]; exact h3.2)) h2
      intro k ok hk hki hun' hno
      refine hfree k ok hk hki ?_ hno
      by_cases hjk : j = k
      · subst hjk; exact hjun
      · rw [getD_set_ne true hjk] at hun'; exact hun'

theorem HeadQ.lex {n g : Nat} {Lq : Act → Prop} (hsel : Region.noSelect ops = true) (hs : Region.sinkB md ops n = true) (hc : Region.chainB md ops n = true) (hn : n < ops.size) :
    ∀ (l : List Oper) (k : Nat) (listed : Array Bool) (a : Act), (∀ j, j < l.length → l[j]? = ops[k + j]?) → k + l.length = n → HeadInv md ops n listed →
    Region.lexHead md ops g l.length k listed = true → wpQuiet P ops C Lq l a →
    HeadQ P md ops C n (fun listed' a' => Region.seqB md ops g n listed' = true ∧ Lq a') l.length listed a
  | [], k, listed, a, _, hk, _, hB, h => by
    obtain rfl : k = n := by simpa using hk
    exact ⟨by simpa [Region.lexHead] using hB, h⟩
  | o :: l, k, listed, a, hl, hk, inv, hB, h => by
    have h0 : ops[k]? = some o := by simpa using (hl 0 (by simp)).symm
    simp only [List.length_cons, Region.lexHead, Bool.and_eq_true] at hB
    obtain ⟨⟨hr, hf⟩, hB'⟩ := hB
    have hkn : k < n := by simp only [List.length_cons] at hk; omega
    have hr' : k ∈ Region.ready md ops listed := by simpa using hr
    have hst : qOp P ops C k (wpQuiet P ops C Lq l) a := by unfold qOp; simp only [h0]; exact h
    obtain ⟨v, hy, hK⟩ := yieldsIn_of_qOp h0 hst
    exact HeadQ.first h0 (Region.noSelect_spec hsel) hs hc hn hkn (fun listed' a' hL => seqB_ready hL.1) l.length listed a inv (Region.free_spec h0 hf) hr' hy
      (HeadQ.lex hsel hs hc hn l (k + 1) _ _ (fun j hj => by have := hl (j + 1) (by simp; omega); simpa [Nat.add_assoc, Nat.add_comm 1 j] using this) (by simp only [List.length_cons] at hk; omega) (inv.set hr' hkn) hB' hK)

theorem wp_region_quiet_tail {id : Nat} {Q : Exit → Act → World → Prop} {a : Act} {w : World} {l : List Oper} (n : Nat) (hm : P.follows .mixedOrders = true) (hB : Region.lexTailB .any l.toArray n = true) (hC : C { w with drawn := w.drawn + 1 })
    (h : wpQuiet P l.toArray C (fun a' => ∀ w', C w' → wpList P l.toArray Q (l.drop n) a' w') (l.take n) a) : (Code.region id l.toArray true).wp P Q a w := by
  simp only [Region.lexTailB, Bool.and_eq_true, decide_eq_true_eq] at hB
  obtain ⟨⟨⟨⟨hsel, hn⟩, hs⟩, hc⟩, hlex⟩ := hB
  have hn' : n < l.length := by simpa using hn
  have htl : (l.take n).length = n := by simp; omega
  have hdl : (l.drop n).length = l.toArray.size - n := by simp
  have inv0 : HeadInv .any l.toArray n (Array.replicate l.toArray.size false) :=
    ⟨by simp, fun j oj _ hl => (by rw [getD_replicate_false] at hl; cases hl), fun t _ ht => getD_in (by simpa using ht) (getD_replicate_false _ _)⟩
  have H := HeadQ.lex (md := .any) (g := l.toArray.size - n) hsel hs hc hn (l.take n) 0 _ a (fun j hj => by
    have hj' : j < n := by rw [htl] at hj; exact hj
    simp [hj']) (by simpa using htl) inv0 (by rw [htl]; exact hlex) h
  refine wp_region_any hm ?_
  have H2 := HeadQ.any (Q := Q) (g := l.toArray.size - n) (fun listed a' w' hC' hL => by
    have := wpAny_of_seq (Q' := Q) (P := P) (md := .any) (l.drop n) n listed a' w' (fun j => by simp) (by rw [hdl]; exact hL.1) (hL.2 w' hC')
    rw [hdl] at this
    exact this) _ _ _ _ hC H
  have e : (l.take n).length + (l.toArray.size - n) = l.toArray.size := by rw [htl]; simp; omega
  rw [e] at H2
  exact H2

/-- One operation of the head that only gives a value. -/
theorem quiet_val {Q : Act → Prop} {a : Act} {o : Oper} {rest : List Oper} (hg : o.guard = none) (v : Value) (hrun : ∀ w, C w → (execOp a.eval o).run P w = .ok (.value v) w) (h : wpQuiet P ops C Q rest (a.put o.dst v)) : wpQuiet P ops C Q (o :: rest) a := by
  unfold wpQuiet
  have hw : Region.wanted o (yielded ops a.tmps) = true := by simp [Region.wanted, hg]
  rw [if_pos hw]
  refine ⟨v, fun w hC => ?_, h⟩
  unfold Oper.quietAt
  rw [hrun w hC]
  exact ⟨rfl, rfl⟩

/-- One call of the head. -/
theorem quiet_enter {Q : Act → Prop} {a : Act} {o : Oper} {rest : List Oper} (hg : o.guard = none) (f : Nat) (args : Array Value) (v : Value) (hrun : ∀ w, (execOp a.eval o).run P w = .ok (.enter f args) w)
    (hcall : ∀ w, C w → Calls P f args w fun e w' => e = .returned v ∧ C w') (h : wpQuiet P ops C Q rest (a.put o.dst v)) : wpQuiet P ops C Q (o :: rest) a := by
  unfold wpQuiet
  have hw : Region.wanted o (yielded ops a.tmps) = true := by simp [Region.wanted, hg]
  rw [if_pos hw]
  refine ⟨v, fun w hC => ?_, h⟩
  unfold Oper.quietAt
  rw [hrun w]
  exact ⟨rfl, hcall w hC⟩
end

end Go.Proofs.YtepgoppgblfjbaaGreatDoor
