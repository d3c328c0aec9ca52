import Derived.Test.YtepgoppgblfjbaaGreatDoorTw11
import Derived.Test.YtepgoppgblfjbaaGreatDoorTw12
import Derived.Test.YtepgoppgblfjbaaGreatDoorTw10
import Derived.Deep.MidRow
import Derived.Deep.Cut
import Derived.Test.YtepgoppgblfjbaaGreatDoorTw02
import Derived.Lib.ItoaLen
import Derived.Test.YtepgoppgblfjbaaGreatDoorTw03
/- Package sum: Of. -/
namespace Go.Proofs.YtepgoppgblfjbaaGreatDoor
open Go.RowKit

namespace Sh
/-- The state behind f blocks. -/
def feed (ad : List Int) : Nat → List Int → List UInt8 → List Int
  | 0, s, _ => s
  | f + 1, s, l => feed ad f (mixed s ad (schedule (l.take 64))) (l.drop 64)

/-- The first k bytes of a state. -/
def digest (s : List Int) : Nat → List UInt8
  | 0 => []
  | k + 1 => digest s k ++ [UInt8.ofNat (s.getD (k / 4) 0 / 2 ^ (24 - k % 4 * 8) % 256).toNat]

/-- The sum of a text, by constants. -/
def ofK (K : List Int) (t : List UInt8) : List UInt8 := digest (feed (K.drop 8) ((padded t).length / 64) (K.take 8) (padded t)) 32
end Sh

theorem mixed_len (s ad sc : List Int) (h : s.length = 8) : (Sh.mixed s ad sc).length = 8 := by
  match s, h with
  | [a, b, c, d, e, f, g, h], _ => simp [Sh.mixed, part_len]

theorem padded_len (t : List UInt8) : (Sh.padded t).length % 64 = 0 ∧ 0 < (Sh.padded t).length ∧ (Sh.padded t).length ≤ t.length + 128 := by
  unfold Sh.padded Sh.zeros
  simp only [List.length_append, List.length_replicate, lens_len, List.length_cons, List.length_nil]
  omega

theorem digest_len (s : List Int) (k : Nat) : (Sh.digest s k).length = k := by
  induction k with
  | zero => rfl
  | succ k ih => simp [Sh.digest, ih]

theorem list8 {s : List Int} (h : s.length = 8) : ∃ a b c d e f g i, s = [a, b, c, d, e, f, g, i] := by
  match s, h with
  | [a, b, c, d, e, f, g, i], _ => exact ⟨a, b, c, d, e, f, g, i, rfl⟩

theorem A8_all (l : List UInt8) : (A8 l).toArray.all (·.oneCell') = true := by
  rw [Array.all_eq_true']
  intro v hv
  simp [A8] at hv
  obtain ⟨x, _, rfl⟩ := hv
  rfl

theorem digest_byte (x : Int) (n : Nat) : (((UInt8.ofNat (x / 2 ^ n % 256).toNat).toNat : Nat) : Int) = x / 2 ^ n % 256 := by
  have h1 : 0 ≤ x / 2 ^ n % 256 := Int.emod_nonneg _ (by decide)
  have h2 : x / 2 ^ n % 256 < 256 := Int.emod_lt_of_pos _ (by decide)
  simp
  omega

theorem digest_set (s : List Int) (k : Nat) (hk : k < 32) {g : Nat} {t : TypeId} {w : World} (h : Cb g (A8 (Sh.digest s k ++ List.replicate (32 - k) 0)).toArray t w) :
    Cb g (A8 (Sh.digest s (k + 1) ++ List.replicate (32 - (k + 1)) 0)).toArray t (w.setCell ⟨g, k, none⟩ (.int .u8 (s.getD (k / 4) 0 / 2 ^ (24 - k % 4 * 8) % 256))) := by
  have h2 := h.set k (.int .u8 (s.getD (k / 4) 0 / 2 ^ (24 - k % 4 * 8) % 256))
  have e : (A8 (Sh.digest s k ++ List.replicate (32 - k) 0)).toArray.setIfInBounds k (.int .u8 (s.getD (k / 4) 0 / 2 ^ (24 - k % 4 * 8) % 256)) = (A8 (Sh.digest s (k + 1) ++ List.replicate (32 - (k + 1)) 0)).toArray := by
    have e1 : 32 - k = (32 - (k + 1)) + 1 := by omega
    rw [e1, List.replicate_succ]
    have hl : (A8 (Sh.digest s k)).length = k := by rw [A8_len, digest_len]
    simp only [Sh.digest, A8_app]
    rw [List.setIfInBounds_toArray]
    congr 1
    rw [List.set_append_right _ _ (by omega), hl, Nat.sub_self, List.append_assoc]
    congr 1
    simp only [A8, List.map_cons, List.set_cons_zero, List.map_nil, List.cons_append, List.nil_append]
    rw [digest_byte]
  rw [e] at h2
  exact h2

theorem digest_cell (s : List Int) (k : Nat) (hk : k < 32) {g : Nat} {t : TypeId} {w : World} (h : Cb g (A8 (Sh.digest s k ++ List.replicate (32 - k) 0)).toArray t w) : ∃ u, w.cell? ⟨g, k, none⟩ = some u := by
  rw [h.cell]
  have hl : k < (A8 (Sh.digest s k ++ List.replicate (32 - k) 0)).toArray.size := by simp [A8_len, digest_len]; omega
  exact ⟨_, Array.getElem?_eq_getElem hl⟩

theorem next_len {L m k : Nat} (h : 64 * (m - k) = L) (hk : k < m) : L - 64 = 64 * (m - (k + 1)) := by omega

theorem next_at {L m k c g : Nat} (h : 64 * (m - k) = L) (hc : L ≤ c) (hk : k + 1 < m) : (if c = 64 then some (⟨g, 64 * k, none⟩ : Addr) else some ⟨g, 64 * k + 64, none⟩) = some ⟨g, 64 * (k + 1), none⟩ := by
  rw [if_neg (by omega)]; rfl

theorem block_cells {p : List UInt8} {g k : Nat} {w w' : World} (h : ∀ (j : Nat) (x : Value), (A8 p)[j]? = some x → w.cell? ⟨g, j, none⟩ = some x) (hp : 64 * k + 64 ≤ p.length) (hC : Kx (fun _ => False) w w') (hg : g < w.heap.size) :
    ∀ i, i < 64 → w'.cell? ⟨g, 64 * k + i, none⟩ = some (.int .u8 ((((p.drop (64 * k)).take 64).getD i 0).toNat : Int)) := by
  intro i hi
  rw [hC.cell (p := ⟨g, 64 * k + i, none⟩) hg id]
  apply h
  have hl : 64 * k + i < p.length := by omega
  simp [A8, List.getD, hi, List.getElem?_eq_getElem hl]

set_option maxHeartbeats 400000 in
set_option maxRecDepth 100000 in
theorem of_any (KK : List Int) (hkl : KK.length = 72) (t : List UInt8) (ht : t.length ≤ 100000) (cb : Nat) (bt : TypeId) (w : World) (hK : Cb cb (A32 KK) bt w) :
    Calls Tryz.prog 129 #[.pointer (some ⟨cb, 0, none⟩), .string ⟨t.toArray⟩] w fun e w' => e = .returned (.agg (A8 (Sh.ofK KK t)).toArray) ∧ Kx (fun _ => False) w w' := by
  have hw0 := hK.lt
  have hr8 : (w.alloc (.cells #[.int .u8 0, .int .u8 0, .int .u8 0, .int .u8 0, .int .u8 0, .int .u8 0, .int .u8 0, .int .u8 0, .int .u8 0, .int .u8 0, .int .u8 0, .int .u8 0, .int .u8 0, .int .u8 0, .int .u8 0, .int .u8 0, .int .u8 0, .int .u8 0, .int .u8 0, .int .u8 0, .int .u8 0, .int .u8 0, .int .u8 0, .int .u8 0, .int .u8 0, .int .u8 0, .int .u8 0, .int .u8 0, .int .u8 0, .int .u8 0, .int .u8 0, .int .u8 0] 231)).rangeAt cb 0 (A32 (KK.take 8)).toList := A32_range KK cb 0 8 bt _ (hK.alloc _) (by rw [hkl]; omega)
  have hsz8 : (A32 (KK.take 8)).size = 8 := by simp [A32_size, hkl]
  have hB1 : Cb (w.heap.size + 1) #[.int .u32 0, .int .u32 0, .int .u32 0, .int .u32 0, .int .u32 0, .int .u32 0, .int .u32 0, .int .u32 0] 173 ((w.alloc (.cells #[.int .u8 0, .int .u8 0, .int .u8 0, .int .u8 0, .int .u8 0, .int .u8 0, .int .u8 0, .int .u8 0, .int .u8 0, .int .u8 0, .int .u8 0, .int .u8 0, .int .u8 0, .int .u8 0, .int .u8 0, .int .u8 0, .int .u8 0, .int .u8 0, .int .u8 0, .int .u8 0, .int .u8 0, .int .u8 0, .int .u8 0, .int .u8 0, .int .u8 0, .int .u8 0, .int .u8 0, .int .u8 0, .int .u8 0, .int .u8 0, .int .u8 0, .int .u8 0] 231)).alloc (.cells #[.int .u32 0, .int .u32 0, .int .u32 0, .int .u32 0, .int .u32 0, .int .u32 0, .int .u32 0, .int .u32 0] 173)) := by
    have h := Cb.new #[.int .u32 0, .int .u32 0, .int .u32 0, .int .u32 0, .int .u32 0, .int .u32 0, .int .u32 0, .int .u32 0] 173 (w.alloc (.cells #[.int .u8 0, .int .u8 0, .int .u8 0, .int .u8 0, .int .u8 0, .int .u8 0, .int .u8 0, .int .u8 0, .int .u8 0, .int .u8 0, .int .u8 0, .int .u8 0, .int .u8 0, .int .u8 0, .int .u8 0, .int .u8 0, .int .u8 0, .int .u8 0, .int .u8 0, .int .u8 0, .int .u8 0, .int .u8 0, .int .u8 0, .int .u8 0, .int .u8 0, .int .u8 0, .int .u8 0, .int .u8 0, .int .u8 0, .int .u8 0, .int .u8 0, .int .u8 0] 231))
    simpa using h
  have ha8 := A32_all (KK.take 8)
  have hB0 : Cb w.heap.size #[.int .u8 0, .int .u8 0, .int .u8 0, .int .u8 0, .int .u8 0, .int .u8 0, .int .u8 0, .int .u8 0, .int .u8 0, .int .u8 0, .int .u8 0, .int .u8 0, .int .u8 0, .int .u8 0, .int .u8 0, .int .u8 0, .int .u8 0, .int .u8 0, .int .u8 0, .int .u8 0, .int .u8 0, .int .u8 0, .int .u8 0, .int .u8 0, .int .u8 0, .int .u8 0, .int .u8 0, .int .u8 0, .int .u8 0, .int .u8 0, .int .u8 0, .int .u8 0] 231 ((w.alloc (.cells #[.int .u8 0, .int .u8 0, .int .u8 0, .int .u8 0, .int .u8 0, .int .u8 0, .int .u8 0, .int .u8 0, .int .u8 0, .int .u8 0, .int .u8 0, .int .u8 0, .int .u8 0, .int .u8 0, .int .u8 0, .int .u8 0, .int .u8 0, .int .u8 0, .int .u8 0, .int .u8 0, .int .u8 0, .int .u8 0, .int .u8 0, .int .u8 0, .int .u8 0, .int .u8 0, .int .u8 0, .int .u8 0, .int .u8 0, .int .u8 0, .int .u8 0, .int .u8 0] 231)).alloc (.cells #[.int .u32 0, .int .u32 0, .int .u32 0, .int .u32 0, .int .u32 0, .int .u32 0, .int .u32 0, .int .u32 0] 173)) := (Cb.new _ 231 w).alloc _
  have hKx : Kx (fun _ => False) w ((w.alloc (.cells #[.int .u8 0, .int .u8 0, .int .u8 0, .int .u8 0, .int .u8 0, .int .u8 0, .int .u8 0, .int .u8 0, .int .u8 0, .int .u8 0, .int .u8 0, .int .u8 0, .int .u8 0, .int .u8 0, .int .u8 0, .int .u8 0, .int .u8 0, .int .u8 0, .int .u8 0, .int .u8 0, .int .u8 0, .int .u8 0, .int .u8 0, .int .u8 0, .int .u8 0, .int .u8 0, .int .u8 0, .int .u8 0, .int .u8 0, .int .u8 0, .int .u8 0, .int .u8 0] 231)).alloc (.cells #[.int .u32 0, .int .u32 0, .int .u32 0, .int .u32 0, .int .u32 0, .int .u32 0, .int .u32 0, .int .u32 0] 173)) := ((Kx.refl _ _).alloc _).alloc _
  have hKK : Cb cb (A32 KK) bt ((w.alloc (.cells #[.int .u8 0, .int .u8 0, .int .u8 0, .int .u8 0, .int .u8 0, .int .u8 0, .int .u8 0, .int .u8 0, .int .u8 0, .int .u8 0, .int .u8 0, .int .u8 0, .int .u8 0, .int .u8 0, .int .u8 0, .int .u8 0, .int .u8 0, .int .u8 0, .int .u8 0, .int .u8 0, .int .u8 0, .int .u8 0, .int .u8 0, .int .u8 0, .int .u8 0, .int .u8 0, .int .u8 0, .int .u8 0, .int .u8 0, .int .u8 0, .int .u8 0, .int .u8 0] 231)).alloc (.cells #[.int .u32 0, .int .u32 0, .int .u32 0, .int .u32 0, .int .u32 0, .int .u32 0, .int .u32 0, .int .u32 0] 173)) := (hK.alloc _).alloc _
  obtain ⟨arr, harr⟩ : ∃ arr, A32 (KK.take 8) = arr := ⟨_, rfl⟩
  rw [harr] at hr8 hsz8 ha8
  have HARR : Hid (A32 (KK.take 8) = arr) := harr
  clear harr
  have hi8 : (Tryz.prog.info? 173).map (·.size) = some arr.size := by rw [hsz8]; kernel_rfl
  have hz8 : (#[.int .u32 0, .int .u32 0, .int .u32 0, .int .u32 0, .int .u32 0, .int .u32 0, .int .u32 0, .int .u32 0] : Array Value).size = arr.size := by rw [hsz8]; rfl
  have h5 := hB1.row arr
  have h4 := hB0.rowOther (show w.heap.size ≠ w.heap.size + 1 by omega) arr
  have hKc := hKK.rowOther (show cb ≠ w.heap.size + 1 by omega) arr
  have hKx2 := hKx.setRow (g := w.heap.size + 1) (fun h => absurd h (by omega)) arr
  go_enter Tryz.func129, Tryz.ntmps129
  go_wp2_with (first | refine wpList_loadAt _ rfl 173 _ rfl rfl hr8 Tryz.underlying173 rfl hi8 ?_ | refine wpList_storeAll _ rfl 173 _ _ rfl rfl rfl hB1 hi8 hz8 ha8 ?_)
  revert h4 h5 hKc hKx2
  generalize ((w.alloc (.cells #[.int .u8 0, .int .u8 0, .int .u8 0, .int .u8 0, .int .u8 0, .int .u8 0, .int .u8 0, .int .u8 0, .int .u8 0, .int .u8 0, .int .u8 0, .int .u8 0, .int .u8 0, .int .u8 0, .int .u8 0, .int .u8 0, .int .u8 0, .int .u8 0, .int .u8 0, .int .u8 0, .int .u8 0, .int .u8 0, .int .u8 0, .int .u8 0, .int .u8 0, .int .u8 0, .int .u8 0, .int .u8 0, .int .u8 0, .int .u8 0, .int .u8 0, .int .u8 0] 231)).alloc (.cells #[.int .u32 0, .int .u32 0, .int .u32 0, .int .u32 0, .int .u32 0, .int .u32 0, .int .u32 0, .int .u32 0] 173)).setRow (w.heap.size + 1) arr = w1
  intro h5 h4 hKc hKx2
  clear hr8 hB1 hB0 hKx hKK
  refine (padded_any t ht w1).mono ?_
  rintro _ w2 ⟨⟨v, rfl, hown⟩, hk2⟩
  obtain ⟨hp1, hp2, hp3⟩ := padded_len t
  have HOF : Hid (Sh.ofK KK t = Sh.digest (Sh.feed (KK.drop 8) ((Sh.padded t).length / 64) (KK.take 8) (Sh.padded t)) 32) := rfl
  obtain ⟨p, hp⟩ : ∃ p, Sh.padded t = p := ⟨_, rfl⟩
  rw [hp] at hp1 hp2 hp3 hown HOF
  clear hp
  obtain ⟨m, hm⟩ : ∃ m, p.length = 64 * m := ⟨p.length / 64, by omega⟩
  have hm0 : 0 < m := by omega
  have HOF2 : Hid (Sh.ofK KK t = Sh.digest (Sh.feed (KK.drop 8) m (KK.take 8) p) 32) := by
    show _ = _
    rw [HOF.out, show p.length / 64 = m by omega]
  clear HOF hp1 hp2
  have hpne : A8 p ≠ [] := fun e => by
    have h : (A8 p).length = 0 := by rw [e]; rfl
    rw [A8_len] at h; omega
  obtain ⟨g, cap, rfl, hg1, hg2, hcap, hcells⟩ := hown.cell hpne
  clear hpne
  have hpl : (A8 p).length = 64 * m := by rw [A8_len, hm]
  rw [hpl] at hcap ⊢
  have hw1s : w.heap.size + 1 < w1.heap.size := h5.lt
  have h4' := h4.kept hk2 (by simp)
  have h5' := h5.kept hk2 (by simp)
  have hKc' := hKc.kept hk2 (by simp)
  have hKx3 := hKx2.trans hk2
  have hd64 : (Tryz.prog.info? 174).map (·.size) = some (A32 ((KK.drop 8).take 64)).size := by rw [A32_size, List.length_take, List.length_drop, hkl]; kernel_rfl
  clear h4 h5 hKc hKx2 hown hk2
  have hcb5 : ∀ (w' : World), Kx (Only (w.heap.size + 1)) w2 w' → Cb cb (A32 KK) bt w' ∧ (∀ k x, (A8 p)[k]? = some x → w'.cell? ⟨g, k, none⟩ = some x) := by
    intro w' hk
    refine ⟨hKc'.kept hk (by unfold Only; omega), fun k x hx => ?_⟩
    rw [hk.cell (p := ⟨g, k, none⟩) hg2 (show ¬ g = w.heap.size + 1 by omega)]
    exact hcells k x hx
  obtain ⟨B, hB⟩ : ∃ B, w.heap.size = B := ⟨_, rfl⟩
  have HB : Hid (w.heap.size = B) := hB
  rw [hB] at h4' h5' hcb5 ⊢
  clear hB
  go_wp2
  go_loopw [6] (fun v6 w' => ∃ (k : Nat) (S : List Int) (q : Option Addr) (c : Nat), k ≤ m ∧ S.length = 8 ∧ v6 = .slice q (64 * (m - k)) c ∧ 64 * (m - k) ≤ c ∧ (k < m → q = some ⟨g, 64 * k, none⟩) ∧ Kx (Only (B + 1)) w2 w' ∧ Cb (B + 1) (A32 S) 173 w' ∧ Sh.feed (KK.drop 8) m (KK.take 8) p = Sh.feed (KK.drop 8) (m - k) S (p.drop (64 * k))) (fun v6 _ => vlen v6)
  case atStart => exact ⟨0, KK.take 8, some ⟨g, 0, none⟩, cap, by omega, by simp [hkl], by simp, by simpa using hcap, fun _ => by simp, Kx.refl _ _, by rw [HARR.out]; exact h5', by simp⟩
  case round =>
    obtain ⟨k, S, q, c, hkm, hS, rfl, hc, hq, hkx, hst, hE⟩ := hrel
    have HE : Hid (Sh.feed (KK.drop 8) m (KK.take 8) p = Sh.feed (KK.drop 8) (m - k) S (p.drop (64 * k))) := hE
    clear hE
    by_cases hlt : k < m
    · obtain rfl := hq hlt
      obtain ⟨hKr, hcr⟩ := hcb5 _ hkx
      have hpos : (0 : Int) < ((64 * (m - k) : Nat) : Int) := by omega
      have h64 : (64 : Int) ≤ (c : Int) := by omega
      have h64' : (64 : Int) ≤ ((64 * (m - k) : Nat) : Int) := by omega
      have HI8 : Hid ((Tryz.prog.info? 173).map (·.size) = some arr.size) := hi8
      have HD64 : Hid ((Tryz.prog.info? 174).map (·.size) = some (A32 ((KK.drop 8).take 64)).size) := hd64
      have HCB5 : Hid (∀ (w' : World), Kx (Only (B + 1)) w2 w' → Cb cb (A32 KK) bt w' ∧ (∀ k x, (A8 p)[k]? = some x → w'.cell? ⟨g, k, none⟩ = some x)) := hcb5
      have HCR : Hid (∀ (k : Nat) (x : Value), (A8 p)[k]? = some x → wr.cell? ⟨g, k, none⟩ = some x) := hcr
      clear hi8 hd64 hcb5 hcr hcells hq ha8 hz8
      obtain ⟨L, hL⟩ : ∃ L, 64 * (m - k) = L := ⟨_, rfl⟩
      rw [hL] at hc hpos h64' ⊢
      have HL : Hid (64 * (m - k) = L) := hL
      clear hL
      have hposN : 0 < L := by omega
      have HM : Hid (p.length = 64 * m) := hm
      have hgr : g < wr.heap.size := Nat.lt_of_lt_of_le hg2 hkx.size
      go_wp2_with fail
      have hsS : (Tryz.prog.info? 173).map (·.size) = some (A32 S).size := by rw [A32_size, hS]; kernel_rfl
      obtain ⟨s0, s1, s2, s3, s4, s5, s6, s7, rfl⟩ := list8 hS
      refine wp_region_quiet_tail (C := fun w' => Kx (fun _ => False) wr w') 9 (by kernel_rfl) (by kernel_rfl) (Kx.refl _ _).drew ?_
      refine quiet_val rfl (.agg (A32 [s0, s1, s2, s3, s4, s5, s6, s7])) (fun w' hC => exec_loadAt 173 _ rfl rfl (A32_range _ _ 0 8 173 _ (hst.kept hC id) (by simp)) Tryz.underlying173 rfl hsS) ?_
      refine quiet_val rfl (.pointer (some ⟨cb, 0, none⟩)) (fun w' hC => rfl) ?_
      refine quiet_val rfl (.pointer (some ⟨cb, 0, none⟩)) (fun w' hC => by go_simp) ?_
      refine quiet_val rfl (.pointer (some ⟨cb, 8, none⟩)) (fun w' hC => by go_simp) ?_
      refine quiet_val rfl (.agg (A32 ((KK.drop 8).take 64))) (fun w' hC => exec_loadAt 174 _ rfl rfl (A32_range _ _ 8 64 bt _ (hKr.kept hC id) (by rw [hkl]; omega)) Tryz.underlying174 rfl HD64.out) ?_
      refine quiet_val rfl (.slice (some ⟨g, 64 * k, none⟩) L c) (fun w' hC => rfl) ?_
      refine quiet_val rfl (.slice (some ⟨g, 64 * k, none⟩) 64 c) (fun w' hC => by go_simp) ?_
      refine quiet_enter rfl 180 #[.slice (some ⟨g, 64 * k, none⟩) 64 c] (.agg (A32 (Sh.schedule ((p.drop (64 * k)).take 64)))) (fun w' => by go_simp) (fun w' hC => (schedule_any _ g (64 * k) c w' (block_cells HCR.out (by rw [HM.out]; omega) hC hgr)).mono (fun e w'' h => ⟨h.1, hC.trans h.2⟩)) ?_
      refine quiet_enter rfl 179 #[.agg (A32 [s0, s1, s2, s3, s4, s5, s6, s7]), .agg (A32 ((KK.drop 8).take 64)), .agg (A32 (Sh.schedule ((p.drop (64 * k)).take 64)))] (.agg (A32 (Sh.mixed [s0, s1, s2, s3, s4, s5, s6, s7] ((KK.drop 8).take 64) (Sh.schedule ((p.drop (64 * k)).take 64))))) (fun w' => by go_simp)
        (fun w' hC => (mixed_any s0 s1 s2 s3 s4 s5 s6 s7 _ _ (by simp [hkl]) (by unfold Sh.schedule; rw [spread_len, loaded_len]) w').mono (fun e w'' h => ⟨h.1, hC.trans h.2⟩)) ?_
      refine wpQuiet_nil (fun w' hC => ?_)
      have hml := mixed_len [s0, s1, s2, s3, s4, s5, s6, s7] ((KK.drop 8).take 64) (Sh.schedule ((p.drop (64 * k)).take 64)) rfl
      have HN : Hid (Sh.feed (KK.drop 8) m (KK.take 8) p = Sh.feed (KK.drop 8) (m - (k + 1)) (Sh.mixed [s0, s1, s2, s3, s4, s5, s6, s7] ((KK.drop 8).take 64) (Sh.schedule ((p.drop (64 * k)).take 64))) (p.drop (64 * (k + 1)))) := by
        show _ = _
        rw [HE.out, show m - k = (m - (k + 1)) + 1 by omega, List.take_of_length_le (by rw [List.length_drop, hkl]; omega)]
        simp only [Sh.feed, List.drop_drop]
        congr 2
      generalize Sh.mixed [s0, s1, s2, s3, s4, s5, s6, s7] ((KK.drop 8).take 64) (Sh.schedule ((p.drop (64 * k)).take 64)) = S' at *
      have hstw := hst.kept hC id
      have hrow := hstw.row (A32 S')
      simp only [Act.put, List.setIfInBounds_toArray, List.set_cons_succ, List.set_cons_zero, List.drop_succ_cons, List.drop_zero]
      refine wpList_storeAll w' rfl 173 _ _ rfl rfl rfl hstw (by rw [A32_size, hml]; kernel_rfl) (by rw [A32_size, A32_size, hml]; rfl) (A32_all _) ?_
      have hkx' : Kx (Only (B + 1)) w2 (w'.setRow (B + 1) (A32 S')) := (hkx.join hC (fun _ _ h => h.elim)).setRow (fun _ => rfl) _
      generalize w'.setRow (B + 1) (A32 S') = w'' at *
      clear hsS hstw HE HD64 HCR hKr hst hC
      simp only [Act.put]
      go_wp2
      go_roundw
      case rel =>
        have e1 : L - 64 = 64 * (m - (k + 1)) := next_len HL.out hlt
        exact ⟨k + 1, S', (if c = 64 then some ⟨g, 64 * k, none⟩ else some ⟨g, 64 * k + 64, none⟩), c - 64, hlt, hml, by rw [e1], by rw [← e1]; exact Nat.sub_le_sub_right hc 64, fun h => next_at HL.out hc h, hkx', hrow, HN.out⟩
      case measure => exact Nat.sub_lt hposN (by decide)
    · obtain rfl : k = m := by omega
      have HF : Hid (Sh.ofK KK t = Sh.digest S 32) := by
        show _ = _
        rw [HOF2.out, HE.out]
        simp [Sh.feed]
      have hz : 64 * (k - k) = 0 := by omega
      rw [hz]
      obtain ⟨hKr, hcr⟩ := hcb5 _ hkx
      have h4r := h4'.kept hkx (show ¬ B = B + 1 by omega)
      have hkxw := hKx3.join hkx (fun j hj e => by have := HB.out; unfold Only at e; omega)
      clear hq hcr hKr HE HOF2 hcb5 hcells hi8 hd64 ha8 hz8 HARR h4' h5' hKc' hK
      go_wp2
      have hD0 : Cb wr.heap.size #[.int .u8 0, .int .u8 0, .int .u8 0, .int .u8 0, .int .u8 0, .int .u8 0, .int .u8 0, .int .u8 0, .int .u8 0, .int .u8 0, .int .u8 0, .int .u8 0, .int .u8 0, .int .u8 0, .int .u8 0, .int .u8 0, .int .u8 0, .int .u8 0, .int .u8 0, .int .u8 0, .int .u8 0, .int .u8 0, .int .u8 0, .int .u8 0, .int .u8 0, .int .u8 0, .int .u8 0, .int .u8 0, .int .u8 0, .int .u8 0, .int .u8 0, .int .u8 0] 231 (wr.alloc (.cells #[.int .u8 0, .int .u8 0, .int .u8 0, .int .u8 0, .int .u8 0, .int .u8 0, .int .u8 0, .int .u8 0, .int .u8 0, .int .u8 0, .int .u8 0, .int .u8 0, .int .u8 0, .int .u8 0, .int .u8 0, .int .u8 0, .int .u8 0, .int .u8 0, .int .u8 0, .int .u8 0, .int .u8 0, .int .u8 0, .int .u8 0, .int .u8 0, .int .u8 0, .int .u8 0, .int .u8 0, .int .u8 0, .int .u8 0, .int .u8 0, .int .u8 0, .int .u8 0] 231)) := Cb.new _ 231 wr
      have hstA := hst.alloc (.cells #[.int .u8 0, .int .u8 0, .int .u8 0, .int .u8 0, .int .u8 0, .int .u8 0, .int .u8 0, .int .u8 0, .int .u8 0, .int .u8 0, .int .u8 0, .int .u8 0, .int .u8 0, .int .u8 0, .int .u8 0, .int .u8 0, .int .u8 0, .int .u8 0, .int .u8 0, .int .u8 0, .int .u8 0, .int .u8 0, .int .u8 0, .int .u8 0, .int .u8 0, .int .u8 0, .int .u8 0, .int .u8 0, .int .u8 0, .int .u8 0, .int .u8 0, .int .u8 0] 231)
      have h4A := h4r.alloc (.cells #[.int .u8 0, .int .u8 0, .int .u8 0, .int .u8 0, .int .u8 0, .int .u8 0, .int .u8 0, .int .u8 0, .int .u8 0, .int .u8 0, .int .u8 0, .int .u8 0, .int .u8 0, .int .u8 0, .int .u8 0, .int .u8 0, .int .u8 0, .int .u8 0, .int .u8 0, .int .u8 0, .int .u8 0, .int .u8 0, .int .u8 0, .int .u8 0, .int .u8 0, .int .u8 0, .int .u8 0, .int .u8 0, .int .u8 0, .int .u8 0, .int .u8 0, .int .u8 0] 231)
      have hkA := hkxw.alloc (.cells #[.int .u8 0, .int .u8 0, .int .u8 0, .int .u8 0, .int .u8 0, .int .u8 0, .int .u8 0, .int .u8 0, .int .u8 0, .int .u8 0, .int .u8 0, .int .u8 0, .int .u8 0, .int .u8 0, .int .u8 0, .int .u8 0, .int .u8 0, .int .u8 0, .int .u8 0, .int .u8 0, .int .u8 0, .int .u8 0, .int .u8 0, .int .u8 0, .int .u8 0, .int .u8 0, .int .u8 0, .int .u8 0, .int .u8 0, .int .u8 0, .int .u8 0, .int .u8 0] 231)
      have hlt4 := h4r.lt
      have hltS := hst.lt
      revert hD0 hstA h4A hkA
      generalize wr.alloc (.cells #[.int .u8 0, .int .u8 0, .int .u8 0, .int .u8 0, .int .u8 0, .int .u8 0, .int .u8 0, .int .u8 0, .int .u8 0, .int .u8 0, .int .u8 0, .int .u8 0, .int .u8 0, .int .u8 0, .int .u8 0, .int .u8 0, .int .u8 0, .int .u8 0, .int .u8 0, .int .u8 0, .int .u8 0, .int .u8 0, .int .u8 0, .int .u8 0, .int .u8 0, .int .u8 0, .int .u8 0, .int .u8 0, .int .u8 0, .int .u8 0, .int .u8 0, .int .u8 0] 231) = w3
      intro hD0 hstA h4A hkA
      obtain ⟨N, hN⟩ : ∃ N, wr.heap.size = N := ⟨_, rfl⟩
      have hwN : w.heap.size ≤ wr.heap.size := hkxw.size
      rw [hN] at hD0 hlt4 hltS hwN ⊢
      clear hN hst h4r hkxw hkx
      go_loopw [29] (fun iv w' => ∃ (k : Nat), iv = .int .i64 k ∧ k ≤ 32 ∧ Kx (Only N) w3 w' ∧ Cb N (A8 (Sh.digest S k ++ List.replicate (32 - k) 0)).toArray 231 w') (fun iv _ => 32 - (intOf iv).toNat)
      case atStart => exact ⟨0, rfl, by omega, Kx.refl _ _, hD0⟩
      case round =>
        obtain ⟨i, rfl, hi32, hki, hci⟩ := hrel
        by_cases hlt : i < 32
        · have hlt2 : (i : Int) < 32 := by omega
          have hs0 : (0 : Int) ≤ 24 - (i : Int) % 4 * 8 := by omega
          have hs1 : (24 - (i : Int) % 4 * 8).toNat = 24 - i % 4 * 8 := by omega
          have hs2 : min (24 - i % 4 * 8) 32 = 24 - i % 4 * 8 := by omega
          have hq0 : (0 : Int) ≤ (i : Int) / 4 := by omega
          have hq1 : (i : Int) / 4 < 8 := by omega
          have hstr := hstA.kept hki (show ¬ B + 1 = N by omega)
          have cS : wr.cell? ⟨B + 1, i / 4, none⟩ = some (.int .u32 (S.getD (i / 4) 0)) := by rw [hstr.cell, A32_get _ _ (by omega)]
          have hset := digest_set S i hlt hci
          have HSET : Hid (Cb N (A8 (Sh.digest S (i + 1) ++ List.replicate (32 - (i + 1)) 0)).toArray 231 (wr.setCell ⟨N, i, none⟩ (.int .u8 (S.getD (i / 4) 0 / 2 ^ (24 - i % 4 * 8) % 256)))) := hset
          have cN : ∃ u, wr.cell? ⟨N, i, none⟩ = some u := digest_cell S i hlt hci
          obtain ⟨u, cN⟩ := cN
          have fN : wr.frozen? ⟨N, i, none⟩ = false := hci.frozen i
          clear hset
          generalize S.getD (i / 4) 0 = x at *
          go_wp2
          go_roundw
          case rel => exact ⟨i + 1, by go_num, hlt, hki.only_set _, HSET.out⟩
          case measure => simp [intOf]; omega
        · obtain rfl : i = 32 := by omega
          have hlt2 : ¬ ((32 : Nat) : Int) < 32 := by omega
          have h4i := h4A.kept hki (show ¬ B = N by omega)
          have hfin : Hid ((A8 (Sh.digest S 32 ++ List.replicate (32 - 32) 0)).toArray = (A8 (Sh.ofK KK t)).toArray) := by
            show _ = _
            rw [HF.out]; simp
          have hasz : (A8 (Sh.digest S 32 ++ List.replicate (32 - 32) 0)).toArray.size = 32 := by simp [A8_len, digest_len]
          have haone : (A8 (Sh.digest S 32 ++ List.replicate (32 - 32) 0)).toArray.all (·.oneCell') = true := A8_all _
          obtain ⟨arr2, harr2⟩ : ∃ arr2, (A8 (Sh.digest S 32 ++ List.replicate (32 - 32) 0)).toArray = arr2 := ⟨_, rfl⟩
          rw [harr2] at hci hasz haone hfin
          clear harr2
          have hi2 : (Tryz.prog.info? 231).map (·.size) = some arr2.size := by rw [hasz]; kernel_rfl
          have hrow2 := h4i.row arr2
          have hsz2 : (#[.int .u8 0, .int .u8 0, .int .u8 0, .int .u8 0, .int .u8 0, .int .u8 0, .int .u8 0, .int .u8 0, .int .u8 0, .int .u8 0, .int .u8 0, .int .u8 0, .int .u8 0, .int .u8 0, .int .u8 0, .int .u8 0, .int .u8 0, .int .u8 0, .int .u8 0, .int .u8 0, .int .u8 0, .int .u8 0, .int .u8 0, .int .u8 0, .int .u8 0, .int .u8 0, .int .u8 0, .int .u8 0, .int .u8 0, .int .u8 0, .int .u8 0, .int .u8 0] : Array Value).size = arr2.size := by rw [hasz]; rfl
          clear h4A
          go_wp2_with (first | refine wpList_loadAll _ rfl 231 _ rfl rfl hci Tryz.underlying231 rfl hi2 ?_ | refine wpList_storeAll _ rfl 231 _ _ rfl rfl rfl h4i hi2 hsz2 haone ?_)
          refine bodyPost_ret (v := .agg arr2) (results_arr (k := B) rfl rfl hrow2 Tryz.underlying231 rfl hi2) rfl ⟨?_, ?_⟩
          · rw [hfin.out]
          · exact (hkA.join hki (fun j hj e => by unfold Only at e; omega)).setRow (fun hl => absurd hl (by rw [HB.out]; omega)) _

end Go.Proofs.YtepgoppgblfjbaaGreatDoor

/- Package object: an object, its id (what the package-level variables hold, besides). -/
namespace Go.Proofs.YtepgoppgblfjbaaGreatDoor
open Go.RowKit

namespace Sh
/-- The kinds' words. -/
def kindW : List (List UInt8) := [[], [98, 108, 111, 98], [116, 114, 101, 101], [99, 111, 109, 109, 105, 116], [116, 97, 103]]

/-- What an object's sum is of. -/
def text (kind : Nat) (c : List UInt8) : List UInt8 := kindW.getD kind [] ++ [32] ++ Lib.itoa (c.length : Int) ++ [0] ++ c

/-- An object's id, by constants. -/
def idK (K : List Int) (kind : Nat) (c : List UInt8) : List UInt8 := hex (ofK K (text kind c))
end Sh

/-- What the package-level variables hold. -/
structure Gl (w : World) : Prop where
  max : ∃ m, w.cell? ⟨1, 0, none⟩ = some (.int .i64 m)
  pow : Lib.TabIs Tryz.prog w "internal/strconv.uint64pow10" .u64 Lib.pow10Tab
  words : ∀ j s, Sh.kindW[j]? = some s → w.cell? ⟨2, j, none⟩ = some (.string ⟨s.toArray⟩)

theorem glob0 : Tryz.prog.globalNamed "internal/strconv.uint64pow10" = some 0 := by kernel_rfl

theorem Gl.kept {X : Nat → Prop} {w w' : World} (h : Gl w) (hk : Kx X w w') (hX : ∀ j, j < 3 → ¬ X j) : Gl w' := by
  have h2 : 2 < w.heap.size := lt_of_cell (h.words 0 [] rfl)
  obtain ⟨m, hm⟩ := h.max
  refine ⟨⟨m, ?_⟩, ?_, fun j s hs => ?_⟩
  · rw [hk.cell (p := ⟨1, 0, none⟩) (show 1 < w.heap.size by omega) (hX 1 (by omega))]; exact hm
  · have := h.pow
    unfold Lib.TabIs World.var? at this ⊢
    rw [glob0] at this ⊢
    simp only [Option.bind_some] at this ⊢
    rw [hk.block 0 (by omega) (hX 0 (by omega))]
    exact this
  · rw [hk.cell (p := ⟨2, j, none⟩) h2 (hX 2 (by omega))]; exact h.words j s hs

theorem Gl.size {w : World} (h : Gl w) : 2 < w.heap.size := lt_of_cell (h.words 0 [] rfl)

theorem Kx.grown' {X : Nat → Prop} (w : World) (k : Nat) (os : Array Obj) : Kx X w (Go.Sort.grow (w.drewN k) os) :=
  ⟨rfl, rfl, rfl, by simp [Go.Sort.grow, World.drewN], fun j hj _ => by
    show (w.heap ++ os)[j]? = _
    rw [Array.getElem?_append_left hj]⟩

theorem itoa_any (n : Nat) (hn : n ≤ 1000000) (w : World) (h : Gl w) :
    Calls Tryz.prog 86 #[.int .i64 (n : Int)] w fun e w' => e = .returned (.string ⟨(Lib.itoa (n : Int)).toArray⟩) ∧ Kx (fun _ => False) w w' := by
  refine (Tryz.strconv_Itoa (n : Int) (by omega) (by omega) w h.pow).mono ?_
  rintro e w' ⟨rfl, k, os, rfl⟩
  exact ⟨rfl, Kx.grown' _ _ _⟩

set_option maxHeartbeats 800000 in
set_option maxRecDepth 100000 in
theorem object_any (KK : List Int) (hKK : KK.length = 72) (mb : Nat) (mt : TypeId) (kind : Nat) (c : List UInt8) (w : World) (hgl : Gl w) (hK : Cb mb (A32 KK) mt w) (hk : 0 < kind ∧ kind < 5) (hc : c.length ≤ 45000) :
    Calls Tryz.prog 299 #[.pointer (some ⟨mb, 0, none⟩), .int .i64 (kind : Int), .string ⟨c.toArray⟩] w fun e w' => e = .returned (.agg #[.int .i64 (kind : Int), .string ⟨c.toArray⟩, .string ⟨(Sh.idK KK kind c).toArray⟩]) ∧ Kx (fun _ => False) w w' := by
  have hw2 := hgl.size
  have hkb : (kind : Int) < 5 := by omega
  go_enter Tryz.func299, Tryz.ntmps299
  go_wp2_with fail
  obtain ⟨kw, hkw⟩ : ∃ kw, Sh.kindW[kind]? = some kw := ⟨_, List.getElem?_eq_getElem (show kind < Sh.kindW.length from hk.2)⟩
  have hT : Sh.text kind c = kw ++ [32] ++ Lib.itoa (c.length : Int) ++ [0] ++ c := by unfold Sh.text; rw [List.getD_eq_getElem?_getD, hkw]; rfl
  have hil := Lib.itoa_length_le (c.length : Int) (by omega) (by omega)
  have hkl : kw.length ≤ 6 := by
    have h : ∀ x ∈ Sh.kindW, x.length ≤ 6 := by decide
    exact h kw (List.mem_of_getElem? hkw)
  have HT : Hid (Sh.text kind c = kw ++ [32] ++ Lib.itoa (c.length : Int) ++ [0] ++ c) := hT
  have htl : (kw ++ [32] ++ Lib.itoa (c.length : Int) ++ [0] ++ c).length ≤ 100000 := by simp; omega
  clear hT
  have hgW := hgl.kept ((Kx.refl (fun _ => False) w).alloc (.cells #[.int .i64 0, .string ⟨#[]⟩, .string ⟨#[]⟩] 105)) (fun _ _ => id)
  have hKW := hK.alloc (.cells #[.int .i64 0, .string ⟨#[]⟩, .string ⟨#[]⟩] 105)
  have hD := Cb.new #[.int .i64 0, .string ⟨#[]⟩, .string ⟨#[]⟩] 105 w
  have hkxW := (Kx.refl (fun _ => False) w).alloc (.cells #[.int .i64 0, .string ⟨#[]⟩, .string ⟨#[]⟩] 105)
  revert hgW hKW hD hkxW
  generalize w.alloc (.cells #[.int .i64 0, .string ⟨#[]⟩, .string ⟨#[]⟩] 105) = W
  intro hgW hKW hD hkxW
  have hcat : ∀ a b : List UInt8, (⟨a.toArray⟩ : ByteArray) ++ ⟨b.toArray⟩ = ⟨(a ++ b).toArray⟩ := fun a b => by
    apply ByteArray.ext; simp
  refine wp_region_quiet_tail (C := fun w' => Kx (fun _ => False) W w') 11 (by kernel_rfl) (by kernel_rfl) (Kx.refl _ _).drew ?_
  refine quiet_val rfl (.int .i64 (kind : Int)) (fun w' hC => rfl) ?_
  refine quiet_val rfl (.pointer (some ⟨2, kind, none⟩)) (fun w' hC => by go_simp) ?_
  refine quiet_val rfl (.string ⟨kw.toArray⟩) (fun w' hC => by
    have hcw : w'.cell? ⟨2, kind, none⟩ = some (.string ⟨kw.toArray⟩) := (hgW.kept hC (fun _ _ => id)).words kind kw hkw
    go_simp) ?_
  refine quiet_val rfl (.string ⟨(kw ++ [32]).toArray⟩) (fun w' hC => by go_simp; omega) ?_
  refine quiet_val rfl (.string ⟨c.toArray⟩) (fun w' hC => rfl) ?_
  refine quiet_val rfl (.int .i64 (c.length : Int)) (fun w' hC => by go_simp) ?_
  refine quiet_enter rfl 86 #[.int .i64 (c.length : Int)] (.string ⟨(Lib.itoa (c.length : Int)).toArray⟩) (fun w' => by go_simp) (fun w' hC => (itoa_any c.length (by omega) w' (hgW.kept hC (fun _ _ => id))).mono (fun e w'' h => ⟨h.1, hC.trans h.2⟩)) ?_
  simp only [Act.put, List.setIfInBounds_toArray, List.set_cons_succ, List.set_cons_zero]
  have hitl := hil
  generalize Lib.itoa (c.length : Int) = it at *
  refine quiet_val rfl (.string ⟨(kw ++ [32] ++ it).toArray⟩) (fun w' hC => by go_simp; omega) ?_
  refine quiet_val rfl (.string ⟨(kw ++ [32] ++ it ++ [0]).toArray⟩) (fun w' hC => by go_simp; omega) ?_
  simp only [Act.put, List.setIfInBounds_toArray, List.set_cons_succ, List.set_cons_zero]
  refine quiet_val rfl (.string ⟨c.toArray⟩) (fun w' hC => rfl) ?_
  refine quiet_val rfl (.string ⟨(kw ++ [32] ++ it ++ [0] ++ c).toArray⟩) (fun w' hC => by go_simp; omega) ?_
  refine wpQuiet_nil (fun w' hC => ?_)
  simp only [Act.put, List.setIfInBounds_toArray, List.set_cons_succ, List.set_cons_zero, List.drop_succ_cons, List.drop_zero]
  obtain ⟨T, hTT⟩ : ∃ T, kw ++ [32] ++ it ++ [0] ++ c = T := ⟨_, rfl⟩
  rw [hTT] at htl HT ⊢
  clear hTT
  have hKw := hKW.kept hC id
  have hDw := hD.kept hC id
  have hkw' := hkxW.trans hC
  clear hgW hcat hKW hD
  have HID : Hid (Sh.idK KK kind c = Sh.hex (Sh.ofK KK T)) := by show _ = _; unfold Sh.idK; rw [HT.out]
  obtain ⟨D, hDD⟩ : ∃ D, w.heap.size = D := ⟨_, rfl⟩
  have HD : Hid (w.heap.size = D) := hDD
  rw [hDD] at hDw ⊢
  clear hDD hkw hkl
  go_wp2_with fail
  refine (of_any KK hKK T htl mb mt _ hKw).mono ?_
  rintro _ w2 ⟨rfl, hk2⟩
  have hofl : (Sh.ofK KK T).length = 32 := by unfold Sh.ofK; exact digest_len _ _
  have hDw2 := hDw.kept hk2 id
  have hkw2 := hkw'.trans hk2
  generalize Sh.ofK KK T = d at *
  go_wp2_with fail
  refine (idOf_any d hofl _).mono ?_
  rintro _ w3 ⟨rfl, hk3⟩
  have hDw3 := hDw2.kept hk3 id
  have hkw3 := hkw2.trans hk3
  have c0 : w3.cell? ⟨D, 0, none⟩ = some (.int .i64 0) := hDw3.cell 0
  have c1 : w3.cell? ⟨D, 1, none⟩ = some (.string ⟨#[]⟩) := hDw3.cell 1
  have c2 : w3.cell? ⟨D, 2, none⟩ = some (.string ⟨#[]⟩) := hDw3.cell 2
  have f0 : w3.frozen? ⟨D, 0, none⟩ = false := hDw3.frozen 0
  have f1 : w3.frozen? ⟨D, 1, none⟩ = false := hDw3.frozen 1
  have f2 : w3.frozen? ⟨D, 2, none⟩ = false := hDw3.frozen 2
  generalize Sh.hex d = h at *
  go_wp2
  have h4 := ((hDw3.set 0 (.int .i64 (kind : Int))).set 1 (.string ⟨c.toArray⟩)).set 2 (.string ⟨h.toArray⟩)
  refine bodyPost_ret (v := .agg #[.int .i64 (kind : Int), .string ⟨c.toArray⟩, .string ⟨h.toArray⟩]) (results_arr (k := D) rfl rfl h4 Tryz.underlying105 rfl (by kernel_rfl)) rfl ⟨?_, ?_⟩
  · rw [HID.out]
  · have hle : w.heap.size ≤ D := Nat.le_of_eq HD.out
    exact ((hkw3.setNew (p := ⟨D, 0, none⟩) hle _).setNew (p := ⟨D, 1, none⟩) hle _).setNew (p := ⟨D, 2, none⟩) hle _

end Go.Proofs.YtepgoppgblfjbaaGreatDoor

/- Package object: the bytes that an id stands for. -/
namespace Go.Proofs.YtepgoppgblfjbaaGreatDoor
open Go.RowKit

theorem hexBack (n : Nat) (hn : n < 16) : Lib.indexByte Sh.hexL (Sh.hexL.getD n 0) = (n : Int) := by
  have h : ∀ n : Fin 16, Lib.indexByte Sh.hexL (Sh.hexL.getD n.val 0) = (n.val : Int) := by decide +kernel
  exact h ⟨n, hn⟩

theorem byteBack (b : UInt8) : bits .or .i64 (((b.toNat / 16 : Nat) : Int) * 16) ((b.toNat % 16 : Nat) : Int) % 256 = (b.toNat : Int) := by
  have h : ∀ n : Fin 256, bits .or .i64 (((n.val / 16 : Nat) : Int) * 16) ((n.val % 16 : Nat) : Int) % 256 = (n.val : Int) := by decide +kernel
  exact h ⟨b.toNat, b.toNat_lt⟩

theorem hex_at (d : List UInt8) (k : Nat) (hk : k < d.length) : (Sh.hex d)[2 * k]? = some (Sh.hexL.getD ((d.getD k 0).toNat / 16) 0) ∧ (Sh.hex d)[2 * k + 1]? = some (Sh.hexL.getD ((d.getD k 0).toNat % 16) 0) := by
  induction d generalizing k with
  | nil => simp at hk
  | cons a r ih =>
    cases k with
    | zero => simp [Sh.hex, Sh.hex1]
    | succ k =>
      have := ih k (by simpa using hk)
      have e1 : 2 * (k + 1) = 2 * k + 2 := by omega
      have e2 : 2 * (k + 1) + 1 = 2 * k + 1 + 2 := by omega
      rw [e2, e1]
      simpa [Sh.hex, Sh.hex1] using this

set_option maxHeartbeats 800000 in
set_option maxRecDepth 100000 in
theorem sumOf_any (d : List UInt8) (hd : d.length ≤ 32) (w : World) :
    Calls Tryz.prog 348 #[.string ⟨(Sh.hex d).toArray⟩] w fun e w' => (∃ v, e = .returned v ∧ OwnB w' w.heap.size 5 v (A8 d)) ∧ Kx (fun _ => False) w w' := by
  obtain ⟨i0, hi, hz0, hz1, hz2⟩ := info_parts info5
  have hlen := hex_len d
  obtain ⟨h, hh⟩ : ∃ h, Sh.hex d = h := ⟨_, rfl⟩
  have HH : Hid (Sh.hex d = h) := hh
  rw [hh] at hlen ⊢
  clear hh
  go_enter Tryz.func348, Tryz.ntmps348
  go_wp2
  go_loopw [3, 4] (fun v iv w' => ∃ (k : Nat), iv = .int .i64 ((2 * k : Nat) : Int) ∧ k ≤ d.length ∧ Kx (fun _ => False) w w' ∧ OwnB w' w.heap.size 5 v (A8 (d.take k))) (fun _ iv _ => 64 - (intOf iv).toNat)
  case atStart => exact ⟨0, rfl, by omega, Kx.refl _ _, .inl ⟨rfl, by simp [A8]⟩⟩
  case round =>
    obtain ⟨k, rfl, hk, hkx, hown⟩ := hrel
    by_cases hlt : k < d.length
    · obtain ⟨h1, h2⟩ := hex_at d k hlt
      rw [HH.out] at h1 h2
      have hl1 : 2 * k < h.length := by omega
      have hl2 : 2 * k + 1 < h.length := by omega
      have e1 : h[2 * k] = Sh.hexL.getD ((d.getD k 0).toNat / 16) 0 := by rw [List.getElem?_eq_getElem hl1] at h1; exact Option.some.inj h1
      have e2 : h[2 * k + 1] = Sh.hexL.getD ((d.getD k 0).toNat % 16) 0 := by rw [List.getElem?_eq_getElem hl2] at h2; exact Option.some.inj h2
      have hbk := byteBack (d.getD k 0)
      have hb1 := hexBack ((d.getD k 0).toNat / 16) (by have := (d.getD k 0).toNat_lt; omega)
      have hb2 := hexBack ((d.getD k 0).toNat % 16) (by omega)
      have HT : Hid (d.take (k + 1) = d.take k ++ [d.getD k 0]) := by
        show _ = _
        rw [List.take_succ_eq_append_getElem hlt]; simp [List.getD, hlt]
      have hlen3 : (A8 (d.take k)).length = k := by rw [A8_len, List.length_take]; omega
      have E1 : Hid (Lib.indexByte Sh.hexL h[2 * k] = (((d.getD k 0).toNat / 16 : Nat) : Int)) := by show _ = _; rw [e1]; exact hb1
      have E2 : Hid (Lib.indexByte Sh.hexL h[2 * k + 1] = (((d.getD k 0).toNat % 16 : Nat) : Int)) := by show _ = _; rw [e2]; exact hb2
      clear e1 e2 h1 h2 hb1 hb2
      have hn1 : (d.getD k 0).toNat / 16 < 16 := by have := (d.getD k 0).toNat_lt; omega
      have hn2 : (d.getD k 0).toNat % 16 < 16 := by omega
      generalize (d.getD k 0).toNat / 16 = n1 at *
      generalize (d.getD k 0).toNat % 16 = n2 at *
      generalize d.getD k 0 = c at *
      go_wp2_with fail
      refine (indexByte_any Sh.hexL h[2 * k] _).mono ?_
      rintro _ w2 ⟨rfl, hw2⟩
      rw [hw2, E1.out]
      clear hw2 w2
      go_wp2_with fail
      refine (indexByte_any Sh.hexL h[2 * k + 1] _).mono ?_
      rintro _ w2 ⟨rfl, hw2⟩
      rw [hw2, E2.out]
      clear hw2 w2
      go_wp2_with (at_builtin; refine wpList_append_B _ rfl (.tmp 23) (.tmp 29) 58 rfl w.heap.size 5 i0 _ 1 Tryz.underlying58 hi hz0 hz1 hz2 rfl _ _ rfl (hown.alloc _) ⟨wr.heap.size, 0, none⟩ 1 1 [.int .u8 (c.toNat : Int)] rfl rfl (by omega) ?c1 ?c2 ?c3 ?c4 ?c5 ?_)
      case c1 => exact cells_new _ [_] _
      case c2 => simp [Value.oneCell']
      case c3 => rw [hlen3]; unfold maxLen; omega
      case c4 => rw [hlen3]; omega
      case c5 => have := hkx.size; simp; omega
      intro v2 w3 hown3 hg3 _
      have hk3 : Kx (fun _ => False) w w3 := (hkx.alloc _).grownB (hown.alloc _) hg3 (Nat.le_refl _)
      have hown3' : OwnB w3 w.heap.size 5 v2 (A8 (d.take (k + 1))) := by rw [HT.out, A8_app]; exact hown3
      clear hg3 hown3
      go_wp2
      go_roundw
      case rel => exact ⟨k + 1, by go_num, hlt, hk3, hown3'⟩
      case measure => simp [intOf]; omega
    · obtain rfl : k = d.length := by omega
      have hlt2 : ¬ (((2 * d.length : Nat) : Int) + 1 < (h.length : Int)) := by omega
      rw [List.take_of_length_le (Nat.le_refl _)] at hown
      go_wp2
      go_ret
      exact ⟨⟨_, rfl, hown⟩, hkx⟩

end Go.Proofs.YtepgoppgblfjbaaGreatDoor

/- Package object: a tree's entry is written. -/
namespace Go.Proofs.YtepgoppgblfjbaaGreatDoor
open Go.RowKit

/-- What a later writing of the same builder turns, of what was there ahead of the first one. -/
theorem BdX.later {b : Nat} {g g' : Option Nat} {n : Nat} (h : g' = g ∨ ∃ k, g' = some k ∧ n ≤ k) : ∀ j, j < n → BdX b g' j → BdX b g j := by
  intro j hj e
  rcases e with e | e
  · exact .inl e
  · rcases h with h | ⟨k, h, hk⟩
    · exact .inr (by rw [e, h])
    · rw [h] at e; have := Option.some.inj e; omega

theorem bd_or {g g' g2 : Option Nat} {n m : Nat} (h : g' = g ∨ ∃ k, g' = some k ∧ n ≤ k) (h2 : g2 = g' ∨ ∃ k, g2 = some k ∧ m ≤ k) (hnm : n ≤ m) : g2 = g ∨ ∃ k, g2 = some k ∧ n ≤ k := by
  rcases h2 with rfl | ⟨k, rfl, hk⟩
  · exact h
  · exact .inr ⟨k, rfl, Nat.le_trans hnm hk⟩

theorem Bd.rowLt {b : Nat} {l : List UInt8} {g : Option Nat} {w : World} (h : Bd b l g w) : ∀ k, g = some k → k < w.heap.size := by
  obtain ⟨⟨p, v, h1, h2, h3, h4, h5⟩, h6⟩ := h
  intro k hk
  exact (h3.lt k (h4.trans hk)).2

set_option maxHeartbeats 800000 in
set_option maxRecDepth 100000 in
theorem writeEntry_any (b : Nat) (l mode name d : List UInt8) (g : Option Nat) (w : World) (h : Bd b l g w) (hd : d.length = 32) (hm : mode.length ≤ 100) (hn : name.length ≤ 10000) (hl : l.length ≤ 900000) :
    Calls Tryz.prog 297 #[.pointer (some ⟨b, 0, none⟩), .string ⟨mode.toArray⟩, .string ⟨name.toArray⟩, .string ⟨(Sh.hex d).toArray⟩] w fun e w' => e = .returned (.tuple #[]) ∧
      ∃ g', Bd b (l ++ (mode ++ 32 :: (name ++ [0])) ++ d) g' w' ∧ (g' = g ∨ ∃ k, g' = some k ∧ w.heap.size ≤ k) ∧ Kx (BdX b g) w w' := by
  have hcat : ∀ a b : List UInt8, (⟨a.toArray⟩ : ByteArray) ++ ⟨b.toArray⟩ = ⟨(a ++ b).toArray⟩ := fun a b => by
    apply ByteArray.ext; simp
  have hlen : (mode ++ 32 :: (name ++ [0])).length = mode.length + name.length + 2 := by simp; omega
  obtain ⟨hx, hh⟩ : ∃ hx, Sh.hex d = hx := ⟨_, rfl⟩
  have HH : Hid (Sh.hex d = hx) := hh
  rw [hh]
  clear hh
  go_enter Tryz.func297, Tryz.ntmps297
  go_wp2_with fail
  refine (writeString_any b l (mode ++ 32 :: (name ++ [0])) g _ h (by omega) (by omega)).mono ?_
  rintro _ w1 ⟨rfl, g1, hb1, hg1, hk1⟩
  obtain ⟨hd', he⟩ : ∃ x, mode ++ 32 :: (name ++ [0]) = x := ⟨_, rfl⟩
  have HE : Hid (mode ++ 32 :: (name ++ [0]) = hd') := he
  rw [he] at hb1 hlen ⊢
  clear he
  have hsum := sumOf_any d (by omega) w1
  rw [HH.out] at hsum
  go_wp2_with fail
  refine hsum.mono ?_
  rintro _ w2 ⟨⟨v, rfl, hown⟩, hk2⟩
  have hdl : (A8 d).length = 32 := by rw [A8_len, hd]
  obtain ⟨r, cap, rfl, hr1, hr2, _, hrc⟩ := hown.cell (fun e => by rw [e] at hdl; cases hdl)
  have hbl := hb1.lt
  have hb2 : Bd b (l ++ hd') g1 w2 := hb1.kept hk2 id (fun _ _ => id)
  have hg1l : ∀ k, g1 = some k → k < w1.heap.size := hb1.rowLt
  rw [hdl]
  go_wp2_with fail
  rw [show (32 : Nat) = d.length from hd.symm]
  refine (write_any b (l ++ hd') d g1 _ hb2 (by omega) (by simp; omega) r cap (by omega) hrc).mono ?_
  rintro _ w3 ⟨rfl, g3, hb3, hg3, hk3⟩
  go_wp2
  go_end0
  refine ⟨rfl, g3, by rw [HE.out]; exact hb3, bd_or hg1 hg3 (Nat.le_trans hk1.size hk2.size), ?_⟩
  exact (hk1.join hk2 (fun _ _ e => e.elim)).join hk3 (BdX.later hg1)

end Go.Proofs.YtepgoppgblfjbaaGreatDoor
