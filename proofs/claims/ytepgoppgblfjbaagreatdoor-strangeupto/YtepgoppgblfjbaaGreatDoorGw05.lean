import Derived.Test.YtepgoppgblfjbaaGreatDoorGw04
import Derived.Deep.Cut
namespace Go.Proofs.YtepgoppgblfjbaaGreatDoor
open Go.RowKit

namespace Sh
def feed (ad : List Int) : Nat → List Int → List UInt8 → List Int
  | 0, s, _ => s
  | f + 1, s, l => feed ad f (mixed s ad (schedule (l.take 64))) (l.drop 64)

def digest (s : List Int) : Nat → List UInt8
  | 0 => []
  | k + 1 => digest s k ++ [UInt8.ofNat (s.getD (k / 4) 0 / 2 ^ (24 - k % 4 * 8) % 256).toNat]

def ofK (K : List Int) (t : List UInt8) : List UInt8 := digest (feed (K.drop 8) ((padded t).length / 64) (K.take 8) (padded t)) 32
end Sh

theorem mixed_len (s ad sc : List Int) (h : s.length = 8) : (Sh.mixed s ad sc).length = 8 := by
  match s, h with
  | [a, b, c, d, e, f, g, h], _ => simp [Sh.mixed, part_len]

theorem padded_len (t : List UInt8) : (Sh.padded t).length % 64 = 0 ∧ 0 < (Sh.padded t).length ∧ (Sh.padded t).length ≤ t.length + 128 := by
  unfold Sh.padded Sh.zeros
  simp only [List.length_append, List.length_replicate, lens_len, List.length_cons, List.length_nil]
  omega

theorem digest_len (s : List Int) (k : Nat) : (Sh.digest s k).length = k := by
  induction k with
  | zero => rfl
  | succ k ih => simp [Sh.digest, ih]

theorem list8 {s : List Int} (h : s.length = 8) : ∃ a b c d e f g i, s = [a, b, c, d, e, f, g, i] := by
  match s, h with
  | [a, b, c, d, e, f, g, i], _ => exact ⟨a, b, c, d, e, f, g, i, rfl⟩

theorem A8_all (l : List UInt8) : (A8 l).toArray.all (·.oneCell') = true := by
  rw [Array.all_eq_true']
  intro v hv
  simp [A8] at hv
  obtain ⟨x, _, rfl⟩ := hv
  rfl

theorem digest_byte (x : Int) (n : Nat) : (((UInt8.ofNat (x / 2 ^ n % 256).toNat).toNat : Nat) : Int) = x / 2 ^ n % 256 := by
  have h1 : 0 ≤ x / 2 ^ n % 256 := Int.emod_nonneg _ (by decide)
  have h2 : x / 2 ^ n % 256 < 256 := Int.emod_lt_of_pos _ (by decide)
  simp
  omega

theorem digest_set (s : List Int) (k : Nat) (hk : k < 32) {g : Nat} {t : TypeId} {w : World} (h : Cb g (A8 (Sh.digest s k ++ List.replicate (32 - k) 0)).toArray t w) :
    Cb g (A8 (Sh.digest s (k + 1) ++ List.replicate (32 - (k + 1)) 0)).toArray t (w.setCell ⟨g, k, none⟩ (.int .u8 (s.getD (k / 4) 0 / 2 ^ (24 - k % 4 * 8) % 256))) := by
  have h2 := h.set k (.int .u8 (s.getD (k / 4) 0 / 2 ^ (24 - k % 4 * 8) % 256))
  have e : (A8 (Sh.digest s k ++ List.replicate (32 - k) 0)).toArray.setIfInBounds k (.int .u8 (s.getD (k / 4) 0 / 2 ^ (24 - k % 4 * 8) % 256)) = (A8 (Sh.digest s (k + 1) ++ List.replicate (32 - (k + 1)) 0)).toArray := by
    have e1 : 32 - k = (32 - (k + 1)) + 1 := by omega
    rw [e1, List.replicate_succ]
    have hl : (A8 (Sh.digest s k)).length = k := by rw [A8_len, digest_len]
    simp only [Sh.digest, A8_app]
    rw [List.setIfInBounds_toArray]
    congr 1
    rw [List.set_append_right _ _ (by omega), hl, Nat.sub_self, List.append_assoc]
    congr 1
    simp only [A8, List.map_cons, List.set_cons_zero, List.map_nil, List.cons_append, List.nil_append]
    rw [digest_byte]
  rw [e] at h2
  exact h2

theorem digest_cell (s : List Int) (k : Nat) (hk : k < 32) {g : Nat} {t : TypeId} {w : World} (h : Cb g (A8 (Sh.digest s k ++ List.replicate (32 - k) 0)).toArray t w) : ∃ u, w.cell? ⟨g, k, none⟩ = some u := by
  rw [h.cell]
  have hl : k < (A8 (Sh.digest s k ++ List.replicate (32 - k) 0)).toArray.size := by simp [A8_len, digest_len]; omega
  exact ⟨_, Array.getElem?_eq_getElem hl⟩

theorem next_len {L m k : Nat} (h : 64 * (m - k) = L) (hk : k < m) : L - 64 = 64 * (m - (k + 1)) := by omega

theorem next_at {L m k c g : Nat} (h : 64 * (m - k) = L) (hc : L ≤ c) (hk : k + 1 < m) : (if c = 64 then some (⟨g, 64 * k, none⟩ : Addr) else some ⟨g, 64 * k + 64, none⟩) = some ⟨g, 64 * (k + 1), none⟩ := by
  rw [if_neg (by omega)]; rfl

theorem block_cells {p : List UInt8} {g k : Nat} {w w' : World} (h : ∀ (j : Nat) (x : Value), (A8 p)[j]? = some x → w.cell? ⟨g, j, none⟩ = some x) (hp : 64 * k + 64 ≤ p.length) (hC : Kx (fun _ => False) w w') (hg : g < w.heap.size) :
    ∀ i, i < 64 → w'.cell? ⟨g, 64 * k + i, none⟩ = some (.int .u8 ((((p.drop (64 * k)).take 64).getD i 0).toNat : Int)) := by
  intro i hi
  rw [hC.cell (p := ⟨g, 64 * k + i, none⟩) hg id]
  apply h
  have hl : 64 * k + i < p.length := by omega
  simp [A8, List.getD, hi, List.getElem?_eq_getElem hl]

set_option maxHeartbeats 400000 in
set_option maxRecDepth 100000 in
theorem of_any (KK : List Int) (hkl : KK.length = 72) (t : List UInt8) (ht : t.length ≤ 100000) (cb : Nat) (bt : TypeId) (w : World) (hK : Cb cb (A32 KK) bt w) :
    Calls Tryz.prog 129 #[.pointer (some ⟨cb, 0, none⟩), .string ⟨t.toArray⟩] w fun e w' => e = .returned (.agg (A8 (Sh.ofK KK t)).toArray) ∧ Kx (fun _ => False) w w' := by
  have hw0 := hK.lt
  have hr8 : (w.alloc (.cells #[.int .u8 0, .int .u8 0, .int .u8 0, .int .u8 0, .int .u8 0, .int .u8 0, .int .u8 0, .int .u8 0, .int .u8 0, .int .u8 0, .int .u8 0, .int .u8 0, .int .u8 0, .int .u8 0, .int .u8 0, .int .u8 0, .int .u8 0, .int .u8 0, .int .u8 0, .int .u8 0, .int .u8 0, .int .u8 0, .int .u8 0, .int .u8 0, .int .u8 0, .int .u8 0, .int .u8 0, .int .u8 0, .int .u8 0, .int .u8 0, .int .u8 0, .int .u8 0] 231)).rangeAt cb 0 (A32 (KK.take 8)).toList := A32_range KK cb 0 8 bt _ (hK.alloc _) (by rw [hkl]; omega)
  have hsz8 : (A32 (KK.take 8)).size = 8 := by simp [A32_size, hkl]
  have hB1 : Cb (w.heap.size + 1) #[.int .u32 0, .int .u32 0, .int .u32 0, .int .u32 0, .int .u32 0, .int .u32 0, .int .u32 0, .int .u32 0] 173 ((w.alloc (.cells #[.int .u8 0, .int .u8 0, .int .u8 0, .int .u8 0, .int .u8 0, .int .u8 0, .int .u8 0, .int .u8 0, .int .u8 0, .int .u8 0, .int .u8 0, .int .u8 0, .int .u8 0, .int .u8 0, .int .u8 0, .int .u8 0, .int .u8 0, .int .u8 0, .int .u8 0, .int .u8 0, .int .u8 0, .int .u8 0, .int .u8 0, .int .u8 0, .int .u8 0, .int .u8 0, .int .u8 0, .int .u8 0, .int .u8 0, .int .u8 0, .int .u8 0, .int .u8 0] 231)).alloc (.cells #[.int .u32 0, .int .u32 0, .int .u32 0, .int .u32 0, .int .u32 0, .int .u32 0, .int .u32 0, .int .u32 0] 173)) := by
    have h := Cb.new #[.int .u32 0, .int .u32 0, .int .u32 0, .int .u32 0, .int .u32 0, .int .u32 0, .int .u32 0, .int .u32 0] 173 (w.alloc (.cells #[.int .u8 0, .int .u8 0, .int .u8 0, .int .u8 0, .int .u8 0, .int .u8 0, .int .u8 0, .int .u8 0, .int .u8 0, .int .u8 0, .int .u8 0, .int .u8 0, .int .u8 0, .int .u8 0, .int .u8 0, .int .u8 0, .int .u8 0, .int .u8 0, .int .u8 0, .int .u8 0, .int .u8 0, .int .u8 0, .int .u8 0, .int .u8 0, .int .u8 0, .int .u8 0, .int .u8 0, .int .u8 0, .int .u8 0, .int .u8 0, .int .u8 0, .int .u8 0] 231))
    simpa using h
  have ha8 := A32_all (KK.take 8)
  have hB0 : Cb w.heap.size #[.int .u8 0, .int .u8 0, .int .u8 0, .int .u8 0, .int .u8 0, .int .u8 0, .int .u8 0, .int .u8 0, .int .u8 0, .int .u8 0, .int .u8 0, .int .u8 0, .int .u8 0, .int .u8 0, .int .u8 0, .int .u8 0, .int .u8 0, .int .u8 0, .int .u8 0, .int .u8 0, .int .u8 0, .int .u8 0, .int .u8 0, .int .u8 0, .int .u8 0, .int .u8 0, .int .u8 0, .int .u8 0, .int .u8 0, .int .u8 0, .int .u8 0, .int .u8 0] 231 ((w.alloc (.cells #[.int .u8 0, .int .u8 0, .int .u8 0, .int .u8 0, .int .u8 0, .int .u8 0, .int .u8 0, .int .u8 0, .int .u8 0, .int .u8 0, .int .u8 0, .int .u8 0, .int .u8 0, .int .u8 0, .int .u8 0, .int .u8 0, .int .u8 0, .int .u8 0, .int .u8 0, .int .u8 0, .int .u8 0, .int .u8 0, .int .u8 0, .int .u8 0, .int .u8 0, .int .u8 0, .int .u8 0, .int .u8 0, .int .u8 0, .int .u8 0, .int .u8 0, .int .u8 0] 231)).alloc (.cells #[.int .u32 0, .int .u32 0, .int .u32 0, .int .u32 0, .int .u32 0, .int .u32 0, .int .u32 0, .int .u32 0] 173)) := (Cb.new _ 231 w).alloc _
  have hKx : Kx (fun _ => False) w ((w.alloc (.cells #[.int .u8 0, .int .u8 0, .int .u8 0, .int .u8 0, .int .u8 0, .int .u8 0, .int .u8 0, .int .u8 0, .int .u8 0, .int .u8 0, .int .u8 0, .int .u8 0, .int .u8 0, .int .u8 0, .int .u8 0, .int .u8 0, .int .u8 0, .int .u8 0, .int .u8 0, .int .u8 0, .int .u8 0, .int .u8 0, .int .u8 0, .int .u8 0, .int .u8 0, .int .u8 0, .int .u8 0, .int .u8 0, .int .u8 0, .int .u8 0, .int .u8 0, .int .u8 0] 231)).alloc (.cells #[.int .u32 0, .int .u32 0, .int .u32 0, .int .u32 0, .int .u32 0, .int .u32 0, .int .u32 0, .int .u32 0] 173)) := ((Kx.refl _ _).alloc _).alloc _
  have hKK : Cb cb (A32 KK) bt ((w.alloc (.cells #[.int .u8 0, .int .u8 0, .int .u8 0, .int .u8 0, .int .u8 0, .int .u8 0, .int .u8 0, .int .u8 0, .int .u8 0, .int .u8 0, .int .u8 0, .int .u8 0, .int .u8 0, .int .u8 0, .int .u8 0, .int .u8 0, .int .u8 0, .int .u8 0, .int .u8 0, .int .u8 0, .int .u8 0, .int .u8 0, .int .u8 0, .int .u8 0, .int .u8 0, .int .u8 0, .int .u8 0, .int .u8 0, .int .u8 0, .int .u8 0, .int .u8 0, .int .u8 0] 231)).alloc (.cells #[.int .u32 0, .int .u32 0, .int .u32 0, .int .u32 0, .int .u32 0, .int .u32 0, .int .u32 0, .int .u32 0] 173)) := (hK.alloc _).alloc _
  obtain ⟨arr, harr⟩ : ∃ arr, A32 (KK.take 8) = arr := ⟨_, rfl⟩
  rw [harr] at hr8 hsz8 ha8
  have HARR : Hid (A32 (KK.take 8) = arr) := harr
  clear harr
  have hi8 : (Tryz.prog.info? 173).map (·.size) = some arr.size := by rw [hsz8]; kernel_rfl
  have hz8 : (#[.int .u32 0, .int .u32 0, .int .u32 0, .int .u32 0, .int .u32 0, .int .u32 0, .int .u32 0, .int .u32 0] : Array Value).size = arr.size := by rw [hsz8]; rfl
  have h5 := hB1.row arr
  have h4 := hB0.rowOther (show w.heap.size ≠ w.heap.size + 1 by omega) arr
  have hKc := hKK.rowOther (show cb ≠ w.heap.size + 1 by omega) arr
  have hKx2 := hKx.setRow (g := w.heap.size + 1) (fun h => absurd h (by omega)) arr
  go_enter Tryz.func129, Tryz.ntmps129
  go_wp2_with (first | refine wpList_loadAt _ rfl 173 _ rfl rfl hr8 Tryz.underlying173 rfl hi8 ?_ | refine wpList_storeAll _ rfl 173 _ _ rfl rfl rfl hB1 hi8 hz8 ha8 ?_)
  revert h4 h5 hKc hKx2
  generalize ((w.alloc (.cells #[.int .u8 0, .int .u8 0, .int .u8 0, .int .u8 0, .int .u8 0, .int .u8 0, .int .u8 0, .int .u8 0, .int .u8 0, .int .u8 0, .int .u8 0, .int .u8 0, .int .u8 0, .int .u8 0, .int .u8 0, .int .u8 0, .int .u8 0, .int .u8 0, .int .u8 0, .int .u8 0, .int .u8 0, .int .u8 0, .int .u8 0, .int .u8 0, .int .u8 0, .int .u8 0, .int .u8 0, .int .u8 0, .int .u8 0, .int .u8 0, .int .u8 0, .int .u8 0] 231)).alloc (.cells #[.int .u32 0, .int .u32 0, .int .u32 0, .int .u32 0, .int .u32 0, .int .u32 0, .int .u32 0, .int .u32 0] 173)).setRow (w.heap.size + 1) arr = w1
  intro h5 h4 hKc hKx2
  clear hr8 hB1 hB0 hKx hKK
  refine (padded_any t ht w1).mono ?_
  rintro _ w2 ⟨⟨v, rfl, hown⟩, hk2⟩
  obtain ⟨hp1, hp2, hp3⟩ := padded_len t
  have HOF : Hid (Sh.ofK KK t = Sh.digest (Sh.feed (KK.drop 8) ((Sh.padded t).length / 64) (KK.take 8) (Sh.padded t)) 32) := rfl
  obtain ⟨p, hp⟩ : ∃ p, Sh.padded t = p := ⟨_, rfl⟩
  rw [hp] at hp1 hp2 hp3 hown HOF
  clear hp
  obtain ⟨m, hm⟩ : ∃ m, p.length = 64 * m := ⟨p.length / 64, by omega⟩
  have hm0 : 0 < m := by omega
  have HOF2 : Hid (Sh.ofK KK t = Sh.digest (Sh.feed (KK.drop 8) m (KK.take 8) p) 32) := by
    show _ = _
    rw [HOF.out, show p.length / 64 = m by omega]
  clear HOF hp1 hp2
  have hpne : A8 p ≠ [] := fun e => by
    have h : (A8 p).length = 0 := by rw [e]; rfl
    rw [A8_len] at h; omega
  obtain ⟨g, cap, rfl, hg1, hg2, hcap, hcells⟩ := hown.cell hpne
  clear hpne
  have hpl : (A8 p).length = 64 * m := by rw [A8_len, hm]
  rw [hpl] at hcap ⊢
  have hw1s : w.heap.size + 1 < w1.heap.size := h5.lt
  have h4' := h4.kept hk2 (by simp)
  have h5' := h5.kept hk2 (by simp)
  have hKc' := hKc.kept hk2 (by simp)
  have hKx3 := hKx2.trans hk2
  have hd64 : (Tryz.prog.info? 174).map (·.size) = some (A32 ((KK.drop 8).take 64)).size := by rw [A32_size, List.length_take, List.length_drop, hkl]; kernel_rfl
  clear h4 h5 hKc hKx2 hown hk2
  have hcb5 : ∀ (w' : World), Kx (Only (w.heap.size + 1)) w2 w' → Cb cb (A32 KK) bt w' ∧ (∀ k x, (A8 p)[k]? = some x → w'.cell? ⟨g, k, none⟩ = some x) := by
    intro w' hk
    refine ⟨hKc'.kept hk (by unfold Only; omega), fun k x hx => ?_⟩
    rw [hk.cell (p := ⟨g, k, none⟩) hg2 (show ¬ g = w.heap.size + 1 by omega)]
    exact hcells k x hx
  obtain ⟨B, hB⟩ : ∃ B, w.heap.size = B := ⟨_, rfl⟩
  have HB : Hid (w.heap.size = B) := hB
  rw [hB] at h4' h5' hcb5 ⊢
  clear hB
  go_wp2
  go_loopw [6] (fun v6 w' => ∃ (k : Nat) (S : List Int) (q : Option Addr) (c : Nat), k ≤ m ∧ S.length = 8 ∧ v6 = .slice q (64 * (m - k)) c ∧ 64 * (m - k) ≤ c ∧ (k < m → q = some ⟨g, 64 * k, none⟩) ∧ Kx (Only (B + 1)) w2 w' ∧ Cb (B + 1) (A32 S) 173 w' ∧ Sh.feed (KK.drop 8) m (KK.take 8) p = Sh.feed (KK.drop 8) (m - k) S (p.drop (64 * k))) (fun v6 _ => vlen v6)
  case atStart => exact ⟨0, KK.take 8, some ⟨g, 0, none⟩, cap, by omega, by simp [hkl], by simp, by simpa using hcap, fun _ => by simp, Kx.refl _ _, by rw [HARR.out]; exact h5', by simp⟩
  case round =>
    obtain ⟨k, S, q, c, hkm, hS, rfl, hc, hq, hkx, hst, hE⟩ := hrel
    have HE : Hid (Sh.feed (KK.drop 8) m (KK.take 8) p = Sh.feed (KK.drop 8) (m - k) S (p.drop (64 * k))) := hE
    clear hE
    by_cases hlt : k < m
    · obtain rfl := hq hlt
      obtain ⟨hKr, hcr⟩ := hcb5 _ hkx
      have hpos : (0 : Int) < ((64 * (m - k) : Nat) : Int) := by omega
      have h64 : (64 : Int) ≤ (c : Int) := by omega
      have h64' : (64 : Int) ≤ ((64 * (m - k) : Nat) : Int) := by omega
      have HI8 : Hid ((Tryz.prog.info? 173).map (·.size) = some arr.size) := hi8
      have HD64 : Hid ((Tryz.prog.info? 174).map (·.size) = some (A32 ((KK.drop 8).take 64)).size) := hd64
      have HCB5 : Hid (∀ (w' : World), Kx (Only (B + 1)) w2 w' → Cb cb (A32 KK) bt w' ∧ (∀ k x, (A8 p)[k]? = some x → w'.cell? ⟨g, k, none⟩ = some x)) := hcb5
      have HCR : Hid (∀ (k : Nat) (x : Value), (A8 p)[k]? = some x → wr.cell? ⟨g, k, none⟩ = some x) := hcr
      clear hi8 hd64 hcb5 hcr hcells hq ha8 hz8
      obtain ⟨L, hL⟩ : ∃ L, 64 * (m - k) = L := ⟨_, rfl⟩
      rw [hL] at hc hpos h64' ⊢
      have HL : Hid (64 * (m - k) = L) := hL
      clear hL
      have hposN : 0 < L := by omega
      have HM : Hid (p.length = 64 * m) := hm
      have hgr : g < wr.heap.size := Nat.lt_of_lt_of_le hg2 hkx.size
      go_wp2_with fail
      have hsS : (Tryz.prog.info? 173).map (·.size) = some (A32 S).size := by rw [A32_size, hS]; kernel_rfl
      obtain ⟨s0, s1, s2, s3, s4, s5, s6, s7, rfl⟩ := list8 hS
      refine wp_region_quiet_tail (C := fun w' => Kx (fun _ => False) wr w') 9 (by kernel_rfl) (by kernel_rfl) (Kx.refl _ _).drew ?_
      refine quiet_val rfl (.agg (A32 [s0, s1, s2, s3, s4, s5, s6, s7])) (fun w' hC => exec_loadAt 173 _ rfl rfl (A32_range _ _ 0 8 173 _ (hst.kept hC id) (by simp)) Tryz.underlying173 rfl hsS) ?_
      refine quiet_val rfl (.pointer (some ⟨cb, 0, none⟩)) (fun w' hC => rfl) ?_
      refine quiet_val rfl (.pointer (some ⟨cb, 0, none⟩)) (fun w' hC => by go_simp) ?_
      refine quiet_val rfl (.pointer (some ⟨cb, 8, none⟩)) (fun w' hC => by go_simp) ?_
      refine quiet_val rfl (.agg (A32 ((KK.drop 8).take 64))) (fun w' hC => exec_loadAt 174 _ rfl rfl (A32_range _ _ 8 64 bt _ (hKr.kept hC id) (by rw [hkl]; omega)) Tryz.underlying174 rfl HD64.out) ?_
      refine quiet_val rfl (.slice (some ⟨g, 64 * k, none⟩) L c) (fun w' hC => rfl) ?_
      refine quiet_val rfl (.slice (some ⟨g, 64 * k, none⟩) 64 c) (fun w' hC => by go_simp) ?_
      refine quiet_enter rfl 180 #[.slice (some ⟨g, 64 * k, none⟩) 64 c] (.agg (A32 (Sh.schedule ((p.drop (64 * k)).take 64)))) (fun w' => by go_simp) (fun w' hC => (schedule_any _ g (64 * k) c w' (block_cells HCR.out (by rw [HM.out]; omega) hC hgr)).mono (fun e w'' h => ⟨h.1, hC.trans h.2⟩)) ?_
      refine quiet_enter rfl 179 #[.agg (A32 [s0, s1, s2, s3, s4, s5, s6, s7]), .agg (A32 ((KK.drop 8).take 64)), .agg (A32 (Sh.schedule ((p.drop (64 * k)).take 64)))] (.agg (A32 (Sh.mixed [s0, s1, s2, s3, s4, s5, s6, s7] ((KK.drop 8).take 64) (Sh.schedule ((p.drop (64 * k)).take 64))))) (fun w' => by go_simp)
        (fun w' hC => (mixed_any s0 s1 s2 s3 s4 s5 s6 s7 _ _ (by simp [hkl]) (by unfold Sh.schedule; rw [spread_len, loaded_len]) w').mono (fun e w'' h => ⟨h.1, hC.trans h.2⟩)) ?_
      refine wpQuiet_nil (fun w' hC => ?_)
      have hml := mixed_len [s0, s1, s2, s3, s4, s5, s6, s7] ((KK.drop 8).take 64) (Sh.schedule ((p.drop (64 * k)).take 64)) rfl
      have HN : Hid (Sh.feed (KK.drop 8) m (KK.take 8) p = Sh.feed (KK.drop 8) (m - (k + 1)) (Sh.mixed [s0, s1, s2, s3, s4, s5, s6, s7] ((KK.drop 8).take 64) (Sh.schedule ((p.drop (64 * k)).take 64))) (p.drop (64 * (k + 1)))) := by
        show _ = _
        rw [HE.out, show m - k = (m - (k + 1)) + 1 by omega, List.take_of_length_le (by rw [List.length_drop, hkl]; omega)]
        simp only [Sh.feed, List.drop_drop]
        congr 2
      generalize Sh.mixed [s0, s1, s2, s3, s4, s5, s6, s7] ((KK.drop 8).take 64) (Sh.schedule ((p.drop (64 * k)).take 64)) = S' at *
      have hstw := hst.kept hC id
      have hrow := hstw.row (A32 S')
      simp only [Act.put, sI, sS, sZ, List.drop_succ_cons, List.drop_zero]
      refine wpList_storeAll w' rfl 173 _ _ rfl rfl rfl hstw (by rw [A32_size, hml]; kernel_rfl) (by rw [A32_size, A32_size, hml]; rfl) (A32_all _) ?_
      have hkx' : Kx (Only (B + 1)) w2 (w'.setRow (B + 1) (A32 S')) := (hkx.join hC (fun _ _ h => h.elim)).setRow (fun _ => rfl) _
      generalize w'.setRow (B + 1) (A32 S') = w'' at *
      clear hsS hstw HE HD64 HCR hKr hst hC
      simp only [Act.put]
      go_wp2
      go_roundw
      case rel =>
        have e1 : L - 64 = 64 * (m - (k + 1)) := next_len HL.out hlt
        exact ⟨k + 1, S', (if c = 64 then some ⟨g, 64 * k, none⟩ else some ⟨g, 64 * k + 64, none⟩), c - 64, hlt, hml, by rw [e1], by rw [← e1]; exact Nat.sub_le_sub_right hc 64, fun h => next_at HL.out hc h, hkx', hrow, HN.out⟩
      case measure => exact Nat.sub_lt hposN (by decide)
    · obtain rfl : k = m := by omega
      have HF : Hid (Sh.ofK KK t = Sh.digest S 32) := by
        show _ = _
        rw [HOF2.out, HE.out]
        simp [Sh.feed]
      have hz : 64 * (k - k) = 0 := by omega
      rw [hz]
      obtain ⟨hKr, hcr⟩ := hcb5 _ hkx
      have h4r := h4'.kept hkx (show ¬ B = B + 1 by omega)
      have hkxw := hKx3.join hkx (fun j hj e => by have := HB.out; unfold Only at e; omega)
      clear hq hcr hKr HE HOF2 hcb5 hcells hi8 hd64 ha8 hz8 HARR h4' h5' hKc' hK
      go_wp2
      have hD0 : Cb wr.heap.size #[.int .u8 0, .int .u8 0, .int .u8 0, .int .u8 0, .int .u8 0, .int .u8 0, .int .u8 0, .int .u8 0, .int .u8 0, .int .u8 0, .int .u8 0, .int .u8 0, .int .u8 0, .int .u8 0, .int .u8 0, .int .u8 0, .int .u8 0, .int .u8 0, .int .u8 0, .int .u8 0, .int .u8 0, .int .u8 0, .int .u8 0, .int .u8 0, .int .u8 0, .int .u8 0, .int .u8 0, .int .u8 0, .int .u8 0, .int .u8 0, .int .u8 0, .int .u8 0] 231 (wr.alloc (.cells #[.int .u8 0, .int .u8 0, .int .u8 0, .int .u8 0, .int .u8 0, .int .u8 0, .int .u8 0, .int .u8 0, .int .u8 0, .int .u8 0, .int .u8 0, .int .u8 0, .int .u8 0, .int .u8 0, .int .u8 0, .int .u8 0, .int .u8 0, .int .u8 0, .int .u8 0, .int .u8 0, .int .u8 0, .int .u8 0, .int .u8 0, .int .u8 0, .int .u8 0, .int .u8 0, .int .u8 0, .int .u8 0, .int .u8 0, .int .u8 0, .int .u8 0, .int .u8 0] 231)) := Cb.new _ 231 wr
      have hstA := hst.alloc (.cells #[.int .u8 0, .int .u8 0, .int .u8 0, .int .u8 0, .int .u8 0, .int .u8 0, .int .u8 0, .int .u8 0, .int .u8 0, .int .u8 0, .int .u8 0, .int .u8 0, .int .u8 0, .int .u8 0, .int .u8 0, .int .u8 0, .int .u8 0, .int .u8 0, .int .u8 0, .int .u8 0, .int .u8 0, .int .u8 0, .int .u8 0, .int .u8 0, .int .u8 0, .int .u8 0, .int .u8 0, .int .u8 0, .int .u8 0, .int .u8 0, .int .u8 0, .int .u8 0] 231)
      have h4A := h4r.alloc (.cells #[.int .u8 0, .int .u8 0, .int .u8 0, .int .u8 0, .int .u8 0, .int .u8 0, .int .u8 0, .int .u8 0, .int .u8 0, .int .u8 0, .int .u8 0, .int .u8 0, .int .u8 0, .int .u8 0, .int .u8 0, .int .u8 0, .int .u8 0, .int .u8 0, .int .u8 0, .int .u8 0, .int .u8 0, .int .u8 0, .int .u8 0, .int .u8 0, .int .u8 0, .int .u8 0, .int .u8 0, .int .u8 0, .int .u8 0, .int .u8 0, .int .u8 0, .int .u8 0] 231)
      have hkA := hkxw.alloc (.cells #[.int .u8 0, .int .u8 0, .int .u8 0, .int .u8 0, .int .u8 0, .int .u8 0, .int .u8 0, .int .u8 0, .int .u8 0, .int .u8 0, .int .u8 0, .int .u8 0, .int .u8 0, .int .u8 0, .int .u8 0, .int .u8 0, .int .u8 0, .int .u8 0, .int .u8 0, .int .u8 0, .int .u8 0, .int .u8 0, .int .u8 0, .int .u8 0, .int .u8 0, .int .u8 0, .int .u8 0, .int .u8 0, .int .u8 0, .int .u8 0, .int .u8 0, .int .u8 0] 231)
      have hlt4 := h4r.lt
      have hltS := hst.lt
      revert hD0 hstA h4A hkA
      generalize wr.alloc (.cells #[.int .u8 0, .int .u8 0, .int .u8 0, .int .u8 0, .int .u8 0, .int .u8 0, .int .u8 0, .int .u8 0, .int .u8 0, .int .u8 0, .int .u8 0, .int .u8 0, .int .u8 0, .int .u8 0, .int .u8 0, .int .u8 0, .int .u8 0, .int .u8 0, .int .u8 0, .int .u8 0, .int .u8 0, .int .u8 0, .int .u8 0, .int .u8 0, .int .u8 0, .int .u8 0, .int .u8 0, .int .u8 0, .int .u8 0, .int .u8 0, .int .u8 0, .int .u8 0] 231) = w3
      intro hD0 hstA h4A hkA
      obtain ⟨N, hN⟩ : ∃ N, wr.heap.size = N := ⟨_, rfl⟩
      have hwN : w.heap.size ≤ wr.heap.size := hkxw.size
      rw [hN] at hD0 hlt4 hltS hwN ⊢
      clear hN hst h4r hkxw hkx
      go_loopw [29] (fun iv w' => ∃ (k : Nat), iv = .int .i64 k ∧ k ≤ 32 ∧ Kx (Only N) w3 w' ∧ Cb N (A8 (Sh.digest S k ++ List.replicate (32 - k) 0)).toArray 231 w') (fun iv _ => 32 - (intOf iv).toNat)
      case atStart => exact ⟨0, rfl, by omega, Kx.refl _ _, hD0⟩
      case round =>
        obtain ⟨i, rfl, hi32, hki, hci⟩ := hrel
        by_cases hlt : i < 32
        · have hlt2 : (i : Int) < 32 := by omega
          have hs0 : (0 : Int) ≤ 24 - (i : Int) % 4 * 8 := by omega
          have hs1 : (24 - (i : Int) % 4 * 8).toNat = 24 - i % 4 * 8 := by omega
          have hs2 : min (24 - i % 4 * 8) 32 = 24 - i % 4 * 8 := by omega
          have hq0 : (0 : Int) ≤ (i : Int) / 4 := by omega
          have hq1 : (i : Int) / 4 < 8 := by omega
          have hstr := hstA.kept hki (show ¬ B + 1 = N by omega)
          have cS : wr.cell? ⟨B + 1, i / 4, none⟩ = some (.int .u32 (S.getD (i / 4) 0)) := by rw [hstr.cell, A32_get _ _ (by omega)]
          have hset := digest_set S i hlt hci
          have HSET : Hid (Cb N (A8 (Sh.digest S (i + 1) ++ List.replicate (32 - (i + 1)) 0)).toArray 231 (wr.setCell ⟨N, i, none⟩ (.int .u8 (S.getD (i / 4) 0 / 2 ^ (24 - i % 4 * 8) % 256)))) := hset
          have cN : ∃ u, wr.cell? ⟨N, i, none⟩ = some u := digest_cell S i hlt hci
          obtain ⟨u, cN⟩ := cN
          have fN : wr.frozen? ⟨N, i, none⟩ = false := hci.frozen i
          clear hset
          generalize S.getD (i / 4) 0 = x at *
          go_wp2
          go_roundw
          case rel => exact ⟨i + 1, by go_num, hlt, hki.only_set _, HSET.out⟩
          case measure => simp [intOf]; omega
        · obtain rfl : i = 32 := by omega
          have hlt2 : ¬ ((32 : Nat) : Int) < 32 := by omega
          have h4i := h4A.kept hki (show ¬ B = N by omega)
          have hfin : Hid ((A8 (Sh.digest S 32 ++ List.replicate (32 - 32) 0)).toArray = (A8 (Sh.ofK KK t)).toArray) := by
            show _ = _
            rw [HF.out]; simp
          have hasz : (A8 (Sh.digest S 32 ++ List.replicate (32 - 32) 0)).toArray.size = 32 := by simp [A8_len, digest_len]
          have haone : (A8 (Sh.digest S 32 ++ List.replicate (32 - 32) 0)).toArray.all (·.oneCell') = true := A8_all _
          obtain ⟨arr2, harr2⟩ : ∃ arr2, (A8 (Sh.digest S 32 ++ List.replicate (32 - 32) 0)).toArray = arr2 := ⟨_, rfl⟩
          rw [harr2] at hci hasz haone hfin
          clear harr2
          have hi2 : (Tryz.prog.info? 231).map (·.size) = some arr2.size := by rw [hasz]; kernel_rfl
          have hrow2 := h4i.row arr2
          have hsz2 : (#[.int .u8 0, .int .u8 0, .int .u8 0, .int .u8 0, .int .u8 0, .int .u8 0, .int .u8 0, .int .u8 0, .int .u8 0, .int .u8 0, .int .u8 0, .int .u8 0, .int .u8 0, .int .u8 0, .int .u8 0, .int .u8 0, .int .u8 0, .int .u8 0, .int .u8 0, .int .u8 0, .int .u8 0, .int .u8 0, .int .u8 0, .int .u8 0, .int .u8 0, .int .u8 0, .int .u8 0, .int .u8 0, .int .u8 0, .int .u8 0, .int .u8 0, .int .u8 0] : Array Value).size = arr2.size := by rw [hasz]; rfl
          clear h4A
          go_wp2_with (first | refine wpList_loadAll _ rfl 231 _ rfl rfl hci Tryz.underlying231 rfl hi2 ?_ | refine wpList_storeAll _ rfl 231 _ _ rfl rfl rfl h4i hi2 hsz2 haone ?_)
          refine bodyPost_ret (v := .agg arr2) (results_arr (k := B) rfl rfl hrow2 Tryz.underlying231 rfl hi2) rfl ⟨?_, ?_⟩
          · rw [hfin.out]
          · exact (hkA.join hki (fun j hj e => by unfold Only at e; omega)).setRow (fun hl => absurd hl (by rw [HB.out]; omega)) _

end Go.Proofs.YtepgoppgblfjbaaGreatDoor
