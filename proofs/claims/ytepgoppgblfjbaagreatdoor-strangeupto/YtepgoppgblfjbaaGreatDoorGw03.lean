import Derived.Test.YtepgoppgblfjbaaGreatDoorGw02
namespace Go.Proofs.YtepgoppgblfjbaaGreatDoor
open Go.RowKit

theorem own_cells {w : World} {base : Nat} {e : TypeId} {size n : Nat} {v : Value} {xs : List Value} (h : w.ownsRow base e size v n xs) (hn : 0 < n) :
    ∃ g cap, v = .slice (some ⟨g, 0, none⟩) n cap ∧ base ≤ g ∧ g < w.heap.size ∧ ∀ k x, xs[k]? = some x → w.cell? ⟨g, k, none⟩ = some x := by
  rcases h.2 with ⟨_, rfl⟩ | ⟨g, cap, cur, rfl, hb, hg, hc, hm, hs, ht⟩
  · omega
  · refine ⟨g, cap, rfl, hb, (Array.getElem?_eq_some_iff.1 hg).1, fun k x hx => ?_⟩
    rw [← ht] at hx
    have hk : k < n * size := by
      have := (List.getElem?_eq_some_iff.1 hx).1
      simp at this; omega
    rw [List.getElem?_take_of_lt hk] at hx
    unfold World.cell?
    rw [hg]
    simpa using hx

set_option maxHeartbeats 400000 in
theorem divided_any (x : Int) (hx : 0 ≤ x) (l : List Int) (hl : ∀ d ∈ l, 0 < d) (v : Value) (base : Nat) (w : World) (hown : w.ownsRow base 229 1 v l.length (A64 l)) (hm : l.length ≤ 1000) :
    Calls Tryz.prog 176 #[.int .u64 x, v] w fun e w' => e = .returned (.bool (Sh.divided x l)) ∧ w' = w := by
  obtain ⟨av, nv, cv, hv, hnv⟩ : ∃ av nv cv, v = .slice av nv cv ∧ nv = l.length := by
    rcases hown.2 with ⟨rfl, h⟩ | ⟨g, cap, cur, rfl, _⟩
    · exact ⟨_, _, _, rfl, h.symm⟩
    · exact ⟨_, _, _, rfl, rfl⟩
  subst hv hnv
  go_enter Tryz.func176, Tryz.ntmps176
  go_wp2
  go_loop [9] (fun i => ∃ k : Nat, k ≤ l.length ∧ i = .int .i64 k ∧ (l.take k).any (fun d => x % d == 0) = false) (fun i => l.length - (intOf i).toNat)
  case atStart => exact ⟨0, Nat.zero_le _, rfl, by simp⟩
  case round =>
    obtain ⟨k, hk, rfl, ha⟩ := hrel
    have HA : Hid ((l.take k).any (fun d => x % d == 0) = false) := ha
    clear ha
    by_cases hlt : k < l.length
    · obtain ⟨g, cap, hv, _, _, hc⟩ := own_cells hown (by omega)
      cases hv
      have hck : w.cell? ⟨g, k, none⟩ = some (.int .u64 l[k]) := hc k _ (by simp [A64, hlt])
      have hpos : 0 < l[k] := hl _ (List.getElem_mem hlt)
      have hne : l[k] ≠ 0 := by omega
      have HS : Hid ((l.take (k + 1)).any (fun d => x % d == 0) = ((l.take k).any (fun d => x % d == 0) || x % l[k] == 0)) := by
        show _ = _
        rw [List.take_succ_eq_append_getElem hlt, List.any_append, List.any_cons, List.any_nil, Bool.or_false]
      have HD : Hid (x % l[k] = 0 → Sh.divided x l = true) := by
        show _ → _
        intro hb
        unfold Sh.divided
        rw [List.any_eq_true]
        exact ⟨l[k], List.getElem_mem hlt, by rw [hb]; rfl⟩
      generalize l[k] = d at *
      by_cases hz : x % d = 0
      · have HDD : Hid (Sh.divided x l = true) := HD.out hz
        clear HD HS
        go_wp2
        go_ret
        exact ⟨by rw [HDD.out]; rfl, rfl⟩
      · have hz2 : (x % d == 0) = false := by simpa using hz
        have HSS : Hid ((l.take (k + 1)).any (fun d => x % d == 0) = false) := by
          show _ = _
          rw [HS.out, HA.out, hz2]; rfl
        clear HD HS
        go_wp2
        go_round
        case rel => exact ⟨k + 1, by omega, by go_num, HSS.out⟩
        case measure => simp [intOf]; omega
    · have HDD : Hid (Sh.divided x l = false) := by
        show _ = _
        have h := HA.out
        rw [List.take_of_length_le (by omega)] at h
        exact h
      have hlt2 : ¬ (k : Int) < (l.length : Int) := by omega
      go_wp2
      go_ret
      exact ⟨by rw [HDD.out]; rfl, rfl⟩

namespace Sh
def primesF : Nat → Int → List Int → List Int
  | 0, _, l => l
  | f + 1, next, l => if l.length < 64 then primesF f (next + 1) (if divided next l then l else l ++ [next]) else l

def primes : List Int := primesF 310 2 []
end Sh

theorem primes_len : Sh.primes.length = 64 := by decide +kernel

theorem primesF_stop (f : Nat) (n : Int) (l : List Int) (h : ¬ l.length < 64) : Sh.primesF f n l = l := by
  cases f with
  | zero => rfl
  | succ f => simp [Sh.primesF, h]

theorem A64_snoc (l : List Int) (x : Int) : A64 l ++ [.int .u64 x] = A64 (l ++ [x]) := by simp [A64]

theorem info218 : (Tryz.prog.info? 229).map (fun i => (i.zero, i.size, i.bytes)) = some (some (.int .u64 0), 1, 8) := by kernel_rfl

theorem all_snoc (l : List Int) (k : Nat) (hk : 2 ≤ k) (hl : ∀ d ∈ l, 0 < d) : ∀ d ∈ l ++ [(k : Int)], 0 < d := by
  intro d hd
  rcases List.mem_append.1 hd with h | h
  · exact hl d h
  · simp at h; omega

set_option maxHeartbeats 800000 in
set_option maxRecDepth 100000 in
theorem primes_any (w : World) :
    Calls Tryz.prog 127 #[.int .i64 64] w fun e w' => (∃ v, e = .returned v ∧ w'.ownsRow w.heap.size 229 1 v 64 (A64 Sh.primes)) ∧ Kx (fun _ => False) w w' := by
  obtain ⟨i0, hi, hz0, hz1, hz2⟩ := info_parts info218
  go_enter Tryz.func127, Tryz.ntmps127
  go_wp2
  go_loopw [3, 4] (fun v nv w' => ∃ (k : Nat) (l : List Int), nv = .int .u64 (k : Int) ∧ 2 ≤ k ∧ k ≤ 312 ∧ l.length ≤ k ∧ (∀ d ∈ l, 0 < d) ∧ Kx (fun _ => False) w w' ∧ w'.ownsRow w.heap.size 229 1 v l.length (A64 l) ∧ Sh.primes = Sh.primesF (312 - k) (k : Int) l) (fun _ nv _ => 312 - (intOf nv).toNat)
  case atStart => exact ⟨2, [], rfl, by omega, by omega, by simp, by simp, Kx.refl _ _, World.ownsRow_nil _ _ _ _, rfl⟩
  case round =>
    obtain ⟨k, l, rfl, hk2, hk312, hlk, hl, hkx, hown, hE⟩ := hrel
    have HE : Hid (Sh.primes = Sh.primesF (312 - k) (k : Int) l) := hE
    clear hE
    obtain ⟨av, nv, cv, hv, hnv⟩ : ∃ av nv cv, u3 = .slice av nv cv ∧ nv = l.length := by
      rcases hown.2 with ⟨rfl, h⟩ | ⟨g, cap, cur, rfl, _⟩
      · exact ⟨_, _, _, rfl, h.symm⟩
      · exact ⟨_, _, _, rfl, rfl⟩
    subst hv hnv
    by_cases hlt : l.length < 64
    · have hlt2 : (l.length : Int) < 64 := by omega
      have hk : k < 312 := by
        rcases Nat.lt_or_ge k 312 with h | h
        · exact h
        · exfalso
          obtain rfl : k = 312 := by omega
          have h1 : Sh.primes = l := HE.out
          have := primes_len
          rw [h1] at this; omega
      have HE2 : Hid (Sh.primes = Sh.primesF (312 - (k + 1)) ((k + 1 : Nat) : Int) (if Sh.divided k l then l else l ++ [(k : Int)])) := by
        show _ = _
        rw [HE.out, show 312 - k = (312 - (k + 1)) + 1 by omega]
        simp [Sh.primesF, hlt]
      clear HE
      go_wp2_with fail
      refine (divided_any k (by omega) l hl _ _ _ hown (by omega)).mono ?_
      rintro _ w2 ⟨rfl, hw2⟩
      rw [hw2]
      clear hw2
      cases hd : Sh.divided k l
      · rw [hd] at HE2
        have HE3 : Hid (Sh.primes = Sh.primesF (312 - (k + 1)) ((k + 1 : Nat) : Int) (l ++ [(k : Int)])) := HE2.out
        clear HE2 hd
        go_wp2_with (at_builtin; refine wpList_append_own _ rfl (.tmp 15) (.tmp 17) 227 rfl w.heap.size 229 i0 _ 1 8 Tryz.underlying227 hi hz0 hz1 hz2 rfl (by decide) _ _ _ rfl (hown.alloc _) ⟨wr.heap.size, 0, none⟩ 1 1 [.int .u64 k] rfl rfl ?c1 ?c2 ?c3 ?c4 ?c5 ?_)
        case c1 => exact cells_new _ [_] _
        case c2 => simp [Value.oneCell']
        case c3 => unfold maxLen; omega
        case c4 => omega
        case c5 => have := hkx.size; simp; omega
        intro v4 w4 hown4 hgrow4 _
        have hk4 : Kx (fun _ => False) w w4 := (hkx.alloc _).grown hgrow4 (fun k he => (hown.lt k he).1)
        rw [A64_snoc] at hown4
        go_wp2
        go_roundw
        case rel => exact ⟨k + 1, l ++ [(k : Int)], by go_num, by omega, by omega, by simp; omega, all_snoc l k hk2 hl, hk4, by simpa using hown4, HE3.out⟩
        case measure => simp [intOf]; omega
      · rw [hd] at HE2
        have HE3 : Hid (Sh.primes = Sh.primesF (312 - (k + 1)) ((k + 1 : Nat) : Int) l) := HE2.out
        clear HE2 hd
        go_wp2
        go_roundw
        case rel => exact ⟨k + 1, l, by go_num, by omega, by omega, by omega, hl, hkx, hown, HE3.out⟩
        case measure => simp [intOf]; omega
    · have hlt2 : ¬ (l.length : Int) < 64 := by omega
      have e1 : Sh.primes = l := by rw [HE.out, primesF_stop _ _ _ hlt]
      have e2 : l.length = 64 := by rw [← e1]; exact primes_len
      have HE4 : Hid (Sh.primes = l) := e1
      clear HE e1
      go_wp2
      go_ret
      refine ⟨⟨_, rfl, ?_⟩, hkx⟩
      rw [HE4.out, ← e2]
      exact hown

namespace Sh
def zeros (n : Nat) : Nat := (119 - n % 64) % 64

def lens (n : Nat) : Nat → List UInt8
  | 0 => []
  | k + 1 => lens n k ++ [UInt8.ofNat (n / 2 ^ (56 - 8 * k) % 256)]

def padded (t : List UInt8) : List UInt8 := t ++ [128] ++ List.replicate (zeros t.length) 0 ++ lens (t.length * 8) 8
end Sh

theorem info5 : (Tryz.prog.info? 5).map (fun i => (i.zero, i.size, i.bytes)) = some (some (.int .u8 0), 1, 1) := by kernel_rfl

theorem rep_succ (k : Nat) : (List.replicate (k + 1) (0 : UInt8)) = List.replicate k 0 ++ [0] := List.replicate_succ'

def vlen : Value → Nat
  | .slice _ n _ => n
  | _ => 0

theorem lens_len (n k : Nat) : (Sh.lens n k).length = k := by
  induction k with
  | zero => rfl
  | succ k ih => simp [Sh.lens, ih]

theorem Kx.grownB {X : Nat → Prop} {a w w' : World} {base : Nat} {e : TypeId} {v : Value} {xs : List Value} (h : Kx X a w) (hown : OwnB w base e v xs) (hg : w.grownBy w' v.ownBlock) (hb : a.heap.size ≤ base) : Kx X a w' :=
  h.grown hg (fun k he => Nat.le_trans hb (hown.lt k he).1)

set_option maxHeartbeats 1000000 in
set_option maxRecDepth 100000 in
theorem padded_any (t : List UInt8) (ht : t.length ≤ 100000) (w : World) :
    Calls Tryz.prog 178 #[.string ⟨t.toArray⟩] w fun e w' => (∃ v, e = .returned v ∧ OwnB w' w.heap.size 5 v (A8 (Sh.padded t))) ∧ Kx (fun _ => False) w w' := by
  obtain ⟨i0, hi, hz0, hz1, hz2⟩ := info_parts info5
  have HP : Hid (Sh.padded t = t ++ [128] ++ List.replicate (Sh.zeros t.length) 0 ++ Sh.lens (t.length * 8) 8) := rfl
  have HZ : Hid (Sh.zeros t.length = (119 - t.length % 64) % 64) := rfl
  have HL : Hid (∀ k, Sh.lens (t.length * 8) (k + 1) = Sh.lens (t.length * 8) k ++ [UInt8.ofNat (t.length * 8 / 2 ^ (56 - 8 * k) % 256)]) := fun k => rfl
  go_enter Tryz.func178, Tryz.ntmps178
  go_wp2_with (refine wpList_bytesOf _ rfl 9 58 5 _ rfl Tryz.underlying9 Tryz.underlying58 Tryz.underlying5 t rfl (by unfold maxLen; omega) ?_)
  intro v1 w1 hown1 hk1
  go_wp2_with (at_builtin; refine wpList_append_B _ rfl (.tmp 7) (.tmp 8) 58 rfl w.heap.size 5 i0 _ 1 Tryz.underlying58 hi hz0 hz1 hz2 rfl _ _ rfl (hown1.alloc _) ⟨w1.heap.size, 0, none⟩ 1 1 [.int .u8 128] rfl rfl (by omega) ?c1 ?c2 ?c3 ?c4 ?c5 ?_)
  case c1 => exact cells_new _ [_] _
  case c2 => simp [Value.oneCell']
  case c3 => rw [A8_len]; unfold maxLen; omega
  case c4 => rw [A8_len]; omega
  case c5 => have := hk1.size; simp; omega
  intro v2 w2 hown2 hg2 _
  have hk2 : Kx (fun _ => False) w w2 := (hk1.alloc _).grownB (hown1.alloc _) hg2 (Nat.le_refl _)
  clear hg2 hown1 hk1
  have hown2' : OwnB w2 w.heap.size 5 v2 (A8 (t ++ [128])) := by rw [A8_app]; exact hown2
  clear hown2
  go_wp2
  go_loopw [3] (fun v w' => ∃ (k : Nat), k ≤ Sh.zeros t.length ∧ Kx (fun _ => False) w w' ∧ OwnB w' w.heap.size 5 v (A8 (t ++ [128] ++ List.replicate k 0)) ∧ (∃ a c, v = .slice a (t.length + 1 + k) c)) (fun v _ => 200000 - vlen v)
  case atStart =>
    refine ⟨0, Nat.zero_le _, hk2, by simpa using hown2', ?_⟩
    obtain ⟨a, c, e⟩ := hown2'.slice
    exact ⟨a, c, by rw [e]; simp [A8_len]⟩
  case round =>
    obtain ⟨k, hkz, hkx, hown, a, c, rfl⟩ := hrel
    have hzz := HZ.out
    obtain ⟨L, hL⟩ : ∃ L, t ++ [128] ++ List.replicate k 0 = L := ⟨_, rfl⟩
    have hlen : L.length = t.length + 1 + k := by rw [← hL]; simp; omega
    have HLL : Hid (t ++ [128] ++ List.replicate k 0 = L) := hL
    rw [hL] at hown
    clear hL
    have hlen2 : (A8 L).length = t.length + 1 + k := by rw [A8_len, hlen]
    by_cases hlt : k < Sh.zeros t.length
    · have hr : (((t.length + 1 + k : Nat) : Int) % 64 != 56) = true := by simp; omega
      generalize hn : t.length + 1 + k = n at *
      go_wp2_with (at_builtin; refine wpList_append_B _ rfl (.tmp 14) (.tmp 15) 58 rfl w.heap.size 5 i0 _ 1 Tryz.underlying58 hi hz0 hz1 hz2 rfl _ _ rfl (hown.alloc _) ⟨wr.heap.size, 0, none⟩ 1 1 [.int .u8 0] rfl rfl (by omega) ?c1 ?c2 ?c3 ?c4 ?c5 ?_)
      case c1 => exact cells_new _ [_] _
      case c2 => simp [Value.oneCell']
      case c3 => rw [hlen2]; unfold maxLen; omega
      case c4 => rw [hlen2]; omega
      case c5 => have := hkx.size; simp; omega
      intro v2 w3 hown3 hg3 _
      have hk3 : Kx (fun _ => False) w w3 := (hkx.alloc _).grownB (hown.alloc _) hg3 (Nat.le_refl _)
      have hown3' : OwnB w3 w.heap.size 5 v2 (A8 (L ++ [0])) := by rw [A8_app]; exact hown3
      clear hg3 hown3
      obtain ⟨a', c', hv⟩ := hown3'.slice
      have hv2 : v2 = .slice a' (n + 1) c' := by rw [hv, A8_len]; simp [hlen]
      clear hv
      go_wp2
      go_roundw
      case rel =>
        refine ⟨k + 1, hlt, hk3, ?_, a', c', by rw [hv2]; congr 1; omega⟩
        rw [rep_succ, ← List.append_assoc, HLL.out]; exact hown3'
      case measure => rw [hv2]; simp [vlen]; omega
    · obtain rfl : k = Sh.zeros t.length := by omega
      have hr : (((t.length + 1 + Sh.zeros t.length : Nat) : Int) % 64 != 56) = false := by simp; omega
      have hz64 : Sh.zeros t.length < 64 := by omega
      have HP2 : Hid (Sh.padded t = L ++ Sh.lens (t.length * 8) 8) := by show _ = _; rw [HP.out, HLL.out]
      generalize hn : t.length + 1 + Sh.zeros t.length = n at *
      go_wp2
      clear HP hr
      go_loopw [5, 3] (fun sv v w' => ∃ (k : Nat), k ≤ 8 ∧ sv = .int .i64 (56 - 8 * (k : Int)) ∧ Kx (fun _ => False) w w' ∧ OwnB w' w.heap.size 5 v (A8 (L ++ Sh.lens (t.length * 8) k))) (fun sv _ _ => (intOf sv + 8).toNat)
      case atStart => exact ⟨0, by omega, rfl, hkx, by simpa [Sh.lens] using hown⟩
      case round =>
        clear hkx hown
        obtain ⟨k, hk8, rfl, hkx, hown⟩ := hrel
        have hlen3 : (A8 (L ++ Sh.lens (t.length * 8) k)).length = n + k := by rw [A8_len, List.length_append, hlen, lens_len]
        have HLk := HL.out k
        have HL2 : Hid (L ++ Sh.lens (t.length * 8) (k + 1) = L ++ Sh.lens (t.length * 8) k ++ [UInt8.ofNat (t.length * 8 / 2 ^ (56 - 8 * k) % 256)]) := by show _ = _; rw [HLk, List.append_assoc]
        clear HLk
        obtain ⟨M, hM⟩ : ∃ M, L ++ Sh.lens (t.length * 8) k = M := ⟨_, rfl⟩
        rw [hM] at hown hlen3 HL2
        by_cases hlt : k < 8
        · have hs0 : (0 : Int) ≤ 56 - 8 * (k : Int) := by omega
          have hs1 : (56 - 8 * (k : Int)).toNat = 56 - 8 * k := by omega
          have hs2 : min (56 - 8 * k) 64 = 56 - 8 * k := by omega
          have hb : ((t.length : Int) * 8 / 2 ^ (56 - 8 * k)) % 256 = (((UInt8.ofNat (t.length * 8 / 2 ^ (56 - 8 * k) % 256)).toNat : Nat) : Int) := by
            have : (t.length * 8 / 2 ^ (56 - 8 * k) % 256) < 256 := Nat.mod_lt _ (by omega)
            simp
          clear HL
          generalize UInt8.ofNat (t.length * 8 / 2 ^ (56 - 8 * k) % 256) = b at *
          have HN : Hid (L ++ Sh.lens (t.length * 8) (k + 1) = M ++ [b]) := HL2.out
          clear HL2 hM
          go_wp2_with (at_builtin; refine wpList_append_B _ rfl (.tmp 25) (.tmp 30) 58 rfl w.heap.size 5 i0 _ 1 Tryz.underlying58 hi hz0 hz1 hz2 rfl _ _ rfl (hown.alloc _) ⟨wr.heap.size, 0, none⟩ 1 1 [.int .u8 (b.toNat : Int)] rfl rfl (by omega) ?c1 ?c2 ?c3 ?c4 ?c5 ?_)
          case c1 => exact cells_new _ [_] _
          case c2 => simp [Value.oneCell']
          case c3 => rw [hlen3]; unfold maxLen; omega
          case c4 => rw [hlen3]; omega
          case c5 => have := hkx.size; simp; omega
          intro v2 w3 hown3 hg3 _
          have hk3 : Kx (fun _ => False) w w3 := (hkx.alloc _).grownB (hown.alloc _) hg3 (Nat.le_refl _)
          have hown3' : OwnB w3 w.heap.size 5 v2 (A8 (M ++ [b])) := by rw [A8_app]; exact hown3
          clear hg3 hown3
          go_wp2
          go_roundw
          case rel => exact ⟨k + 1, by omega, by congr 1; omega, hk3, by rw [HN.out]; exact hown3'⟩
          case measure => simp [intOf]; omega
        · obtain rfl : k = 8 := by omega
          have HP3 : Hid (Sh.padded t = M) := by show _ = _; rw [HP2.out, hM]
          clear HL HL2 hM
          go_wp2
          go_ret
          exact ⟨⟨_, rfl, by rw [HP3.out]; exact hown⟩, hkx⟩

structure Bd (b : Nat) (l : List UInt8) (g : Option Nat) (w : World) : Prop where
  at' : ∃ p v, w.heap[b]? = some (.cells #[p, v] 246 (0, 0)) ∧ (p = .pointer none ∨ p = .pointer (some ⟨b, 0, none⟩)) ∧ OwnB w 0 5 v (A8 l) ∧ v.ownBlock = g ∧ (l = [] → v = .slice none 0 0)
  ne : g ≠ some b

def BdX (b : Nat) (g : Option Nat) : Nat → Prop := fun k => k = b ∨ some k = g

theorem info355 : ∃ j, Tryz.prog.info? 246 = some j ∧ j.size = 2 := by
  have h : (Tryz.prog.info? 246).map (·.size) = some 2 := by kernel_rfl
  exact Option.map_eq_some_iff.1 h

set_option maxHeartbeats 400000 in
set_option maxRecDepth 100000 in
theorem copyCheck_used (b : Nat) (w : World) (h0 : w.cell? ⟨b, 0, none⟩ = some (.pointer (some ⟨b, 0, none⟩))) :
    Calls Tryz.prog 272 #[.pointer (some ⟨b, 0, none⟩)] w fun e w' => e = .returned (.tuple #[]) ∧ w' = w := by
  obtain ⟨j, hj, _⟩ := info355
  go_enter Tryz.func272, Tryz.ntmps272
  go_wp2
  rw [Lib.run_neq_ptr_same w _ Tryz.underlying244 hj]
  go_wp2
  go_end0
  exact ⟨rfl, rfl⟩

theorem lies355 : liesAt Tryz.prog Tryz.prog.depth 246 (2 / Tryz.prog.cellsOf 246) 0 246 1 = true := by kernel_rfl

set_option maxHeartbeats 400000 in
set_option maxRecDepth 100000 in
theorem copyCheck_fresh (b : Nat) (w : World) (h0 : w.cell? ⟨b, 0, none⟩ = some (.pointer none)) (hsh : w.shape? b = some (246, 2)) (hfz : w.frozen? ⟨b, 0, none⟩ = false) :
    Calls Tryz.prog 272 #[.pointer (some ⟨b, 0, none⟩)] w fun e w' => e = .returned (.tuple #[]) ∧ w' = w.setCell ⟨b, 0, none⟩ (.pointer (some ⟨b, 0, none⟩)) := by
  obtain ⟨j, hj, hjs⟩ := info355
  go_enter Tryz.func272, Tryz.ntmps272
  go_wp2
  rw [Lib.run_to_unsafe w ⟨b, 0, none⟩ Tryz.underlying244 Tryz.underlying408 hj (by rw [hjs]; decide) hsh (Nat.zero_lt_succ 1)]
  simp only [Result.andThen]
  rw [Oper.upon_value]
  go_wp2
  rw [run_callFunc_extern Tryz.func324 (by kernel_rfl) (by kernel_rfl) (by kernel_rfl) (e := Extern.AbiNoEscape.same) (by kernel_rfl)]
  rw [Lib.run_noEscape]
  simp only [Result.andThen]
  rw [Oper.upon_value]
  go_wp2
  rw [Lib.run_from_unsafe w ⟨b, 0, none⟩ Tryz.underlying408 Tryz.underlying244 hj hsh lies355]
  simp only [Result.andThen]
  rw [Oper.upon_value]
  go_wp2
  go_end0
  exact ⟨rfl, rfl⟩

theorem copyCheck_any (b : Nat) (l : List UInt8) (g : Option Nat) (w : World) (h : Bd b l g w) :
    Calls Tryz.prog 272 #[.pointer (some ⟨b, 0, none⟩)] w fun e w' => e = .returned (.tuple #[]) ∧ Kx (Only b) w w' ∧ ∃ v, w'.heap[b]? = some (.cells #[.pointer (some ⟨b, 0, none⟩), v] 246 (0, 0)) ∧ OwnB w' 0 5 v (A8 l) ∧ v.ownBlock = g ∧ (l = [] → v = .slice none 0 0) := by
  obtain ⟨⟨p, v, hb, hp, hown, hg, hl⟩, hne⟩ := h
  have hcb : Cb b #[p, v] 246 w := hb
  have hc0 : w.cell? ⟨b, 0, none⟩ = some p := hcb.cell 0
  rcases hp with rfl | rfl
  · refine (copyCheck_fresh b w hc0 (by simp [World.shape?, hb]) (hcb.frozen 0)).mono ?_
    rintro e w' ⟨rfl, rfl⟩
    refine ⟨rfl, (Kx.refl _ _).only_set _, v, hcb.set 0 _, hown.kept ((Kx.refl (Only b) w).only_set _) (fun k _ hk => ?_), hg, hl⟩
    intro e
    unfold Only at e
    subst e
    exact hne (by rw [← hg]; exact hk)
  · refine (copyCheck_used b w hc0).mono ?_
    rintro e w' ⟨rfl, rfl⟩
    exact ⟨rfl, Kx.refl _ _, v, hb, hown, hg, hl⟩

theorem Bd.put {b : Nat} {l s : List UInt8} {g : Option Nat} {v v' : Value} {w0 w w' : World} (hk0 : Kx (Only b) w0 w) (hb : w.heap[b]? = some (.cells #[.pointer (some ⟨b, 0, none⟩), v] 246 (0, 0))) (hg : v.ownBlock = g) (hne : g ≠ some b)
    (hown : OwnB w' 0 5 v' (A8 (l ++ s))) (hs : 0 < s.length) (hgr : w.grownBy w' v.ownBlock) (hor : v'.ownBlock = v.ownBlock ∨ v'.ownBlock = some w.heap.size) :
    ∃ g', Bd b (l ++ s) g' (w'.setCell ⟨b, 1, none⟩ v') ∧ (g' = g ∨ ∃ k, g' = some k ∧ w0.heap.size ≤ k) ∧ Kx (BdX b g) w0 (w'.setCell ⟨b, 1, none⟩ v') := by
  have hlt : b < w.heap.size := (Array.getElem?_eq_some_iff.1 hb).1
  have hb2 : Cb b #[.pointer (some ⟨b, 0, none⟩), v] 246 w' := by
    show w'.heap[b]? = _
    rw [hgr.block b hlt (fun e => hne (by rw [← hg, ← e]))]
    exact hb
  have hne' : v'.ownBlock ≠ some b := by
    rcases hor with h | h
    · rw [h, hg]; exact hne
    · rw [h]; intro e; have := Option.some.inj e; omega
  refine ⟨v'.ownBlock, ⟨⟨_, v', hb2.set 1 v', .inr rfl, hown.kept ((Kx.refl (Only b) w').only_set v') (fun k _ hk e => ?_), rfl, fun e => ?_⟩, hne'⟩, ?_, ?_⟩
  · unfold Only at e; subst e; exact hne' hk
  · have : (l ++ s).length = 0 := by rw [e]; rfl
    rw [List.length_append] at this; omega
  · rcases hor with h | h
    · exact .inl (h.trans hg)
    · exact .inr ⟨_, h, hk0.size⟩
  · have h1 : Kx (BdX b g) w0 w := hk0.mono (fun k _ e => .inl e)
    have h2 : Kx (BdX b g) w0 w' := h1.join (Y := fun k => some k = g) ⟨hgr.os, hgr.tape, hgr.output, hgr.size, fun k hk hx => hgr.block k hk (fun e => hx (by rw [e, hg]))⟩ (fun _ _ e => .inr e)
    exact h2.setCell (p := ⟨b, 1, none⟩) (fun _ => .inl rfl) _

set_option maxHeartbeats 800000 in
set_option maxRecDepth 100000 in
theorem writeString_any (b : Nat) (l s : List UInt8) (g : Option Nat) (w : World) (h : Bd b l g w) (hs : 0 < s.length) (hlen : l.length + s.length ≤ 1000000) :
    Calls Tryz.prog 192 #[.pointer (some ⟨b, 0, none⟩), .string ⟨s.toArray⟩] w fun e w' => e = .returned (.tuple #[.int .i64 s.length, .nilIface]) ∧
      ∃ g', Bd b (l ++ s) g' w' ∧ (g' = g ∨ ∃ k, g' = some k ∧ w.heap.size ≤ k) ∧ Kx (BdX b g) w w' := by
  obtain ⟨i0, hi, hz0, hz1, hz2⟩ := info_parts info5
  have hne := h.ne
  go_enter Tryz.func192, Tryz.ntmps192
  go_wp2_with fail
  refine (copyCheck_any b l g _ h).mono ?_
  rintro e w1 ⟨rfl, hk1, v, hb1, hown1, rfl, _⟩
  have hcb : Cb b #[.pointer (some ⟨b, 0, none⟩), v] 246 w1 := hb1
  have c1 : w1.cell? ⟨b, 1, none⟩ = some v := hcb.cell 1
  go_wp2_with (at_builtin; refine wpList_append_Bs _ rfl _ _ 58 9 rfl 0 5 i0 Tryz.underlying58 Tryz.underlying9 hi hz0 hz1 hz2 _ _ rfl hown1 s rfl hs ?c3 ?c4 ?c5 ?_)
  case c3 => rw [A8_len]; unfold maxLen; omega
  case c4 => rw [A8_len]; omega
  case c5 => omega
  intro v' w2 hown2 hgr hor
  have hown2' : OwnB w2 0 5 v' (A8 (l ++ s)) := by rw [A8_app]; exact hown2
  obtain ⟨g', hbd, hor', hkx⟩ := Bd.put hk1 hb1 rfl hne hown2' hs hgr hor
  have hlt : b < w1.heap.size := (Array.getElem?_eq_some_iff.1 hb1).1
  have hb2 : Cb b #[.pointer (some ⟨b, 0, none⟩), v] 246 w2 := by
    show w2.heap[b]? = _
    rw [hgr.block b hlt (fun e => hne e.symm)]
    exact hb1
  have d1 : w2.cell? ⟨b, 1, none⟩ = some v := hb2.cell 1
  have f1 : w2.frozen? ⟨b, 1, none⟩ = false := hb2.frozen 1
  obtain ⟨ao, cap, hv'⟩ := hown2'.slice
  subst hv'
  go_wp2
  go_ret2
  exact ⟨rfl, g', hbd, hor', hkx⟩

set_option maxHeartbeats 800000 in
set_option maxRecDepth 100000 in
theorem writeByte_any (b : Nat) (l : List UInt8) (c : UInt8) (g : Option Nat) (w : World) (h : Bd b l g w) (hlen : l.length ≤ 1000000) :
    Calls Tryz.prog 377 #[.pointer (some ⟨b, 0, none⟩), .int .u8 (c.toNat : Int)] w fun e w' => e = .returned .nilIface ∧
      ∃ g', Bd b (l ++ [c]) g' w' ∧ (g' = g ∨ ∃ k, g' = some k ∧ w.heap.size ≤ k) ∧ Kx (BdX b g) w w' := by
  obtain ⟨i0, hi, hz0, hz1, hz2⟩ := info_parts info5
  have hne := h.ne
  go_enter Tryz.func377, Tryz.ntmps377
  go_wp2_with fail
  refine (copyCheck_any b l g _ h).mono ?_
  rintro e w1 ⟨rfl, hk1, v, hb1, hown1, rfl, _⟩
  have hcb : Cb b #[.pointer (some ⟨b, 0, none⟩), v] 246 w1 := hb1
  have c1 : w1.cell? ⟨b, 1, none⟩ = some v := hcb.cell 1
  have hlt : b < w1.heap.size := (Array.getElem?_eq_some_iff.1 hb1).1
  go_wp2_with (at_builtin; refine wpList_append_B _ rfl (.tmp 11) (.tmp 13) 58 rfl 0 5 i0 _ 1 Tryz.underlying58 hi hz0 hz1 hz2 rfl _ _ rfl (hown1.alloc _) ⟨w1.heap.size, 0, none⟩ 1 1 [.int .u8 (c.toNat : Int)] rfl rfl (by omega) ?c1 ?c2 ?c3 ?c4 ?c5 ?_)
  case c1 => exact cells_new _ [_] _
  case c2 => simp [Value.oneCell']
  case c3 => rw [A8_len]; unfold maxLen; omega
  case c4 => rw [A8_len]; omega
  case c5 => omega
  intro v' w2 hown2 hgr hor
  have hown2' : OwnB w2 0 5 v' (A8 (l ++ [c])) := by rw [A8_app]; exact hown2
  obtain ⟨g', hbd, hor', hkx⟩ := Bd.put (s := [c]) (hk1.alloc (.cells #[.int .u8 (c.toNat : Int)] 5)) (hcb.alloc _) rfl hne hown2' (by simp) hgr (by rw [World.size_alloc]; exact hor)
  have hb2 : Cb b #[.pointer (some ⟨b, 0, none⟩), v] 246 w2 := by
    show w2.heap[b]? = _
    rw [hgr.block b (by simp; omega) (fun e => hne e.symm)]
    exact hcb.alloc _
  have d1 : w2.cell? ⟨b, 1, none⟩ = some v := hb2.cell 1
  have f1 : w2.frozen? ⟨b, 1, none⟩ = false := hb2.frozen 1
  obtain ⟨ao, cap, hv'⟩ := hown2'.slice
  subst hv'
  go_wp2
  go_ret
  exact ⟨rfl, g', hbd, hor', hkx⟩

set_option maxHeartbeats 800000 in
set_option maxRecDepth 100000 in
theorem write_any (b : Nat) (l s : List UInt8) (g : Option Nat) (w : World) (h : Bd b l g w) (hs : 0 < s.length) (hlen : l.length + s.length ≤ 1000000) (r cap : Nat) (hr : b ≠ r)
    (hc : ∀ k x, (A8 s)[k]? = some x → w.cell? ⟨r, k, none⟩ = some x) :
    Calls Tryz.prog 347 #[.pointer (some ⟨b, 0, none⟩), .slice (some ⟨r, 0, none⟩) s.length cap] w fun e w' => e = .returned (.tuple #[.int .i64 s.length, .nilIface]) ∧
      ∃ g', Bd b (l ++ s) g' w' ∧ (g' = g ∨ ∃ k, g' = some k ∧ w.heap.size ≤ k) ∧ Kx (BdX b g) w w' := by
  obtain ⟨i0, hi, hz0, hz1, hz2⟩ := info_parts info5
  have hne := h.ne
  have hrl : r < w.heap.size := lt_of_cell (hc 0 (.int .u8 ((s.head (by intro e; simp [e] at hs)).toNat : Int)) (by cases s with
    | nil => simp at hs
    | cons x t => rfl))
  go_enter Tryz.func347, Tryz.ntmps347
  go_wp2_with fail
  refine (copyCheck_any b l g _ h).mono ?_
  rintro e w1 ⟨rfl, hk1, v, hb1, hown1, rfl, _⟩
  have hcb : Cb b #[.pointer (some ⟨b, 0, none⟩), v] 246 w1 := hb1
  have c1 : w1.cell? ⟨b, 1, none⟩ = some v := hcb.cell 1
  have hc1 : ∀ j u, (A8 s)[j]? = some u → w1.cell? ((⟨r, 0, none⟩ : Addr).add j) = some u := by
    intro j u hu
    have e : (⟨r, 0, none⟩ : Addr).add j = ⟨r, j, none⟩ := by unfold Addr.add; split <;> simp_all
    rw [e, hk1.cell (p := ⟨r, j, none⟩) hrl (fun e => hr e.symm)]
    exact hc j u hu
  go_wp2_with (at_builtin; refine wpList_append_B _ rfl (.tmp 12) (.tmp 13) 58 rfl 0 5 i0 _ 1 Tryz.underlying58 hi hz0 hz1 hz2 rfl _ _ rfl hown1 ⟨r, 0, none⟩ s.length cap (A8 s) rfl (A8_len s) hs hc1 (A8_one s) ?c3 ?c4 ?c5 ?_)
  case c3 => rw [A8_len]; unfold maxLen; omega
  case c4 => rw [A8_len]; omega
  case c5 => omega
  intro v' w2 hown2 hgr hor
  have hown2' : OwnB w2 0 5 v' (A8 (l ++ s)) := by rw [A8_app]; exact hown2
  obtain ⟨g', hbd, hor', hkx⟩ := Bd.put hk1 hb1 rfl hne hown2' hs hgr hor
  have hlt : b < w1.heap.size := (Array.getElem?_eq_some_iff.1 hb1).1
  have hb2 : Cb b #[.pointer (some ⟨b, 0, none⟩), v] 246 w2 := by
    show w2.heap[b]? = _
    rw [hgr.block b hlt (fun e => hne e.symm)]
    exact hb1
  have d1 : w2.cell? ⟨b, 1, none⟩ = some v := hb2.cell 1
  have f1 : w2.frozen? ⟨b, 1, none⟩ = false := hb2.frozen 1
  obtain ⟨ao, cap', hv'⟩ := hown2'.slice
  subst hv'
  go_wp2
  go_ret2
  exact ⟨rfl, g', hbd, hor', hkx⟩

theorem Kx.freeze {X : Nat → Prop} {a w : World} (h : Kx X a w) {p : Addr} (hp : X p.block) (n : Nat) : Kx X a (w.freeze p n) := by
  refine ⟨?_, ?_, ?_, ?_, fun k hk hx => ?_⟩
  · rw [← h.os]; unfold World.freeze; split <;> rfl
  · rw [← h.tape]; unfold World.freeze; split <;> rfl
  · rw [← h.output]; unfold World.freeze; split <;> rfl
  · have : (w.freeze p n).heap.size = w.heap.size := by unfold World.freeze; split <;> simp
    rw [this]; exact h.size
  · have : (w.freeze p n).heap[k]? = w.heap[k]? := by
      have hne : p.block ≠ k := fun e => hx (e ▸ hp)
      unfold World.freeze
      split
      · rfl
      · simp [Array.getElem?_modify, hne]
    rw [this]; exact h.block k hk hx

set_option maxHeartbeats 800000 in
set_option maxRecDepth 100000 in
theorem string_any (b : Nat) (l : List UInt8) (g : Option Nat) (w : World) (h : Bd b l g w) :
    Calls Tryz.prog 146 #[.pointer (some ⟨b, 0, none⟩)] w fun e w' => e = .returned (.string ⟨l.toArray⟩) ∧ Kx (BdX b g) w w' := by
  obtain ⟨⟨p, v, hb, hp, hown, hg, hl⟩, hne⟩ := h
  have hcb : Cb b #[p, v] 246 w.drew := hb
  have c1 : w.drew.cell? ⟨b, 1, none⟩ = some v := hcb.cell 1
  rcases hown with ⟨rfl, hnil⟩ | ⟨r, cap, cur, fz, rfl, hbg, hgr, hfz, hnc, hcm, hcs, htake⟩
  · have hl0 : l = [] := by
      cases l with
      | nil => rfl
      | cons x t => simp [A8] at hnil
    subst hl0
    have hSD : (Builtin.unsafeSliceData_ #[58] 277 #[.slice none 0 0]).run Tryz.prog w.drew = .ok (.pointer none) w.drew := Lib.run_unsafeSliceData_nil _ _ _ _ _
    have hUS : (Builtin.unsafeString_ #[277, 3] 9 #[.pointer none, .int .i64 0]).run Tryz.prog w.drew = .ok (.string .empty) w.drew := Lib.run_unsafeString_none _ _ _ _ _
    go_enter Tryz.func146, Tryz.ntmps146
    go_wp2
    go_region
    go_wp2
    go_ret
    exact ⟨rfl, (Kx.refl _ _).drew⟩
  · have hl0 : l ≠ [] := fun e => by
      have := hl e
      cases this
    have hlen : (A8 l).length = l.length := A8_len l
    rw [hlen] at hnc htake c1
    have hpos : 0 < l.length := List.length_pos_iff.2 hl0
    have hSD : (Builtin.unsafeSliceData_ #[58] 277 #[.slice (some ⟨r, 0, none⟩) l.length cap]).run Tryz.prog w.drew = .ok (.pointer (some ⟨r, 0, none⟩)) w.drew :=
      Lib.run_unsafeSliceData_row _ _ _ _ _ _ (by omega)
    have hUS : (Builtin.unsafeString_ #[277, 3] 9 #[.pointer (some ⟨r, 0, none⟩), .int .i64 l.length]).run Tryz.prog w.drew = .ok (.string ⟨l.toArray⟩) (w.drew.freeze ⟨r, 0, none⟩ l.length) := by
      refine Lib.run_unsafeString_row w.drew 277 3 9 5 Tryz.underlying277 (by kernel_rfl) r cur.size (by have hg' : w.drew.heap[r]? = some (.cells cur 5 fz) := hgr; simp [World.shape?, hg']) l hl0 (by omega) (by unfold maxLen at hcm; omega) ?_
      intro j x hx
      have hj : j < l.length := (List.getElem?_eq_some_iff.1 hx).1
      have hadd : (⟨r, 0, none⟩ : Addr).add j = ⟨r, j, none⟩ := by unfold Addr.add; split <;> simp_all
      have h2 : (A8 l)[j]? = some (.int .u8 (x.toNat : Int)) := by simp [A8, hx]
      rw [← htake, List.getElem?_take_of_lt hj] at h2
      rw [hadd]
      have hg' : w.drew.heap[r]? = some (.cells cur 5 fz) := hgr
      unfold World.cell?
      rw [hg']
      simpa using h2
    have hgX : BdX b g r := .inr (by rw [← hg]; rfl)
    clear hfz hnc hcm hcs htake hl hlen
    go_enter Tryz.func146, Tryz.ntmps146
    go_wp2
    go_region
    all_goals (go_wp2; go_ret; exact ⟨rfl, (Kx.refl _ _).drew.freeze (p := ⟨r, 0, none⟩) hgX _⟩)

namespace Sh
def hexL : List UInt8 := [48, 49, 50, 51, 52, 53, 54, 55, 56, 57, 97, 98, 99, 100, 101, 102]

def hex1 (b : UInt8) : List UInt8 := [hexL.getD (b.toNat / 16) 0, hexL.getD (b.toNat % 16) 0]

def hex (l : List UInt8) : List UInt8 := l.flatMap hex1
end Sh

theorem hexBA (n : Nat) (hn : n < 16) : ((⟨#[48, 49, 50, 51, 52, 53, 54, 55, 56, 57, 97, 98, 99, 100, 101, 102]⟩ : ByteArray)[n]'hn) = Sh.hexL.getD n 0 := by
  have h : ∀ n : Fin 16, ((⟨#[48, 49, 50, 51, 52, 53, 54, 55, 56, 57, 97, 98, 99, 100, 101, 102]⟩ : ByteArray)[n.val]'n.isLt) = Sh.hexL.getD n.val 0 := by decide +kernel
  exact h ⟨n, hn⟩

theorem index32 (d : List UInt8) (hd : d.length = 32) (k : Nat) (hk : k < 32) (w : World) :
    Sem.run Tryz.prog (Instr.index 231 (.agg (A8 d).toArray) (.int .i64 (k : Int))) w = .ok (.int .u8 ((d.getD k 0).toNat : Int)) w := by
  have h5 : (Tryz.prog.info? 5).map (·.size) = some 1 := by kernel_rfl
  obtain ⟨i5, hi5, hs5⟩ := Option.map_eq_some_iff.1 h5
  have hkk : (A8 d)[k]? = some (.int .u8 ((d.getD k 0).toNat : Int)) := by
    simp [A8, List.getD, List.getElem?_eq_getElem (show k < d.length by omega)]
  simp [Instr.index, asIntOf, run_underlying Tryz.underlying231, sizeOf, typeInfo, hi5, hs5, part, isAgg, run_underlying Tryz.underlying5, hkk]
  omega

theorem hex_succ (d : List UInt8) (k : Nat) (hk : k < d.length) : Sh.hex (d.take (k + 1)) = Sh.hex (d.take k) ++ [Sh.hexL.getD ((d.getD k 0).toNat / 16) 0] ++ [Sh.hexL.getD ((d.getD k 0).toNat % 16) 0] := by
  unfold Sh.hex
  rw [List.take_succ_eq_append_getElem hk, List.flatMap_append]
  simp [Sh.hex1, List.getD, List.getElem?_eq_getElem hk]

theorem hex_len (d : List UInt8) : (Sh.hex d).length = 2 * d.length := by
  induction d with
  | nil => rfl
  | cons a r ih => simp [Sh.hex, Sh.hex1] at *; omega

theorem Bd.new (w : World) : Bd w.heap.size [] none (w.alloc (.cells #[.pointer none, .slice none 0 0] 246)) :=
  ⟨⟨_, _, heap_alloc_new w _, .inl rfl, .inl ⟨rfl, rfl⟩, rfl, fun _ => rfl⟩, by simp⟩

theorem Bd.kept {b : Nat} {l : List UInt8} {g : Option Nat} {X : Nat → Prop} {w w' : World} (h : Bd b l g w) (hk : Kx X w w') (hb : ¬ X b) (hg : ∀ k, g = some k → ¬ X k) : Bd b l g w' := by
  obtain ⟨⟨p, v, h1, h2, h3, h4, h5⟩, h6⟩ := h
  exact ⟨⟨p, v, (hk.block b (Array.getElem?_eq_some_iff.1 h1).1 hb).trans h1, h2, h3.kept hk (fun k _ he => hg k (h4 ▸ he)), h4, h5⟩, h6⟩

theorem Bd.lt {b : Nat} {l : List UInt8} {g : Option Nat} {w : World} (h : Bd b l g w) : b < w.heap.size := by
  obtain ⟨⟨p, v, h1, _⟩, _⟩ := h
  exact (Array.getElem?_eq_some_iff.1 h1).1

theorem bd_new {w : World} {B : Nat} {g : Option Nat} (hB : w.heap.size + 1 = B) (hg : ∀ r, g = some r → B < r) : ∀ j, j < w.heap.size → BdX B g j → False := by
  intro j hj e
  rcases e with e | e
  · omega
  · have := hg j e.symm; omega

theorem bd_step {w w1 w2 : World} {B : Nat} {g g' : Option Nat} (hB : w.heap.size + 1 = B) (hl : B < w1.heap.size) (hg : ∀ r, g = some r → B < r) (hg' : g' = g ∨ ∃ k, g' = some k ∧ w1.heap.size ≤ k) (hk : Kx (fun _ => False) w w1) (hk2 : Kx (BdX B g) w1 w2) :
    (∀ r, g' = some r → B < r) ∧ Kx (fun _ => False) w w2 := by
  refine ⟨fun r hr => ?_, hk.join hk2 (bd_new hB hg)⟩
  rcases hg' with h | ⟨k, h, hkk⟩
  · exact hg r (h ▸ hr)
  · rw [h] at hr; have := Option.some.inj hr; omega

set_option maxHeartbeats 800000 in
set_option maxRecDepth 100000 in
theorem idOf_any (d : List UInt8) (hd : d.length = 32) (w : World) :
    Calls Tryz.prog 349 #[.agg (A8 d).toArray] w fun e w' => e = .returned (.string ⟨(Sh.hex d).toArray⟩) ∧ Kx (fun _ => False) w w' := by
  have hsz : (A8 d).toArray.size = 32 := by simp [A8_len, hd]
  have hi : (Tryz.prog.info? 231).map (·.size) = some (A8 d).toArray.size := by rw [hsz]; kernel_rfl
  have hix : ∀ (k : Nat) (w : World), k < 32 → Sem.run Tryz.prog (Instr.index 231 (.agg (A8 d).toArray) (.int .i64 (k : Int))) w = .ok (.int .u8 ((d.getD k 0).toNat : Int)) w := fun k w hk => index32 d hd k hk w
  have HIX : Hid (∀ (k : Nat) (w : World), k < 32 → Sem.run Tryz.prog (Instr.index 231 (.agg (A8 d).toArray) (.int .i64 (k : Int))) w = .ok (.int .u8 ((d.getD k 0).toNat : Int)) w) := hix
  clear hix
  have hB0 : Cb w.heap.size (A8 d).toArray 231 ((w.alloc (.cells (A8 d).toArray 231)).alloc (.cells #[.pointer none, .slice none 0 0] 246)) := (Cb.new _ 231 w).alloc _
  have hbd : Bd (w.heap.size + 1) [] none ((w.alloc (.cells (A8 d).toArray 231)).alloc (.cells #[.pointer none, .slice none 0 0] 246)) := by
    have h := Bd.new (w.alloc (.cells (A8 d).toArray 231))
    rw [World.size_alloc] at h
    exact h
  have hkx : Kx (fun _ => False) w ((w.alloc (.cells (A8 d).toArray 231)).alloc (.cells #[.pointer none, .slice none 0 0] 246)) := ((Kx.refl _ _).alloc _).alloc _
  obtain ⟨arr, harr⟩ : ∃ arr, (A8 d).toArray = arr := ⟨_, rfl⟩
  rw [harr] at hB0 hbd hkx hi HIX ⊢
  clear harr
  go_enter Tryz.func349, Tryz.ntmps349
  go_wp2_with (refine wpList_loadAll _ rfl 231 _ rfl rfl hB0 Tryz.underlying231 rfl hi ?_)
  revert hB0 hbd hkx
  generalize (w.alloc (.cells arr 231)).alloc (.cells #[.pointer none, .slice none 0 0] 246) = w1
  intro hkx hbd hB0
  obtain ⟨B, hB⟩ : ∃ B, w.heap.size + 1 = B := ⟨_, rfl⟩
  have HB : Hid (w.heap.size + 1 = B) := hB
  rw [hB] at hbd ⊢
  clear hB hB0
  go_loopw [7] (fun iv w' => ∃ (k : Nat) (g : Option Nat), iv = .int .i64 k ∧ k ≤ 32 ∧ Bd B (Sh.hex (d.take k)) g w' ∧ Kx (fun _ => False) w w' ∧ (∀ r, g = some r → B < r)) (fun iv _ => 32 - (intOf iv).toNat)
  case atStart => exact ⟨0, none, rfl, by omega, hbd, hkx, by simp⟩
  case round =>
    obtain ⟨k, g, rfl, hk32, hb, hkw, hgr⟩ := hrel
    by_cases hlt : k < 32
    · have hlt2 : (k : Int) < 32 := by omega
      have hS := hex_succ d k (by omega)
      have HS : Hid (Sh.hex (d.take (k + 1)) = Sh.hex (d.take k) ++ [Sh.hexL.getD ((d.getD k 0).toNat / 16) 0] ++ [Sh.hexL.getD ((d.getD k 0).toNat % 16) 0]) := hS
      clear hS
      have hixk := HIX.out k wr hlt
      have hlen : (Sh.hex (d.take k)).length ≤ 64 := by rw [hex_len, List.length_take]; omega
      have hc1 : ((d.getD k 0).toNat) < 256 := (d.getD k 0).toNat_lt
      generalize d.getD k 0 = c at *
      have hq1 : c.toNat / 16 < 16 := by omega
      have hq2 : c.toNat % 16 < 16 := by omega
      have HX1 := hexBA (c.toNat / 16) hq1
      have HX2 := hexBA (c.toNat % 16) hq2
      have HY1 : Hid (((⟨#[48, 49, 50, 51, 52, 53, 54, 55, 56, 57, 97, 98, 99, 100, 101, 102]⟩ : ByteArray)[c.toNat / 16]'hq1) = Sh.hexL.getD (c.toNat / 16) 0) := HX1
      have HY2 : Hid (((⟨#[48, 49, 50, 51, 52, 53, 54, 55, 56, 57, 97, 98, 99, 100, 101, 102]⟩ : ByteArray)[c.toNat % 16]'hq2) = Sh.hexL.getD (c.toNat % 16) 0) := HX2
      clear HX1 HX2
      generalize Sh.hexL.getD (c.toNat / 16) 0 = x1 at *
      generalize Sh.hexL.getD (c.toNat % 16) 0 = x2 at *
      go_wp2_with fail
      rw [HY1.out]
      refine (writeByte_any B _ x1 g _ hb (by omega)).mono ?_
      rintro _ w2 ⟨rfl, g2, hb2, hg2, hk2⟩
      have hBl := hb.lt
      obtain ⟨hgr2, hkw2⟩ := bd_step HB.out hBl hgr hg2 hkw hk2
      go_wp2_with fail
      rw [HY2.out]
      refine (writeByte_any B _ x2 g2 _ hb2 (by simp; omega)).mono ?_
      rintro _ w3 ⟨rfl, g3, hb3, hg3, hk3⟩
      obtain ⟨hgr3, hkw3⟩ := bd_step HB.out hb2.lt hgr2 hg3 hkw2 hk3
      go_wp2
      go_roundw
      case rel => exact ⟨k + 1, g3, by go_num, by omega, by rw [HS.out]; exact hb3, hkw3, hgr3⟩
      case measure => simp [intOf]; omega
    · obtain rfl : k = 32 := by omega
      have hlt2 : ¬ ((32 : Nat) : Int) < 32 := by omega
      have ht : d.take 32 = d := List.take_of_length_le (by omega)
      rw [ht] at hb
      go_wp2_with fail
      refine (string_any B _ g _ hb).mono ?_
      rintro _ w2 ⟨rfl, hk2⟩
      have hkw2 := hkw.join hk2 (bd_new HB.out hgr)
      go_wp2
      go_ret
      exact ⟨rfl, hkw2⟩

def Sh.rotr (x : Int) (n : Nat) : Int := bits .or .u32 (x * 2 ^ (32 - n) % 4294967296) (x / 2 ^ n)

set_option maxHeartbeats 400000 in
theorem rotate_any (x : Int) (k : Int) (n : Nat) (hn : 0 < n ∧ n < 32) (hk : bits .and .u64 (IntKind.u64.wrap k) 31 = ((32 - n : Nat) : Int)) (w : World) :
    Calls Tryz.prog 304 #[.int .u32 x, .int .i64 k] w fun e w' => e = .returned (.int .u32 (Sh.rotr x n)) ∧ w' = w := by
  have h0 : (0 : Int) ≤ ((32 - n : Nat) : Int) := by omega
  have h1 : IntKind.u64.wrap (32 - ((32 - n : Nat) : Int)) = (n : Int) := by rw [IntKind.wrap_u64]; omega
  have HR : Hid (Sh.rotr x n = bits .or .u32 (x * 2 ^ (32 - n) % 4294967296) (x / 2 ^ n)) := rfl
  have m1 : min (32 - n) 32 = 32 - n := by omega
  have m2 : min n 32 = n := by omega
  go_enter Tryz.func304, Tryz.ntmps304
  go_wp2
  go_ret
  refine ⟨?_, rfl⟩
  rw [HR.out]
  rfl

set_option maxHeartbeats 400000 in
theorem turned_any (x : Int) (n : Nat) (i : Int) (hi : (n : Int) = i) (hn : 0 < n ∧ n < 32) (w : World) :
    Calls Tryz.prog 243 #[.int .u32 x, .int .i64 i] w fun e w' => e = .returned (.int .u32 (Sh.rotr x n)) ∧ w' = w := by
  subst hi
  have hk : bits .and .u64 (IntKind.u64.wrap (-(n : Int))) 31 = ((32 - n : Nat) : Int) := by
    have h : ∀ k : Fin 32, 0 < k.val → bits .and .u64 (IntKind.u64.wrap (-(k.val : Int))) 31 = ((32 - k.val : Nat) : Int) := by decide +kernel
    exact h ⟨n, hn.2⟩ hn.1
  have hw : IntKind.i64.wrap (-(n : Int)) = -(n : Int) := by rw [IntKind.wrap_i64]; omega
  go_enter Tryz.func243, Tryz.ntmps243
  go_wp2_with (go_at_call 304; refine (rotate_any x (-(n : Int)) n hn hk _).mono ?_; rintro e w' ⟨rfl, rfl⟩)
  go_ret
  exact ⟨rfl, rfl⟩

end Go.Proofs.YtepgoppgblfjbaaGreatDoor
