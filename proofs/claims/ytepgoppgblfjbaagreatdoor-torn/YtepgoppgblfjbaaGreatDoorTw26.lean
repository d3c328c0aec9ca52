import Derived.Test.YtepgoppgblfjbaaGreatDoorTw25
import Derived.Test.YtepgoppgblfjbaaGreatDoorTw04
import Derived.Test.YtepgoppgblfjbaaGreatDoorTw09
import Derived.Test.YtepgoppgblfjbaaGreatDoorTw17
import Derived.Test.YtepgoppgblfjbaaGreatDoorTw16
import Derived.Test.YtepgoppgblfjbaaGreatDoorTw12
/- slices.Sorted(maps.Keys(m)). -/
namespace Go.Proofs.YtepgoppgblfjbaaGreatDoor
open Go.RowKit Go.Maps Go.Sort Go.Shelf Go.Proofs

theorem sorts87 (m : Nat) : AnyZ.SortsIn Tryz.prog Tryz.sorted87_ren Fence.wide m :=
  ⟨fun blk off cap ss W hH hblk hsz => callsIn_wide.2 (AnyM.slices_Sort_string Tryz.sort132 blk off cap ss W hH hblk hsz),
   fun p cap W => callsIn_wide.2 (AnyM.slices_Sort_string_none Tryz.sort132 p cap W)⟩

/-- A row of texts of one's own. -/
def strsV (l : List (List UInt8)) : List Value := l.map fun k => .string ⟨k.toArray⟩

theorem keys88_any (b : Nat) (W : World) : Calls Tryz.prog 88 #[.map (some b)] W fun e w' => e = .returned (.func (.func 133) #[] #[.pointer (some ⟨W.heap.size, 0, none⟩)]) ∧ w' = W.alloc (.cells #[.map (some b)] 147) :=
  callsIn_wide.1 (AnyZ.keys_in Tryz.keys88 Fence.wide 5 trivial rfl (some b) W)

set_option maxHeartbeats 1000000 in
theorem sorted88_any {b n : Nat} {f : List UInt8 → Option Value} {w : World} (h : MapS Tryz.prog 9 w b n f) (hn : n ≤ 1000000000000) :
    Calls Tryz.prog 87 #[.func (.func 133) #[] #[.pointer (some ⟨w.heap.size, 0, none⟩)]] (w.alloc (.cells #[.map (some b)] 147)) fun e w' => ∃ v ks, e = .returned v ∧ KeyL f ks ∧ ks.length ≤ n ∧ w'.ownsRow (w.heap.size + 1) 9 1 v ks.length (strsV ks) ∧ Kx (fun _ => False) w w' := by
  obtain ⟨D, hown, ha⟩ := h
  have hbl := hown.lt
  have hsz := hown.size_le
  have hseq : SeqGives Fence.wide 2 Tryz.prog 133 #[.pointer (some ⟨w.heap.size, 0, none⟩)] encStr (fun ss => ss.Perm (strKeys D)) (Maps.size D) (w.alloc (.cells #[.map (some b)] 147)) :=
    AnyZ.keys_gives (ρ := Tryz.keys88_ren) { Tryz.keys88 with } Fence.wide _ trivial rfl (by omega) w.heap.size b n D _ (by simp) (by simp) (by
      obtain ⟨es, clock, hb, Ft, hs, hD⟩ := hown
      exact ⟨es, clock, (Below.heap_alloc _ _ b hbl).trans hb, Ft, hs, hD⟩)
  have hc := AnyZ.sorted_in Tryz.sorted87 Fence.wide 5 trivial trivial trivial trivial rfl (by omega) (sorts87 _) (enters_of Tryz.func132 (by kernel_rfl) rfl) 133 #[.pointer (some ⟨w.heap.size, 0, none⟩)] trivial (enters_of Tryz.func133 (by kernel_rfl) rfl) _ _ (by unfold maxLen; omega) (by omega) _ hseq
  refine (callsIn_wide.1 hc).mono ?_
  rintro _ w' ⟨v, ss, rfl, hp, hrow, _, hb⟩
  obtain ⟨hk, hl, hle⟩ := keyL_of hown (by kernel_rfl) ha hp
  refine ⟨v, _, rfl, hk, by omega, ?_, ((Kx.refl _ _).alloc _).trans (Kx.of_below hb)⟩
  rw [hl]
  rw [World.size_alloc] at hrow
  exact hrow

theorem keys89_any (b : Nat) (W : World) : Calls Tryz.prog 89 #[.map (some b)] W fun e w' => e = .returned (.func (.func 134) #[] #[.pointer (some ⟨W.heap.size, 0, none⟩)]) ∧ w' = W.alloc (.cells #[.map (some b)] 148) :=
  callsIn_wide.1 (AnyZ.keys_in Tryz.keys89 Fence.wide 5 trivial rfl (some b) W)

set_option maxHeartbeats 1000000 in
theorem sorted89_any {b n : Nat} {f : List UInt8 → Option Value} {w : World} (h : MapS Tryz.prog 9 w b n f) (hn : n ≤ 1000000000000) :
    Calls Tryz.prog 87 #[.func (.func 134) #[] #[.pointer (some ⟨w.heap.size, 0, none⟩)]] (w.alloc (.cells #[.map (some b)] 148)) fun e w' => ∃ v ks, e = .returned v ∧ KeyL f ks ∧ ks.length ≤ n ∧ w'.ownsRow (w.heap.size + 1) 9 1 v ks.length (strsV ks) ∧ Kx (fun _ => False) w w' := by
  obtain ⟨D, hown, ha⟩ := h
  have hbl := hown.lt
  have hsz := hown.size_le
  have hseq : SeqGives Fence.wide 2 Tryz.prog 134 #[.pointer (some ⟨w.heap.size, 0, none⟩)] encStr (fun ss => ss.Perm (strKeys D)) (Maps.size D) (w.alloc (.cells #[.map (some b)] 148)) :=
    AnyZ.keys_gives (ρ := Tryz.keys89_ren) { Tryz.keys89 with } Fence.wide _ trivial rfl (by omega) w.heap.size b n D _ (by simp) (by simp) (by
      obtain ⟨es, clock, hb, Ft, hs, hD⟩ := hown
      exact ⟨es, clock, (Below.heap_alloc _ _ b hbl).trans hb, Ft, hs, hD⟩)
  have hc := AnyZ.sorted_in Tryz.sorted87 Fence.wide 5 trivial trivial trivial trivial rfl (by omega) (sorts87 _) (enters_of Tryz.func132 (by kernel_rfl) rfl) 134 #[.pointer (some ⟨w.heap.size, 0, none⟩)] trivial (enters_of Tryz.func134 (by kernel_rfl) rfl) _ _ (by unfold maxLen; omega) (by omega) _ hseq
  refine (callsIn_wide.1 hc).mono ?_
  rintro _ w' ⟨v, ss, rfl, hp, hrow, _, hb⟩
  obtain ⟨hk, hl, hle⟩ := keyL_of hown (by kernel_rfl) ha hp
  refine ⟨v, _, rfl, hk, by omega, ?_, ((Kx.refl _ _).alloc _).trans (Kx.of_below hb)⟩
  rw [hl]
  rw [World.size_alloc] at hrow
  exact hrow

theorem keys91_any (b : Nat) (W : World) : Calls Tryz.prog 91 #[.map (some b)] W fun e w' => e = .returned (.func (.func 135) #[] #[.pointer (some ⟨W.heap.size, 0, none⟩)]) ∧ w' = W.alloc (.cells #[.map (some b)] 146) :=
  callsIn_wide.1 (AnyZ.keys_in Tryz.keys91 Fence.wide 5 trivial rfl (some b) W)

set_option maxHeartbeats 1000000 in
theorem sorted91_any {b n : Nat} {f : List UInt8 → Option Value} {w : World} (h : MapS Tryz.prog 9 w b n f) (hn : n ≤ 1000000000000) :
    Calls Tryz.prog 87 #[.func (.func 135) #[] #[.pointer (some ⟨w.heap.size, 0, none⟩)]] (w.alloc (.cells #[.map (some b)] 146)) fun e w' => ∃ v ks, e = .returned v ∧ KeyL f ks ∧ ks.length ≤ n ∧ w'.ownsRow (w.heap.size + 1) 9 1 v ks.length (strsV ks) ∧ Kx (fun _ => False) w w' := by
  obtain ⟨D, hown, ha⟩ := h
  have hbl := hown.lt
  have hsz := hown.size_le
  have hseq : SeqGives Fence.wide 2 Tryz.prog 135 #[.pointer (some ⟨w.heap.size, 0, none⟩)] encStr (fun ss => ss.Perm (strKeys D)) (Maps.size D) (w.alloc (.cells #[.map (some b)] 146)) :=
    AnyZ.keys_gives (ρ := Tryz.keys91_ren) { Tryz.keys91 with } Fence.wide _ trivial rfl (by omega) w.heap.size b n D _ (by simp) (by simp) (by
      obtain ⟨es, clock, hb, Ft, hs, hD⟩ := hown
      exact ⟨es, clock, (Below.heap_alloc _ _ b hbl).trans hb, Ft, hs, hD⟩)
  have hc := AnyZ.sorted_in Tryz.sorted87 Fence.wide 5 trivial trivial trivial trivial rfl (by omega) (sorts87 _) (enters_of Tryz.func132 (by kernel_rfl) rfl) 135 #[.pointer (some ⟨w.heap.size, 0, none⟩)] trivial (enters_of Tryz.func135 (by kernel_rfl) rfl) _ _ (by unfold maxLen; omega) (by omega) _ hseq
  refine (callsIn_wide.1 hc).mono ?_
  rintro _ w' ⟨v, ss, rfl, hp, hrow, _, hb⟩
  obtain ⟨hk, hl, hle⟩ := keyL_of hown (by kernel_rfl) ha hp
  refine ⟨v, _, rfl, hk, by omega, ?_, ((Kx.refl _ _).alloc _).trans (Kx.of_below hb)⟩
  rw [hl]
  rw [World.size_alloc] at hrow
  exact hrow

end Go.Proofs.YtepgoppgblfjbaaGreatDoor

/- What a store tells: Refs, Ids. -/
namespace Go.Proofs.YtepgoppgblfjbaaGreatDoor
open Go.RowKit

/-- The id that a name leads to. -/
def idAt (g : List UInt8 → Option Com) (k : List UInt8) : List UInt8 := ((g k).map fun c => Sh.hex c.sum).getD []

def refC (g : List UInt8 → Option Com) (k : List UInt8) : List Value := [.string ⟨k.toArray⟩, .string ⟨(idAt g k).toArray⟩]
def refsV (g : List UInt8 → Option Com) (ks : List (List UInt8)) : List Value := ks.flatMap (refC g)

theorem refsV_succ (g : List UInt8 → Option Com) (l : List (List UInt8)) (k : Nat) (h : k < l.length) : refsV g (l.take (k + 1)) = refsV g (l.take k) ++ refC g l[k] := flat_succ _ _ _ h

theorem ComF.some {M : Nat → Prop} {w : World} {f : List UInt8 → Option Value} {g : List UInt8 → Option Com} (h : ComF M w f g) (k : List UInt8) : (f k).isSome = (g k).isSome := by
  cases hg : g k with
  | none => rw [(h k).1 hg]; rfl
  | some c =>
    obtain ⟨b, hb, _⟩ := (h k).2 c hg
    rw [hb]
    rfl

theorem KeyL.cast {β γ : Type} {f : List UInt8 → Option β} {g : List UInt8 → Option γ} {l : List (List UInt8)} (h : KeyL f l) (hfg : ∀ k, (f k).isSome = (g k).isSome) : KeyL g l := ⟨h.sorted, fun k => by rw [h.mem, hfg]⟩

theorem info46 : (Tryz.prog.info? 46).map (fun i => (i.zero, i.size, i.bytes)) = some (some (.agg #[.string ⟨#[]⟩, .string ⟨#[]⟩]), 2, 32) := by kernel_rfl

theorem row_cell {w : World} {base : Nat} {e : TypeId} {v : Value} {l : List (List UInt8)} (h : w.ownsRow base e 1 v l.length (strsV l)) (k : Nat) (hk : k < l.length) : ∃ g cap, v = .slice (some ⟨g, 0, none⟩) l.length cap ∧ w.cell? ⟨g, k, none⟩ = some (.string ⟨l[k].toArray⟩) := by
  rcases h.2 with ⟨_, h0⟩ | ⟨g, cap, cur, rfl, hb, hg, hc, hm, hs, ht⟩
  · omega
  · refine ⟨g, cap, rfl, ?_⟩
    unfold World.cell?
    rw [hg]
    have hx : (strsV l)[k]? = some (.string ⟨l[k].toArray⟩) := by simp [strsV, hk]
    rw [← ht, List.getElem?_take_of_lt (by omega)] at hx
    simpa using hx

set_option maxHeartbeats 1600000 in
set_option maxRecDepth 100000 in
theorem hrefs_any {M : Nat → Prop} {w : World} {h o c r t n : Nat} {S : St} (hs : Sto M w h o c r t n S) (hn : n ≤ 1000000000) :
    Calls Tryz.prog 53 #[.pointer (some ⟨h, 0, none⟩)] w fun e w' => ∃ v ks, e = .returned v ∧ KeyL S.ref ks ∧ ks.length ≤ n ∧ w'.ownsRow w.heap.size 46 2 v ks.length (refsV S.ref ks) ∧ Kx (fun _ => False) w w' := by
  obtain ⟨i0, hi0, hz0, hz1, hz2⟩ := info_parts info46
  obtain ⟨f, hf, hF⟩ := hs.ref
  have c2 : w.cell? ⟨h, 2, none⟩ = some (.map (some r)) := Cb.cell hs.hi 2
  have hmx : maxLen = 9223372036854775807 := rfl
  have hhl := hs.hi.lt
  have hHi := hs.hi
  go_enter Tryz.func53, Tryz.ntmps53
  go_wp2_with fail
  refine (keys88_any r w).mono ?_
  rintro _ _ ⟨rfl, rfl⟩
  go_wp2_with fail
  refine (sorted88_any hf (by omega)).mono ?_
  rintro _ w2 ⟨v, ks, rfl, hKL, hkl, hrow, hk2⟩
  have hKR := hKL.cast hF.some
  obtain ⟨av, cv, hav⟩ : ∃ a c, v = .slice a ks.length c := by
    rcases hrow.2 with ⟨h1, h2⟩ | ⟨g, cap, cur, h1, _⟩
    · exact ⟨none, 0, by rw [h1, h2]⟩
    · exact ⟨_, _, h1⟩
  subst hav
  clear c2
  go_wp2
  go_loopw [13, 3] (fun iv v wr => ∃ (k : Nat), iv = .int .i64 k ∧ k ≤ ks.length ∧ Kx (fun _ => False) w2 wr ∧ wr.ownsRow w2.heap.size 46 2 v k (refsV S.ref (ks.take k))) (fun iv _ _ => ks.length - (intOf iv).toNat)
  case atStart => exact ⟨0, rfl, by omega, Kx.refl _ _, World.ownsRow_nil _ _ _ _⟩
  case round =>
    obtain ⟨k, rfl, hk, hkx, hown⟩ := hrel
    have hk0 := hk2.trans hkx
    by_cases hlt : k < ks.length
    · have hlt2 : (k : Int) < (ks.length : Int) := by omega
      obtain ⟨g, cap, he, hck⟩ := row_cell (own_kept' hrow hkx (fun _ _ _ => id)) k hlt
      cases he
      have HL : Hid (refsV S.ref (ks.take (k + 1)) = refsV S.ref (ks.take k) ++ refC S.ref ks[k]) := refsV_succ S.ref ks k hlt
      have hmem := (hKR.mem ks[k]).1 (List.getElem_mem hlt)
      obtain ⟨cm, hcm⟩ := Option.isSome_iff_exists.1 hmem
      obtain ⟨b, hb, hC⟩ := (hF ks[k]).2 cm hcm
      have HI : Hid (refC S.ref ks[k] = [.string ⟨ks[k].toArray⟩, .string ⟨(Sh.hex cm.sum).toArray⟩]) := by
        show _ = _
        unfold refC idAt
        rw [hcm]
        rfl
      have hidc := (hk0.cell (p := ⟨b, 2, none⟩) (lt_of_cell (p := ⟨b, 2, none⟩) hC.id) id).trans hC.id
      have hfr := hf.kept hk0 id
      have c2 : wr.cell? ⟨h, 2, none⟩ = some (.map (some r)) := Cb.cell (hHi.kept hk0 id) 2
      have hlen : ks[k].length ≤ maxLen := hf.keyLen (by kernel_rfl) hb
      clear hcm hmem
      unfold ptrV at hb
      generalize ks[k] = nm at *
      generalize Sh.hex cm.sum = idd at *
      have hgv : (f nm).getD (.pointer none) = .pointer (some ⟨b, 0, none⟩) := by rw [hb]; rfl
      go_wp2_with (first | refine wpList_lookS rfl _ _ 147 rfl 101 (by kernel_rfl) (by kernel_rfl) (.pointer none) (by kernel_rfl) r n f rfl hfr nm rfl hlen ?_ | (at_builtin; refine wpList_append_own _ rfl (.tmp 17) (.tmp 30) 41 rfl w2.heap.size 46 i0 _ 2 32 Tryz.underlying41 hi0 hz0 hz1 hz2 rfl (by decide) _ k (refsV S.ref (ks.take k)) rfl (hown.alloc _) ⟨wr.heap.size, 0, none⟩ 1 1 [.string ⟨nm.toArray⟩, .string ⟨idd.toArray⟩] rfl rfl ?c1 ?c2 ?c3 ?c4 ?c5 ?_))
      case c1 => exact cells_new wr [.string ⟨nm.toArray⟩, .string ⟨idd.toArray⟩] 46
      case c2 => simp [Value.oneCell']
      case c3 => unfold maxLen; omega
      case c4 => omega
      case c5 => have := hkx.size; simp; omega
      intro v4 w4 hown4 hgrow4 _
      have hk4 : Kx (fun _ => False) w2 w4 := (hkx.alloc _).grown hgrow4 (fun k he => (hown.lt k he).1)
      have hown5 : w4.ownsRow w2.heap.size 46 2 v4 (k + 1) (refsV S.ref (ks.take (k + 1))) := by rw [HL.out, HI.out]; exact hown4
      clear hown4 hgrow4
      go_wp2
      go_roundw
      case rel => exact ⟨k + 1, by go_num, hlt, hk4, hown5⟩
      case measure => simp [intOf]; omega
    · obtain rfl : k = ks.length := by omega
      have hlt2 : ¬ (ks.length : Int) < (ks.length : Int) := by omega
      rw [List.take_of_length_le (Nat.le_refl _)] at hown
      go_wp2
      go_ret
      exact ⟨_, rfl, ks, hKR, hkl, own_mono hown hk2.size, hk0⟩

theorem refs_any' {M : Nat → Prop} {w : World} {s h o c r t n : Nat} {S : St} {j : List UInt8} {vj : Value} (hs : Str M w s h o c r t n S j vj) (hn : n ≤ 1000000000) :
    Calls Tryz.prog 26 #[.pointer (some ⟨s, 0, none⟩)] w fun e w' => ∃ v ks, e = .returned v ∧ KeyL S.ref ks ∧ ks.length ≤ n ∧ w'.ownsRow w.heap.size 46 2 v ks.length (refsV S.ref ks) ∧ Kx (fun _ => False) w w' := by
  have c0 : w.cell? ⟨s, 0, none⟩ = some (.pointer (some ⟨h, 0, none⟩)) := Cb.cell hs.jr.blk 0
  have hc := hrefs_any hs.sto hn
  go_enter Tryz.func26, Tryz.ntmps26
  go_wp2_with fail
  refine hc.mono ?_
  rintro _ w2 ⟨v, ks, rfl, h1, h2, h3, h4⟩
  clear hc
  go_wp2
  go_ret
  exact ⟨v, ks, rfl, h1, h2, h3, h4⟩

theorem hids_any {M : Nat → Prop} {w : World} {h o c r t n : Nat} {S : St} (hs : Sto M w h o c r t n S) (hn : n ≤ 1000000000) :
    Calls Tryz.prog 59 #[.pointer (some ⟨h, 0, none⟩)] w fun e w' => ∃ v ks, e = .returned v ∧ KeyL S.obj ks ∧ ks.length ≤ n ∧ w'.ownsRow (w.heap.size + 1) 9 1 v ks.length (strsV ks) ∧ Kx (fun _ => False) w w' := by
  have c2 : w.cell? ⟨h, 0, none⟩ = some (.map (some o)) := Cb.cell hs.hi 0
  have hc := sorted91_any hs.obj (by omega)
  go_enter Tryz.func59, Tryz.ntmps59
  go_wp2_with fail
  refine (keys91_any o w).mono ?_
  rintro _ _ ⟨rfl, rfl⟩
  go_wp2_with fail
  refine hc.mono ?_
  rintro _ w2 ⟨v, ks, rfl, hKL, hkl, hrow, hk2⟩
  clear hc c2
  go_wp2
  go_ret
  exact ⟨v, ks, rfl, hKL.cast (fun k => by unfold objF; cases S.obj k <;> rfl), hkl, hrow, hk2⟩

theorem ids_any {M : Nat → Prop} {w : World} {s h o c r t n : Nat} {S : St} {j : List UInt8} {vj : Value} (hs : Str M w s h o c r t n S j vj) (hn : n ≤ 1000000000) :
    Calls Tryz.prog 34 #[.pointer (some ⟨s, 0, none⟩)] w fun e w' => ∃ v ks, e = .returned v ∧ KeyL S.obj ks ∧ ks.length ≤ n ∧ w'.ownsRow (w.heap.size + 1) 9 1 v ks.length (strsV ks) ∧ Kx (fun _ => False) w w' := by
  have c0 : w.cell? ⟨s, 0, none⟩ = some (.pointer (some ⟨h, 0, none⟩)) := Cb.cell hs.jr.blk 0
  have hc := hids_any hs.sto hn
  go_enter Tryz.func34, Tryz.ntmps34
  go_wp2_with fail
  refine hc.mono ?_
  rintro _ w2 ⟨v, ks, rfl, h1, h2, h3, h4⟩
  clear hc
  go_wp2
  go_ret
  exact ⟨v, ks, rfl, h1, h2, h3, h4⟩

end Go.Proofs.YtepgoppgblfjbaaGreatDoor

/- The example's import, worked out. -/
namespace Go.Proofs.YtepgoppgblfjbaaGreatDoor
open Go.RowKit

def KL : List Int := [0x6a09e667, 0xbb67ae85, 0x3c6ef372, 0xa54ff53a, 0x510e527f, 0x9b05688c, 0x1f83d9ab, 0x5be0cd19,
    0x428a2f98, 0x71374491, 0xb5c0fbcf, 0xe9b5dba5, 0x3956c25b, 0x59f111f1, 0x923f82a4, 0xab1c5ed5,
    0xd807aa98, 0x12835b01, 0x243185be, 0x550c7dc3, 0x72be5d74, 0x80deb1fe, 0x9bdc06a7, 0xc19bf174,
    0xe49b69c1, 0xefbe4786, 0x0fc19dc6, 0x240ca1cc, 0x2de92c6f, 0x4a7484aa, 0x5cb0a9dc, 0x76f988da,
    0x983e5152, 0xa831c66d, 0xb00327c8, 0xbf597fc7, 0xc6e00bf3, 0xd5a79147, 0x06ca6351, 0x14292967,
    0x27b70a85, 0x2e1b2138, 0x4d2c6dfc, 0x53380d13, 0x650a7354, 0x766a0abb, 0x81c2c92e, 0x92722c85,
    0xa2bfe8a1, 0xa81a664b, 0xc24b8b70, 0xc76c51a3, 0xd192e819, 0xd6990624, 0xf40e3585, 0x106aa070,
    0x19a4c116, 0x1e376c08, 0x2748774c, 0x34b0bcb5, 0x391c0cb3, 0x4ed8aa4a, 0x5b9cca4f, 0x682e6ff3,
    0x748f82ee, 0x78a5636f, 0x84c87814, 0x8cc70208, 0x90befffa, 0xa4506ceb, 0xbef9a3f7, 0xc67178f2]
theorem K_KL : Sh.K = KL := K_eq

namespace Ex
def L1 : List UInt8 := [164, 225, 63, 125, 253, 131, 69, 234, 229, 80, 18, 81, 19, 185, 217, 188, 212, 176, 247, 129, 3, 124, 2, 175, 177, 51, 253, 152, 245, 249, 115, 174]
def C2 : List UInt8 := [49, 48, 48, 54, 52, 52, 32, 102, 0, 164, 225, 63, 125, 253, 131, 69, 234, 229, 80, 18, 81, 19, 185, 217, 188, 212, 176, 247, 129, 3, 124, 2, 175, 177, 51, 253, 152, 245, 249, 115, 174]
def L2 : List UInt8 := [205, 34, 222, 159, 200, 251, 104, 110, 89, 132, 62, 38, 113, 146, 148, 119, 150, 179, 7, 137, 248, 181, 130, 143, 130, 223, 14, 176, 146, 18, 253, 75]
def C3 : List UInt8 := [52, 48, 48, 48, 48, 32, 100, 0, 205, 34, 222, 159, 200, 251, 104, 110, 89, 132, 62, 38, 113, 146, 148, 119, 150, 179, 7, 137, 248, 181, 130, 143, 130, 223, 14, 176, 146, 18, 253, 75]
def L3 : List UInt8 := [82, 87, 231, 6, 214, 108, 88, 67, 194, 76, 146, 148, 105, 41, 55, 135, 104, 5, 88, 134, 79, 78, 135, 239, 149, 177, 211, 161, 199, 247, 140, 166]
def au : Au := ⟨[65, 32, 66], [97, 64, 98], 7⟩
set_option maxRecDepth 100000 in
theorem sum1 : Pd.sum KL 1 [104, 105] = L1 := by kernel_rfl
set_option maxRecDepth 100000 in
theorem sum2 : Pd.sum KL 2 C2 = L2 := by kernel_rfl
set_option maxRecDepth 100000 in
theorem sum3 : Pd.sum KL 2 C3 = L3 := by kernel_rfl

def C4 : List UInt8 := [116, 114, 101, 101, 32, 53, 50, 53, 55, 101, 55, 48, 54, 100, 54, 54, 99, 53, 56, 52, 51, 99, 50, 52, 99, 57, 50, 57, 52, 54, 57, 50, 57, 51, 55, 56, 55, 54, 56, 48, 53, 53, 56, 56, 54, 52, 102, 52, 101, 56, 55, 101, 102, 57, 53, 98, 49, 100, 51, 97, 49, 99, 55, 102, 55, 56, 99, 97, 54, 10, 97, 117, 116, 104, 111, 114, 32, 65, 32, 66, 32, 60, 97, 64, 98, 62, 32, 55, 10, 10, 120]
def L4 : List UInt8 := [154, 227, 239, 167, 245, 141, 192, 210, 136, 223, 109, 247, 89, 205, 205, 51, 196, 132, 75, 136, 14, 225, 57, 194, 1, 85, 129, 5, 5, 241, 171, 55]
set_option maxRecDepth 100000 in
theorem sum4 : Pd.sum KL 3 C4 = L4 := by kernel_rfl
def f : Fi := ⟨[100, 47, 102], Pu.s644, L1⟩
def com : Com := ⟨L4, [f]⟩
def co1 : Pu.Co := ⟨Pu.sBlob, [], 1, ⟨[], [], 0⟩, [104, 105], ⟨0, []⟩, [], []⟩
def co2 : Pu.Co := ⟨Pu.sCommit, Pu.sMain, 2, au, [120], ⟨0, []⟩, [], [⟨[77], Pu.s644, 1, [], [100, 47, 102], []⟩]⟩
set_option maxRecDepth 100000 in
theorem cos_ok : Pu.cosB (Pu.commands exampleL) [co1, co2] = true := by kernel_rfl
theorem cos : Pu.commands exampleL = [co1, co2] := Pu.cosB_eq cos_ok

def obj : List UInt8 → Option (Nat × List UInt8) := upd (upd (upd (upd St.empty.obj (Sh.hex L1) (some (1, [104, 105]))) (Sh.hex L3) (some (2, C3))) (Sh.hex L2) (some (2, C2))) (Sh.hex L4) (some (3, C4))
def st : St := ⟨obj, upd St.empty.com (Sh.hex L4) (some com), upd St.empty.ref Pu.sMain (some com), St.empty.tag⟩

set_option maxRecDepth 100000 in
theorem tree : Pf.tree KL [f] = (C3, .cons (.mk C2 .nil) .nil) := by kernel_rfl
def w1 : Wk := { Pd.addObj KL 1 [104, 105] ⟨St.empty, fun _ => none⟩ with ms := upd (fun _ => none) 1 (some (.blob L1)) }
theorem one1 : Pd.one KL ⟨St.empty, fun _ => none⟩ co1 = (0, w1) := by
  unfold w1
  rw [← sum1]
  rfl
set_option maxRecDepth 100000 in
theorem ch2 : Pd.changes KL w1 [] co2.changes = (0, w1, [f]) := by kernel_rfl
theorem one2 : ∃ W, Pd.one KL w1 co2 = (0, W) ∧ W.st = st := by
  have h1 : Pd.one KL w1 co2 = Pd.commit KL w1 co2 := rfl
  have hp : Pd.parents w1 co2 = some ([], []) := rfl
  have hs : Pd.isSet w1 co2.mark = false := rfl
  rw [h1]
  unfold Pd.commit
  rw [hs, hp]
  simp only [Bool.false_eq_true, if_false, ch2, if_true]
  refine ⟨_, rfl, ?_⟩
  unfold Pd.commitOf
  have hC : Pd.comText L3 [] co2.au co2.data = C4 := by kernel_rfl
  simp only [tree, sum3, hC, sum4]
  have i1 : Sh.idK KL 1 [104, 105] = Sh.hex L1 := congrArg Sh.hex sum1
  have i2 : Sh.idK KL 2 C2 = Sh.hex L2 := congrArg Sh.hex sum2
  have i3 : Sh.idK KL 2 C3 = Sh.hex L3 := congrArg Sh.hex sum3
  have i4 : Sh.idK KL 3 C4 = Sh.hex L4 := congrArg Sh.hex sum4
  simp only [Pd.addTr, Pd.addTrs, Pd.add, i2, i3, i4, w1, Pd.addObj, i1]
  rfl
theorem imp : Pd.imp Sh.K St.empty exampleL = ((2, 0), st) := by
  obtain ⟨W, h1, h2⟩ := one2
  rw [K_KL]
  unfold Pd.imp
  rw [example_check, cos]
  have ha : Pd.all KL ⟨St.empty, fun _ => none⟩ [co1, co2] 0 = ((2, 0), W) := by simp [Pd.all, one1, h1]
  rw [ha]
  simp only [if_true, h2]

set_option maxRecDepth 100000 in
theorem ids_nodup : [Sh.hex L1, Sh.hex L2, Sh.hex L3, Sh.hex L4].Nodup := by decide +kernel
theorem ids_len {ks : List (List UInt8)} (h : KeyL st.obj ks) : ks.length = 4 := by
  have hn : ks.Nodup := h.sorted.imp (fun h e => by subst e; exact List.lt_irrefl _ h)
  have hm : ∀ k, k ∈ ks ↔ k ∈ [Sh.hex L1, Sh.hex L2, Sh.hex L3, Sh.hex L4] := fun k => by
    rw [h.mem]
    simp only [List.mem_cons, List.not_mem_nil, or_false]
    show (obj k).isSome = true ↔ _
    simp only [obj, upd, St.empty]
    constructor
    · intro e
      split at e
      · simp_all
      · split at e
        · simp_all
        · split at e
          · simp_all
          · split at e
            · simp_all
            · cases e
    · intro e
      split
      · rfl
      · split
        · rfl
        · split
          · rfl
          · split
            · rfl
            · simp_all
  exact ((List.perm_ext_iff_of_nodup hn ids_nodup).2 hm).length_eq
theorem refs {ks : List (List UInt8)} {S : St} (hS : ∀ k, (S.ref k).isSome = true ↔ k = Pu.sMain) (h : KeyL S.ref ks) : ks = [Pu.sMain] := by
  have hn : ks.Nodup := h.sorted.imp (fun h e => by subst e; exact List.lt_irrefl _ h)
  have hm : ∀ k, k ∈ ks ↔ k ∈ [Pu.sMain] := fun k => by
    rw [h.mem, hS, List.mem_singleton]
  exact List.perm_singleton.1 ((List.perm_ext_iff_of_nodup hn (by simp)).2 hm)
theorem st_ref (k : List UInt8) : (st.ref k).isSome = true ↔ k = Pu.sMain := by
  show (upd St.empty.ref Pu.sMain (some com) k).isSome = true ↔ _
  unfold upd
  split
  · simp_all
  · simp_all [St.empty]
theorem st_com : st.com (Sh.hex L4) = some com := by
  show upd St.empty.com (Sh.hex L4) (some com) (Sh.hex L4) = _
  simp [upd]
theorem st_id : idAt st.ref Pu.sMain = Sh.hex L4 := by
  show idAt (upd St.empty.ref Pu.sMain (some com)) Pu.sMain = _
  simp [idAt, upd, com]

theorem cos_fine : StrOk exampleL := by
  refine ⟨fun _ => by decide, fun _ => ?_, fun _ => ?_⟩
  · rw [cos]; decide
  · rw [cos]
    intro c hc
    simp only [List.mem_cons, List.not_mem_nil, or_false] at hc
    rcases hc with rfl | rfl
    · exact ⟨by decide, by decide, by decide, by decide, by decide, by decide, ⟨by decide, by decide⟩, ⟨by decide, fun x hx => by cases hx⟩, ⟨by decide, fun x hx => by cases hx⟩⟩
    · refine ⟨by decide, by decide, by decide, by decide, by decide, by decide, ⟨by decide, by decide⟩, ⟨by decide, fun x hx => by cases hx⟩, ⟨by decide, fun x hx => ?_⟩⟩
      obtain rfl := List.mem_singleton.1 hx
      exact ⟨by decide, by decide, by decide, by decide, by decide⟩

theorem line_len : (lineF f).length = 75 := by decide +kernel
theorem line_head : (lineF f).take 7 = [49, 48, 48, 54, 52, 52, 32] := by decide +kernel
theorem line_tail : (lineF f).drop 71 = [32, 100, 47, 102] := by decide +kernel
end Ex
end Go.Proofs.YtepgoppgblfjbaaGreatDoor

/- The statements' imported: the example is imported as the document says. -/
namespace Go.Proofs.YtepgoppgblfjbaaGreatDoor
open Go.RowKit

theorem Gl.mx {w : World} (h : Gl w) (h7 : 7 ≤ w.heap.size) : ∃ m, Mx m w := by
  obtain ⟨m, hm⟩ := h.max
  exact ⟨m, by omega, hm⟩

set_option maxHeartbeats 1600000 in
set_option maxRecDepth 100000 in
theorem imported_any (w : World) (hgl : Gl w) (h7 : 7 ≤ w.heap.size) :
    Calls Tryz.prog 20 #[] w fun e w' => e = .returned (.bool true) ∧ Kx (fun _ => False) w w' := by
  obtain ⟨m, hm⟩ := hgl.mx h7
  go_enter Tryz.func20, Tryz.ntmps20
  go_wp2_with fail
  refine (checked_any m w hm).mono ?_
  rintro _ w1 ⟨rfl, hk1⟩
  have hk1 := hk1 (fun _ => False)
  have hgl1 := hgl.kept hk1 (fun _ _ => id)
  have h71 : 7 ≤ w1.heap.size := Nat.le_trans h7 hk1.size
  go_wp2_with fail
  refine (new_any (fun _ => False) w1 (fun _ h => h.elim) h71).mono ?_
  rintro _ w2 ⟨s, h, o, c, r, t, rfl, hN⟩
  have hk2 := hk1.trans hN.kx
  have hgl2 := hgl1.kept hN.kx (fun _ _ => id)
  have himp := import_any hN.str hgl2 exampleL Ex.cos_fine (by decide) (by decide) (by decide)
  rw [Ex.imp] at himp
  go_wp2_with fail
  refine (example_any _).mono ?_
  rintro _ _ ⟨rfl, rfl⟩
  go_wp2_with fail
  refine himp.mono ?_
  rintro _ w3 ⟨rfl, vj, hI⟩
  have hst := hI.str
  rw [Ex.imp] at hst
  have hk3 : Kx (fun _ => False) w1 w3 := hN.kx.join hI.kx (fun j hj e => by
    have hn := hN.new
    rcases e with e | e | e
    · omega
    · unfold Fo at e; omega
    · cases e)
  clear himp
  have hrefs := refs_any' hst (by decide)
  go_wp2_with fail
  refine hrefs.mono ?_
  rintro _ w4 ⟨v, ks, rfl, hK, _, hrow, hk4⟩
  clear hrefs
  obtain rfl := Ex.refs Ex.st_ref hK
  have hst4 := hst.kept hk4 (fun _ _ h => h.elim) (fun _ _ => id)
  obtain ⟨q, cv, rfl, hcv, hr⟩ := Reads.of_own hrow
  obtain ⟨g, og, rfl, hcell⟩ := hr (by decide)
  have c0 : w4.cell? ⟨g, og, none⟩ = some (.string ⟨Pu.sMain.toArray⟩) := hcell 0 _ rfl
  have c1 : w4.cell? ⟨g, og + 1, none⟩ = some (.string ⟨(idAt Ex.st.ref Pu.sMain).toArray⟩) := hcell 1 _ rfl
  rw [Ex.st_id] at c1
  clear hrow hcell hr hK
  have hids := ids_any hst4 (by decide)
  go_wp2_with fail
  refine hids.mono ?_
  rintro _ w5 ⟨v5, ks5, rfl, hK5, _, hrow5, hk5⟩
  clear hids
  have hl5 := Ex.ids_len hK5
  obtain ⟨q5, cv5, rfl, _, _⟩ := Reads.of_own hrow5
  rw [hl5]
  have hst5 := hst4.kept hk5 (fun _ _ h => h.elim) (fun _ _ => id)
  have d0 := (hk5.cell (p := ⟨g, og, none⟩) (lt_of_cell (p := ⟨g, og, none⟩) c0) id).trans c0
  have d1 := (hk5.cell (p := ⟨g, og + 1, none⟩) (lt_of_cell (p := ⟨g, og + 1, none⟩) c1) id).trans c1
  clear c0 c1 hK5 hrow5 hl5
  have hfiles := files_any hst5 (Sh.hex Ex.L4) (by decide)
  rw [Ex.st_com] at hfiles
  simp only [Pu.sMain] at d0
  go_wp2_with fail
  refine hfiles.mono ?_
  rintro _ w6 ⟨hF, hk6⟩
  clear hfiles
  obtain ⟨v6, rfl, hrow6⟩ := hF
  obtain ⟨q6, cv6, rfl, _, hr6⟩ := Reads.of_own hrow6
  obtain ⟨g6, og6, rfl, hcell6⟩ := hr6 (by decide)
  have e0 : w6.cell? ⟨g6, og6, none⟩ = some (.string ⟨(lineF Ex.f).toArray⟩) := hcell6 0 _ rfl
  have hl : (Ex.com.files.length : Int) = 1 := rfl
  have x1 := Ex.line_len
  have x2 := ext_take (lineF Ex.f) 7
  have x3 := ext_drop (lineF Ex.f) 71
  rw [Ex.line_head] at x2
  rw [Ex.line_tail, x1] at x3
  generalize lineF Ex.f = L at *
  generalize Ex.com.files.length = nf at *
  go_wp2
  go_ret
  exact ⟨rfl, (((hk1.trans hk3).trans hk4).trans hk5).trans hk6⟩

end Go.Proofs.YtepgoppgblfjbaaGreatDoor

/- The statements' below. -/
namespace Go.Proofs.YtepgoppgblfjbaaGreatDoor
open Go.RowKit

theorem within_take {p top : List UInt8} : Pf.within p top = true ↔ p = top ∨ (top.length < p.length ∧ p.take top.length = top ∧ p[top.length]? = some 47) := by
  rw [within_iff]
  constructor
  · rintro ⟨r, rfl, h⟩
    rcases h with rfl | ⟨s, rfl⟩
    · exact .inl (by simp)
    · exact .inr ⟨by simp, by simp, by simp⟩
  · rintro (rfl | ⟨h1, h2, h3⟩)
    · exact ⟨[], by simp, .inl rfl⟩
    · refine ⟨p.drop top.length, ?_, .inr ⟨p.drop (top.length + 1), ?_⟩⟩
      · conv => rhs; lhs; rw [← h2]
        exact (List.take_append_drop _ _).symm
      · obtain ⟨h4, h5⟩ := List.getElem?_eq_some_iff.1 h3
        rw [List.drop_eq_getElem_cons h4, h5]

theorem within_false {p top : List UInt8} (h : ¬ (p = top ∨ (top.length < p.length ∧ p.take top.length = top ∧ p[top.length]? = some 47))) : Pf.within p top = false := by
  cases hw : Pf.within p top with
  | false => rfl
  | true => exact absurd (within_take.1 hw) h

set_option maxHeartbeats 800000 in
set_option maxRecDepth 100000 in
theorem below_any' (p top : List UInt8) (w : World) (ht : top.length ≤ 100000) :
    Calls Tryz.prog 25 #[.string ⟨p.toArray⟩, .string ⟨top.toArray⟩] w fun e w' => e = .returned (.bool (Pf.within p top)) ∧ w' = w := by
  by_cases h1 : p = top
  · subst h1
    rw [show Pf.within p p = true from within_take.2 (.inl rfl)]
    go_enter Tryz.func25, Tryz.ntmps25
    go_wp2
    go_ret
    exact ⟨rfl, rfl⟩
  · have h1' := bne_of h1
    by_cases h2 : top.length < p.length
    · have h2' : (top.length : Int) < (p.length : Int) := by omega
      by_cases h3 : p.take top.length = top
      · have hext := ext_take p top.length
        rw [h3] at hext
        by_cases h4 : p[top.length] = 47
        · rw [show Pf.within p top = true from within_take.2 (.inr ⟨h2, h3, by rw [List.getElem?_eq_getElem h2, h4]⟩)]
          go_enter Tryz.func25, Tryz.ntmps25
          go_wp2
          go_ret
          refine ⟨?_, rfl⟩
          show Ending.returned (.bool (((p[top.length].toNat : Nat) : Int) == 47)) = _
          rw [h4]
          rfl
        · rw [within_false (by rintro (e | ⟨_, _, e⟩); exact h1 e; rw [List.getElem?_eq_getElem h2] at e; exact h4 (Option.some.inj e))]
          go_enter Tryz.func25, Tryz.ntmps25
          go_wp2
          go_ret
          refine ⟨?_, rfl⟩
          show Ending.returned (.bool (((p[top.length].toNat : Nat) : Int) == 47)) = _
          have h5 : ((((p[top.length].toNat : Nat) : Int) == 47)) = false := by
            rw [beq_eq_false_iff_ne]
            intro e
            exact h4 (UInt8.toNat_inj.1 (by have : (47 : UInt8).toNat = 47 := rfl; omega))
          rw [h5]
      · have h3' := bne_of h3
        have hext := ext_take p top.length
        rw [within_false (by rintro (e | ⟨_, e, _⟩); exact h1 e; exact h3 e)]
        go_enter Tryz.func25, Tryz.ntmps25
        go_wp2
        go_ret
        exact ⟨rfl, rfl⟩
    · have h2' : ¬ (top.length : Int) < (p.length : Int) := by omega
      rw [within_false (by rintro (e | ⟨e, _⟩); exact h1 e; exact h2 e)]
      go_enter Tryz.func25, Tryz.ntmps25
      go_wp2
      go_ret
      exact ⟨rfl, rfl⟩

end Go.Proofs.YtepgoppgblfjbaaGreatDoor

/- Operations behind a guard, in a region that asks the tape. -/
namespace Go.Proofs.YtepgoppgblfjbaaGreatDoor
open Go.RowKit

section
variable {P : Program} {ops : Array Oper} {C : World → Prop}

theorem quiet_skip {Q : Act → Prop} {a : Act} {o : Oper} {rest : List Oper} (hw : Region.wanted o (yielded ops a.tmps) = false) (h : wpQuiet P ops C Q rest (a.put o.dst undef)) : wpQuiet P ops C Q (o :: rest) a := by
  unfold wpQuiet
  rw [hw]
  exact h

theorem quiet_valG {Q : Act → Prop} {a : Act} {o : Oper} {rest : List Oper} (hw : Region.wanted o (yielded ops a.tmps) = true) (v : Value) (hrun : ∀ w, C w → (execOp a.eval o).run P w = .ok (.value v) w) (h : wpQuiet P ops C Q rest (a.put o.dst v)) : wpQuiet P ops C Q (o :: rest) a := by
  unfold wpQuiet
  rw [if_pos hw]
  refine ⟨v, fun w hC => ?_, h⟩
  unfold Oper.quietAt
  rw [hrun w hC]
  exact ⟨rfl, rfl⟩

/-- The walk, behind a word that nothing unfolds. -/
structure WQ (P : Program) (ops : Array Oper) (C : World → Prop) (Q : Act → Prop) (l : List Oper) (a : Act) : Prop where
  out : wpQuiet P ops C Q l a

theorem wq_nil {Q : Act → Prop} {a : Act} (h : Q a) : WQ P ops C Q [] a := ⟨wpQuiet_nil h⟩
theorem wq_val {Q : Act → Prop} {a : Act} {o : Oper} {rest : List Oper} (hg : o.guard = none) (v : Value) (hrun : ∀ w, C w → (execOp a.eval o).run P w = .ok (.value v) w) (h : WQ P ops C Q rest (a.put o.dst v)) : WQ P ops C Q (o :: rest) a := ⟨quiet_val hg v hrun h.out⟩
theorem wq_valG {Q : Act → Prop} {a : Act} {o : Oper} {rest : List Oper} (hw : Region.wanted o (yielded ops a.tmps) = true) (v : Value) (hrun : ∀ w, C w → (execOp a.eval o).run P w = .ok (.value v) w) (h : WQ P ops C Q rest (a.put o.dst v)) : WQ P ops C Q (o :: rest) a := ⟨quiet_valG hw v hrun h.out⟩
theorem wq_skip {Q : Act → Prop} {a : Act} {o : Oper} {rest : List Oper} (hw : Region.wanted o (yielded ops a.tmps) = false) (h : WQ P ops C Q rest (a.put o.dst undef)) : WQ P ops C Q (o :: rest) a := ⟨quiet_skip hw h.out⟩

theorem wp_region_wq {id : Nat} {Q : Exit → Act → World → Prop} {a : Act} {w : World} {l : List Oper} (n : Nat) (hm : P.follows .mixedOrders = true) (hB : Region.lexTailB .any l.toArray n = true) (hC : C { w with drawn := w.drawn + 1 })
    (h : WQ P l.toArray C (fun a' => ∀ w', C w' → wpList P l.toArray Q (l.drop n) a' w') (l.take n) a) : (Code.region id l.toArray true).wp P Q a w := wp_region_quiet_tail n hm hB hC h.out
end
end Go.Proofs.YtepgoppgblfjbaaGreatDoor
