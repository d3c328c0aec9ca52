/- The statement's own stream. -/
import Derived.Test.YtepgoppgblfjbaaGreatDoorCommand
namespace Go.Proofs.YtepgoppgblfjbaaGreatDoor
open Go.RowKit

/-- The texts of the first k acts. -/
def texts (f : Nat → Ac) (k : Nat) : List (List UInt8) := (List.range k).map (fun j => (f j).text (j + 1))

theorem texts_succ (f : Nat → Ac) (k : Nat) : (texts f (k + 1)).flatten = (texts f k).flatten ++ (f k).text (k + 1) := by
  unfold texts; rw [List.range_succ]; simp

theorem texts_good (f : Nat → Ac) (k : Nat) (hk : k ≤ 12) : ∀ c ∈ texts f k, Pu.Good c := by
  intro c hc
  unfold texts at hc
  obtain ⟨j, hj, rfl⟩ := List.mem_map.1 hc
  exact (f j).good (j + 1) ⟨by omega, by have := List.mem_range.1 hj; omega⟩

theorem texts_len (f : Nat → Ac) (k : Nat) (hk : k ≤ 12) : (texts f k).flatten.length ≤ 2400 := by
  have h := Pu.stream_len (texts f k) (texts_good f k hk)
  have h2 : (texts f k).length = k := by simp [texts]
  omega

/-- The stream of acts. -/
def streamOf (f : Nat → Ac) (len : Nat) : List UInt8 := Pu.streamS (texts f (min len 12))

set_option maxHeartbeats 1000000 in
set_option maxRecDepth 100000 in
theorem streamL_any (b off len cap : Nat) (f : Nat → Ac) (w : World) (hlen : len ≤ maxLen) (hok : ∀ i, i < len → (f i).ok)
    (h0 : ∀ i, i < len → w.cell? ⟨b, off + i * 5, none⟩ = some (.int .i64 (f i).K))
    (h1 : ∀ i, i < len → w.cell? ⟨b, off + i * 5 + 1, none⟩ = some (.int .i64 (f i).A))
    (h2 : ∀ i, i < len → w.cell? ⟨b, off + i * 5 + 2, none⟩ = some (.int .i64 (f i).B))
    (h3 : ∀ i, i < len → w.cell? ⟨b, off + i * 5 + 3, none⟩ = some (.int .i64 (f i).C))
    (h4 : ∀ i, i < len → w.cell? ⟨b, off + i * 5 + 4, none⟩ = some (.int .i64 (f i).D)) :
    Calls Tryz.prog 17 #[.slice (some ⟨b, off, none⟩) len cap] w fun e w' => e = .returned (.string ⟨(streamOf f len).toArray⟩) ∧ ∀ X, Kx X w w' := by
  unfold maxLen at hlen
  have happ := app_str
  go_enter Tryz.func17, Tryz.ntmps17
  go_wp2
  go_loopw [3, 4] (fun sv iv w' => ∃ k : Nat, k ≤ len ∧ k ≤ 12 ∧ iv = .int .i64 k ∧ sv = .string ⟨(texts f k).flatten.toArray⟩ ∧ ∀ X, Kx X w w') (fun _ iv _ => 12 - (intOf iv).toNat)
  case atStart => exact ⟨0, by omega, by omega, rfl, rfl, fun X => Kx.refl X w⟩
  case round =>
    obtain ⟨k, hkl, hk12, rfl, rfl, hk⟩ := hrel
    have htl := texts_len f k hk12
    by_cases hc : k < len ∧ k < 12
    · obtain ⟨hc1, hc2⟩ := hc
      have HS : Hid ((texts f (k + 1)).flatten = (texts f k).flatten ++ (f k).text (k + 1)) := texts_succ f k
      have hgl := ((f k).good (k + 1) ⟨by omega, by omega⟩).len
      have hcl := fun p hp => (hk (fun _ => False)).cell (p := p) hp id
      have e0 := h0 k hc1
      have e1 := h1 k hc1
      have e2 := h2 k hc1
      have e3 := h3 k hc1
      have e4 := h4 k hc1
      have c0 := (hcl _ (lt_of_cell e0)).trans e0
      have c1 := (hcl _ (lt_of_cell e1)).trans e1
      have c2 := (hcl _ (lt_of_cell e2)).trans e2
      have c3 := (hcl _ (lt_of_cell e3)).trans e3
      have c4 := (hcl _ (lt_of_cell e4)).trans e4
      have hck := hok k hc1
      clear e0 e1 e2 e3 e4 hcl h0 h1 h2 h3 h4 hok
      generalize (texts f k).flatten = T at *
      go_wp2_with fail
      refine (commandL_any (f k) hck _ (k + 1) (by omega) (by omega) _).mono ?_
      rintro e w2 ⟨rfl, hk2⟩
      generalize (f k).text (k + 1) = C at *
      go_wp2
      go_roundw
      case rel => exact ⟨k + 1, by omega, by omega, by go_num, by rw [HS.out], fun X => (hk X).trans (hk2 X)⟩
      case measure => simp [intOf]; omega
    · have hmin : min len 12 = k := by omega
      have HE : Hid (streamOf f len = (texts f k).flatten ++ [100, 111, 110, 101, 10]) := by show _ = _; unfold streamOf Pu.streamS; rw [hmin]
      clear h0 h1 h2 h3 h4 hok hmin
      generalize (texts f k).flatten = T at *
      by_cases hc1 : k < len
      · have hc2 : ¬ k < 12 := fun e => hc ⟨hc1, e⟩
        clear hc
        go_wp2
        go_ret
        exact ⟨by rw [HE.out]; rfl, hk⟩
      · clear hc
        go_wp2
        go_ret
        exact ⟨by rw [HE.out]; rfl, hk⟩

set_option maxHeartbeats 400000 in
set_option maxRecDepth 100000 in
/-- No acts at all. -/
theorem streamL_none (ao : Option Addr) (cap : Nat) (f : Nat → Ac) (w : World) :
    Calls Tryz.prog 17 #[.slice ao 0 cap] w fun e w' => e = .returned (.string ⟨(streamOf f 0).toArray⟩) ∧ ∀ X, Kx X w w' := by
  have HE : Hid (streamOf f 0 = [100, 111, 110, 101, 10]) := rfl
  have happ := app_str
  go_enter Tryz.func17, Tryz.ntmps17
  go_wp2
  refine wp_loop_rounds 1 ?_
  rw [rounds_succ]
  go_wp2
  go_ret
  exact ⟨by rw [HE.out]; rfl, fun X => Kx.refl X w⟩

theorem readAll_streamOf (f : Nat → Ac) (len : Nat) : Pu.readAll (streamOf f len) = (min len 12, [], false) := by
  unfold streamOf
  rw [Pu.readAll_stream _ (texts_good f _ (by omega))]
  simp [texts]

theorem streamOf_len (f : Nat → Ac) (len : Nat) : (streamOf f len).length ≤ 2405 ∧ 0 < (streamOf f len).length := by
  have := texts_len f (min len 12) (by omega)
  unfold streamOf Pu.streamS
  rw [List.length_append]
  simp only [List.length_cons, List.length_nil]
  omega

end Go.Proofs.YtepgoppgblfjbaaGreatDoor
