/- The law: played and Streams. -/
import Derived.Test.YtepgoppgblfjbaaGreatDoorLaw
import Derived.Laws.AppendOwnNone
namespace Go.Proofs.YtepgoppgblfjbaaGreatDoor
open Go.RowKit

theorem Tryz.info86 : (Tryz.prog.info? 86).map (fun i => (i.zero, i.size, i.bytes)) = some (some (.agg #[.int .i64 0, .int .i64 0, .int .i64 0, .string ⟨#[]⟩, .slice none 0 0]), 5, 64) := by kernel_rfl

namespace Rf

/-- What came in: a row of steps. -/
def Script (v : Value) (w : World) : Prop := v = .slice none 0 0 ∨ ∃ (ad : Addr) (len cap : Nat) (news : List Value), v = .slice (some ad) len cap ∧ news.length = len * 5 ∧ (∀ j u, news[j]? = some u → w.cell? (ad.add j) = some u) ∧ (∀ u ∈ news, u.oneCell' = true) ∧ (∀ i, i < len → OpAt news i) ∧ len * 64 ≤ reachBytes

theorem own_slice8 {base : Nat} {v : Value} {n : Nat} {xs : List Value} {w : World} (h : w.ownsRow base 86 5 v n xs) (hn : 0 < n) : ∃ g cap, v = .slice (some ⟨g, 0, none⟩) n cap ∧ base ≤ g ∧ g < w.heap.size := by
  rcases h.2 with ⟨rfl, rfl⟩ | ⟨g, cap, cur, rfl, hb, hg, _⟩
  · omega
  · exact ⟨g, cap, rfl, hb, (Array.getElem?_eq_some_iff.1 hg).1⟩

set_option maxHeartbeats 1500000 in
set_option maxRecDepth 100000 in
theorem played_any (v : Value) (m : Int) (w : World) (hm : Mx m w) (hv : Script v w) :
    Calls Tryz.prog 15 #[v, .int .i64 1] w fun e w' => e = .returned (.bool true) ∧ ∀ X, Kx X w w' := by
  obtain ⟨i0, hi, hz0, hz1, hz2⟩ := info_parts Tryz.info86
  go_enter Tryz.func15, Tryz.ntmps15
  go_wp2_with fail
  refine (first_any _).mono ?_
  rintro e w1 ⟨xs, rfl, hown, hops, hk⟩
  have hx8 : xs.length = 8 * 5 := hown.1
  have hlt := (hk (fun _ => False)).size
  have hw1 := (hown.lt w.heap.size rfl).2
  rcases hv with rfl | ⟨ad, len, cap, news, rfl, hnl, hcells, h1c, hopn, hreach⟩
  · go_wp2_with (at_builtin; refine wpList_append_own_none rfl (.tmp 10) (.tmp 11) 22 rfl w.heap.size 86 i0 5 Tryz.underlying22 hi _ 8 xs rfl hown rfl ?_)
    have hownW := hown
    have hopsW := hops
    have hkW := hk
    have hglt := hw1
    clear hown hops hk hw1 hlt hx8
    generalize w1 = W0 at *
    generalize xs = ys at *
    have hkA : ∀ X, Kx X W0 ((W0.alloc (.cells #[.slice none 0 0, .slice none 0 0, .slice none 0 0, .slice none 0 0, .slice none 0 0, .slice none 0 0, .slice none 0 0, .slice none 0 0] 80)).alloc (.cells #[.pointer (some ⟨W0.heap.size, 0, none⟩), .slice none 0 0] 83)) := fun X => ((Kx.refl X W0).alloc _).alloc _
    have hB : Cb W0.heap.size #[.slice none 0 0, .slice none 0 0, .slice none 0 0, .slice none 0 0, .slice none 0 0, .slice none 0 0, .slice none 0 0, .slice none 0 0] 80 ((W0.alloc (.cells #[.slice none 0 0, .slice none 0 0, .slice none 0 0, .slice none 0 0, .slice none 0 0, .slice none 0 0, .slice none 0 0, .slice none 0 0] 80)).alloc (.cells #[.pointer (some ⟨W0.heap.size, 0, none⟩), .slice none 0 0] 83)) := (Cb.new _ 80 W0).alloc _
    have hD : Cb (W0.heap.size + 1) #[.pointer (some ⟨W0.heap.size, 0, none⟩), .slice none 0 0] 83 ((W0.alloc (.cells #[.slice none 0 0, .slice none 0 0, .slice none 0 0, .slice none 0 0, .slice none 0 0, .slice none 0 0, .slice none 0 0, .slice none 0 0] 80)).alloc (.cells #[.pointer (some ⟨W0.heap.size, 0, none⟩), .slice none 0 0] 83)) := by
      have h9 := Cb.new #[.pointer (some ⟨W0.heap.size, 0, none⟩), .slice none 0 0] 83 (W0.alloc (.cells #[.slice none 0 0, .slice none 0 0, .slice none 0 0, .slice none 0 0, .slice none 0 0, .slice none 0 0, .slice none 0 0, .slice none 0 0] 80))
      have e9 : (W0.alloc (.cells #[.slice none 0 0, .slice none 0 0, .slice none 0 0, .slice none 0 0, .slice none 0 0, .slice none 0 0, .slice none 0 0, .slice none 0 0] 80)).heap.size = W0.heap.size + 1 := by simp
      rw [e9] at h9; exact h9
    have hmW : Mx m ((W0.alloc (.cells #[.slice none 0 0, .slice none 0 0, .slice none 0 0, .slice none 0 0, .slice none 0 0, .slice none 0 0, .slice none 0 0, .slice none 0 0] 80)).alloc (.cells #[.pointer (some ⟨W0.heap.size, 0, none⟩), .slice none 0 0] 83)) := max_kept hm (fun X => (hkW X).trans (hkA X))
    have hownA := (hownW.alloc (.cells #[.slice none 0 0, .slice none 0 0, .slice none 0 0, .slice none 0 0, .slice none 0 0, .slice none 0 0, .slice none 0 0, .slice none 0 0] 80)).alloc (.cells #[.pointer (some ⟨W0.heap.size, 0, none⟩), .slice none 0 0] 83)
    have hgA : w.heap.size < ((W0.alloc (.cells #[.slice none 0 0, .slice none 0 0, .slice none 0 0, .slice none 0 0, .slice none 0 0, .slice none 0 0, .slice none 0 0, .slice none 0 0] 80)).alloc (.cells #[.pointer (some ⟨W0.heap.size, 0, none⟩), .slice none 0 0] 83)).heap.size := by simp; omega
    have hcell : ∀ j, j < 8 * 5 → ((W0.alloc (.cells #[.slice none 0 0, .slice none 0 0, .slice none 0 0, .slice none 0 0, .slice none 0 0, .slice none 0 0, .slice none 0 0, .slice none 0 0] 80)).alloc (.cells #[.pointer (some ⟨W0.heap.size, 0, none⟩), .slice none 0 0] 83)).cell? ⟨w.heap.size, j, none⟩ = ys[j]? := fun j hj => hownA.cellAt j hj
    have hkZ : ∀ X, Kx X w ((W0.alloc (.cells #[.slice none 0 0, .slice none 0 0, .slice none 0 0, .slice none 0 0, .slice none 0 0, .slice none 0 0, .slice none 0 0, .slice none 0 0] 80)).alloc (.cells #[.pointer (some ⟨W0.heap.size, 0, none⟩), .slice none 0 0] 83)) := fun X => (hkW X).trans (hkA X)
    have hBl := hB.lt
    have hDl := hD.lt
    have HCELL : Hid (∀ j, j < 8 * 5 → ((W0.alloc (.cells #[.slice none 0 0, .slice none 0 0, .slice none 0 0, .slice none 0 0, .slice none 0 0, .slice none 0 0, .slice none 0 0, .slice none 0 0] 80)).alloc (.cells #[.pointer (some ⟨W0.heap.size, 0, none⟩), .slice none 0 0] 83)).cell? ⟨w.heap.size, j, none⟩ = ys[j]?) := hcell
    have HOPS : Hid (∀ i, i < 8 → OpAt ys i) := hopsW
    clear hkA hownA hownW hkW hm hcell hopsW
    generalize ((W0.alloc (.cells #[.slice none 0 0, .slice none 0 0, .slice none 0 0, .slice none 0 0, .slice none 0 0, .slice none 0 0, .slice none 0 0, .slice none 0 0] 80)).alloc (.cells #[.pointer (some ⟨W0.heap.size, 0, none⟩), .slice none 0 0] 83)) = W at *
    go_loopw [7, 8] (fun okv iv w' => ∃ k : Nat, k ≤ 8 ∧ iv = .int .i64 k ∧ okv = .bool true ∧ ∀ X, Kx X W w') (fun _ iv _ => 8 - (intOf iv).toNat)
    case atStart => exact ⟨0, by omega, rfl, rfl, fun X => Kx.refl X _⟩
    case round =>
      obtain ⟨k, hkN, rfl, rfl, hkr⟩ := hrel
      have hDr := hD.kept (hkr (fun _ => False)) id
      have d0 := hDr.cell 0
      by_cases hlt : k < 8
      · have hlt2 : (k : Int) < ((8 : Nat) : Int) := by omega
        obtain ⟨kd, p, n, S, ra, rn, rc, o0, o1, o2, o3, o4, hS⟩ := HOPS.out k hlt
        have hat : ∀ j u, ys[j]? = some u → j < 8 * 5 → wr.cell? ⟨w.heap.size, j, none⟩ = some u := by
          intro j u hu hj
          rw [(hkr (fun _ => False)).cell (p := ⟨w.heap.size, j, none⟩) hgA id, HCELL.out j hj]; exact hu
        have c0 := hat _ _ o0 (by omega)
        have c1 := hat _ _ o1 (by omega)
        have c2 := hat _ _ o2 (by omega)
        have c3 := hat _ _ o3 (by omega)
        have c4 := hat _ _ o4 (by omega)
        have hmr := max_kept hmW hkr
        have hBr := hB.kept (hkr (fun _ => False)) id
        clear hat o0 o1 o2 o3 o4
        by_cases hk1 : kd ≤ 1
        · go_wp2_with fail
          refine (step_any (W0.heap.size + 1) kd p n S ra rn rc m _ hk1 hS (hDr.cell 1) hmr).mono ?_
          rintro e w3 ⟨rfl, hk3⟩
          have hB3 := hBr.kept (hk3 (fun _ => False)) id
          have hD3 := hDr.kept (hk3 (fun _ => False)) id
          have e0 := hD3.cell 0
          clear c0 c1 c2 c3 c4 d0
          go_wp2_with fail
          refine (looks_any W0.heap.size _ (hB3.cell 0) (hB3.cell 1) (hB3.cell 2) (hB3.cell 6) (hB3.cell 7)).mono ?_
          rintro e w4 ⟨rfl, rfl⟩
          go_wp2
          go_roundw
          case rel => exact ⟨k + 1, by omega, by go_num, rfl, fun X => (hkr X).trans (hk3 X)⟩
          case measure => simp [intOf]; omega
        · have hk2 : decide (kd ≤ 1) = false := by simpa using hk1
          go_wp2_with fail
          refine (looks_any W0.heap.size _ (hBr.cell 0) (hBr.cell 1) (hBr.cell 2) (hBr.cell 6) (hBr.cell 7)).mono ?_
          rintro e w4 ⟨rfl, rfl⟩
          go_wp2
          go_roundw
          case rel => exact ⟨k + 1, by omega, by go_num, rfl, hkr⟩
          case measure => simp [intOf]; omega
      · have hlt2 : ¬ (k : Int) < ((8 : Nat) : Int) := by omega
        have hkk : k = 8 := by omega
        subst hkk
        go_wp2
        go_ret
        exact ⟨rfl, fun X => (hkZ X).trans (hkr X)⟩
  · have hcells1 : ∀ j u, news[j]? = some u → w1.cell? (ad.add j) = some u := by
      intro j u hj
      have := hcells j u hj
      rw [(hk (fun _ => False)).cell (lt_of_cell this) id]; exact this
    have hr2 : len * 64 ≤ 140737488351232 := hreach
    have hNm : 8 + len ≤ maxLen := by unfold maxLen; omega
    clear hreach hcells
    go_wp2_with (at_builtin; refine wpList_append_own _ rfl (.tmp 10) (.tmp 11) 22 rfl w.heap.size 86 i0 _ 5 64 Tryz.underlying22 hi hz0 hz1 hz2 rfl (by decide) _ 8 xs rfl hown ad len cap news rfl hnl hcells1 h1c ?c3 ?c4 ?c5 ?_)
    case c3 => exact hNm
    case c4 => omega
    case c5 => exact hlt
    intro v4 W0 hownW hgrow _
    have hkW : ∀ X, Kx X w W0 := fun X => (hk X).grown hgrow (fun k he => by cases he; exact Nat.le_refl _)
    have hopsW : ∀ i, i < 8 + len → OpAt (xs ++ news) i := by
      intro i hi
      by_cases h8 : i < 8
      · exact (hops i h8).left
      · have := (hopn (i - 8) (by omega)).right (xs := xs) (m := 8) hx8
        have e : 8 + (i - 8) = i := by omega
        rw [e] at this; exact this
    obtain ⟨g, cp, rfl, hgb, hglt⟩ := own_slice8 hownW (by omega)
    clear hgrow hown hops hk hcells1 h1c hopn hnl hw1 hx8 hr2 hlt
    generalize xs ++ news = ys at *
    generalize 8 + len = N at *
    have hNm2 : N ≤ 9223372036854775807 := hNm
    go_wp2_with fail
    have hkA : ∀ X, Kx X W0 ((W0.alloc (.cells #[.slice none 0 0, .slice none 0 0, .slice none 0 0, .slice none 0 0, .slice none 0 0, .slice none 0 0, .slice none 0 0, .slice none 0 0] 80)).alloc (.cells #[.pointer (some ⟨W0.heap.size, 0, none⟩), .slice none 0 0] 83)) := fun X => ((Kx.refl X W0).alloc _).alloc _
    have hB : Cb W0.heap.size #[.slice none 0 0, .slice none 0 0, .slice none 0 0, .slice none 0 0, .slice none 0 0, .slice none 0 0, .slice none 0 0, .slice none 0 0] 80 ((W0.alloc (.cells #[.slice none 0 0, .slice none 0 0, .slice none 0 0, .slice none 0 0, .slice none 0 0, .slice none 0 0, .slice none 0 0, .slice none 0 0] 80)).alloc (.cells #[.pointer (some ⟨W0.heap.size, 0, none⟩), .slice none 0 0] 83)) := (Cb.new _ 80 W0).alloc _
    have hD : Cb (W0.heap.size + 1) #[.pointer (some ⟨W0.heap.size, 0, none⟩), .slice none 0 0] 83 ((W0.alloc (.cells #[.slice none 0 0, .slice none 0 0, .slice none 0 0, .slice none 0 0, .slice none 0 0, .slice none 0 0, .slice none 0 0, .slice none 0 0] 80)).alloc (.cells #[.pointer (some ⟨W0.heap.size, 0, none⟩), .slice none 0 0] 83)) := by
      have h9 := Cb.new #[.pointer (some ⟨W0.heap.size, 0, none⟩), .slice none 0 0] 83 (W0.alloc (.cells #[.slice none 0 0, .slice none 0 0, .slice none 0 0, .slice none 0 0, .slice none 0 0, .slice none 0 0, .slice none 0 0, .slice none 0 0] 80))
      have e9 : (W0.alloc (.cells #[.slice none 0 0, .slice none 0 0, .slice none 0 0, .slice none 0 0, .slice none 0 0, .slice none 0 0, .slice none 0 0, .slice none 0 0] 80)).heap.size = W0.heap.size + 1 := by simp
      rw [e9] at h9; exact h9
    have hmW : Mx m ((W0.alloc (.cells #[.slice none 0 0, .slice none 0 0, .slice none 0 0, .slice none 0 0, .slice none 0 0, .slice none 0 0, .slice none 0 0, .slice none 0 0] 80)).alloc (.cells #[.pointer (some ⟨W0.heap.size, 0, none⟩), .slice none 0 0] 83)) := max_kept hm (fun X => (hkW X).trans (hkA X))
    have hownA := (hownW.alloc (.cells #[.slice none 0 0, .slice none 0 0, .slice none 0 0, .slice none 0 0, .slice none 0 0, .slice none 0 0, .slice none 0 0, .slice none 0 0] 80)).alloc (.cells #[.pointer (some ⟨W0.heap.size, 0, none⟩), .slice none 0 0] 83)
    have hgA : g < ((W0.alloc (.cells #[.slice none 0 0, .slice none 0 0, .slice none 0 0, .slice none 0 0, .slice none 0 0, .slice none 0 0, .slice none 0 0, .slice none 0 0] 80)).alloc (.cells #[.pointer (some ⟨W0.heap.size, 0, none⟩), .slice none 0 0] 83)).heap.size := by simp; omega
    have hcell : ∀ j, j < N * 5 → ((W0.alloc (.cells #[.slice none 0 0, .slice none 0 0, .slice none 0 0, .slice none 0 0, .slice none 0 0, .slice none 0 0, .slice none 0 0, .slice none 0 0] 80)).alloc (.cells #[.pointer (some ⟨W0.heap.size, 0, none⟩), .slice none 0 0] 83)).cell? ⟨g, j, none⟩ = ys[j]? := fun j hj => hownA.cellAt j hj
    have hkZ : ∀ X, Kx X w ((W0.alloc (.cells #[.slice none 0 0, .slice none 0 0, .slice none 0 0, .slice none 0 0, .slice none 0 0, .slice none 0 0, .slice none 0 0, .slice none 0 0] 80)).alloc (.cells #[.pointer (some ⟨W0.heap.size, 0, none⟩), .slice none 0 0] 83)) := fun X => (hkW X).trans (hkA X)
    have hBl := hB.lt
    have hDl := hD.lt
    have HCELL : Hid (∀ j, j < N * 5 → ((W0.alloc (.cells #[.slice none 0 0, .slice none 0 0, .slice none 0 0, .slice none 0 0, .slice none 0 0, .slice none 0 0, .slice none 0 0, .slice none 0 0] 80)).alloc (.cells #[.pointer (some ⟨W0.heap.size, 0, none⟩), .slice none 0 0] 83)).cell? ⟨g, j, none⟩ = ys[j]?) := hcell
    have HOPS : Hid (∀ i, i < N → OpAt ys i) := hopsW
    clear hkA hownA hownW hkW hm hcell hopsW
    generalize ((W0.alloc (.cells #[.slice none 0 0, .slice none 0 0, .slice none 0 0, .slice none 0 0, .slice none 0 0, .slice none 0 0, .slice none 0 0, .slice none 0 0] 80)).alloc (.cells #[.pointer (some ⟨W0.heap.size, 0, none⟩), .slice none 0 0] 83)) = W at *
    go_loopw [7, 8] (fun okv iv w' => ∃ k : Nat, k ≤ N ∧ iv = .int .i64 k ∧ okv = .bool true ∧ ∀ X, Kx X W w') (fun _ iv _ => N - (intOf iv).toNat)
    case atStart => exact ⟨0, by omega, rfl, rfl, fun X => Kx.refl X _⟩
    case round =>
      obtain ⟨k, hkN, rfl, rfl, hkr⟩ := hrel
      have hDr := hD.kept (hkr (fun _ => False)) id
      have d0 := hDr.cell 0
      by_cases hlt : k < N
      · have hlt2 : (k : Int) < ((N : Nat) : Int) := by omega
        obtain ⟨kd, p, n, S, ra, rn, rc, o0, o1, o2, o3, o4, hS⟩ := HOPS.out k hlt
        have hat : ∀ j u, ys[j]? = some u → j < N * 5 → wr.cell? ⟨g, j, none⟩ = some u := by
          intro j u hu hj
          rw [(hkr (fun _ => False)).cell (p := ⟨g, j, none⟩) hgA id, HCELL.out j hj]; exact hu
        have c0 := hat _ _ o0 (by omega)
        have c1 := hat _ _ o1 (by omega)
        have c2 := hat _ _ o2 (by omega)
        have c3 := hat _ _ o3 (by omega)
        have c4 := hat _ _ o4 (by omega)
        have hmr := max_kept hmW hkr
        have hBr := hB.kept (hkr (fun _ => False)) id
        clear hat o0 o1 o2 o3 o4
        by_cases hk1 : kd ≤ 1
        · go_wp2_with fail
          refine (step_any (W0.heap.size + 1) kd p n S ra rn rc m _ hk1 hS (hDr.cell 1) hmr).mono ?_
          rintro e w3 ⟨rfl, hk3⟩
          have hB3 := hBr.kept (hk3 (fun _ => False)) id
          have hD3 := hDr.kept (hk3 (fun _ => False)) id
          have e0 := hD3.cell 0
          clear c0 c1 c2 c3 c4 d0
          go_wp2_with fail
          refine (looks_any W0.heap.size _ (hB3.cell 0) (hB3.cell 1) (hB3.cell 2) (hB3.cell 6) (hB3.cell 7)).mono ?_
          rintro e w4 ⟨rfl, rfl⟩
          go_wp2
          go_roundw
          case rel => exact ⟨k + 1, by omega, by go_num, rfl, fun X => (hkr X).trans (hk3 X)⟩
          case measure => simp [intOf]; omega
        · have hk2 : decide (kd ≤ 1) = false := by simpa using hk1
          go_wp2_with fail
          refine (looks_any W0.heap.size _ (hBr.cell 0) (hBr.cell 1) (hBr.cell 2) (hBr.cell 6) (hBr.cell 7)).mono ?_
          rintro e w4 ⟨rfl, rfl⟩
          go_wp2
          go_roundw
          case rel => exact ⟨k + 1, by omega, by go_num, rfl, hkr⟩
          case measure => simp [intOf]; omega
      · have hlt2 : ¬ (k : Int) < ((N : Nat) : Int) := by omega
        have hkk : k = N := by omega
        subst hkk
        go_wp2
        go_ret
        exact ⟨rfl, fun X => (hkZ X).trans (hkr X)⟩

set_option maxHeartbeats 400000 in
theorem streams_any (v : Value) (m : Int) (w : World) (hm : Mx m w) (hv : Script v w) :
    Calls Tryz.prog 3 #[v] w fun e w' => e = .returned (.bool true) ∧ ∀ X, Kx X w w' := by
  go_enter Tryz.func3, Tryz.ntmps3
  go_wp2_with fail
  refine (played_any v m _ hm hv).mono ?_
  rintro e w1 ⟨rfl, hk⟩
  go_wp2
  go_ret
  exact ⟨rfl, hk⟩

end Rf
end Go.Proofs.YtepgoppgblfjbaaGreatDoor
