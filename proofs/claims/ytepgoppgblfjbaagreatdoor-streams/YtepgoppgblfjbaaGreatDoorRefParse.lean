/- The document's reader: Parse and Check: for every string, what Check answers. -/
import Derived.Test.YtepgoppgblfjbaaGreatDoorRefCmd
namespace Go.Proofs.YtepgoppgblfjbaaGreatDoor
open Go.RowKit

theorem Tryz.info255 : (Tryz.prog.info? 255).map (fun i => (i.zero, i.size, i.bytes)) = some (some (.agg #[.int .u8 0, .string ⟨#[]⟩, .int .i64 0, .string ⟨#[]⟩, .string ⟨#[]⟩, .slice none 0 0, .slice none 0 0, .slice none 0 0]), 8, 136) := by kernel_rfl

namespace Rf

theorem line_app {s v r1 : List UInt8} (h : Pu.line s false = (v, r1, false)) : s = v ++ 10 :: r1 := by
  by_cases hm : 10 ∈ s
  · obtain ⟨p, q, rfl, hp⟩ := List.eq_append_cons_of_mem hm
    have e := line_at (p ++ 10 :: q) 0 p.length (by omega) (by simp) (by simp) (by simpa using hp)
    rw [List.drop_zero] at e
    rw [e] at h
    injection h with e1 e2; injection e2 with e2 e3
    rw [← e1, ← e2]; simp
  · rw [line_none s false hm] at h
    injection h with e1 e2; injection e2 with e2 e3; cases e3

theorem line_done (x : List UInt8) : Pu.line (Pu.sDone ++ 10 :: x) false = (Pu.sDone, x, false) := by
  have e := line_at (Pu.sDone ++ 10 :: x) 0 4 (by omega) (by simp [Pu.sDone]) rfl (by simp [Pu.sDone])
  rw [List.drop_zero] at e
  rw [e]; rfl

theorem done_yes {s : List UInt8} (h : Lib.hasPrefix s [100, 111, 110, 101, 10] = true) (f n : Nat) : Pu.readAllF (f + 1) s false n = (n, s.drop 5, false) ∧ 5 ≤ s.length := by
  obtain ⟨x, rfl⟩ := prefix_app h
  have e : ([100, 111, 110, 101, 10] ++ x : List UInt8) = Pu.sDone ++ 10 :: x := rfl
  rw [e]
  have hl := line_done x
  have hw : (Pu.word (Pu.sDone ++ 10 :: x) == Pu.sDone) = true := by rw [word_cut hl]; rfl
  refine ⟨?_, by simp [Pu.sDone]⟩
  rw [Pu.readAllF_done _ _ _ _ hw]
  unfold Pu.exactly
  rw [hl]; rfl

theorem done_no {s : List UInt8} (h : Lib.hasPrefix s [100, 111, 110, 101, 10] = false) : (Pu.exactly Pu.sDone s false).2 = true := by
  unfold Pu.exactly
  obtain ⟨x, hx⟩ : ∃ x, Pu.line s false = x := ⟨_, rfl⟩
  obtain ⟨v, r1, bb⟩ := x
  rw [hx]
  cases bb
  · by_cases hv : v = Pu.sDone
    · exfalso
      subst hv
      rw [line_app hx] at h
      have : Lib.hasPrefix (Pu.sDone ++ 10 :: r1) [100, 111, 110, 101, 10] = true := by unfold Lib.hasPrefix; simp [Pu.sDone, List.isPrefixOf]
      rw [this] at h; cases h
    · have : (v == Pu.sDone) = false := by simpa using hv
      simp only
      rw [this]; rfl
  · exact Pu.need_bad _ _

theorem all_bad {s : List UInt8} (h : Lib.hasPrefix s [100, 111, 110, 101, 10] = false) (hc : (Cmd s).2 = true) (f n : Nat) : (Pu.readAllF (f + 1) s false n).1 = n ∧ (Pu.readAllF (f + 1) s false n).2.2 = true := by
  cases hw : (Pu.word s == Pu.sDone)
  · unfold Cmd at hc
    rw [hw] at hc
    simp only [Bool.false_eq_true, if_false] at hc
    rw [Pu.readAllF_bad _ _ _ _ hw hc]
    exact ⟨rfl, hc⟩
  · rw [Pu.readAllF_done _ _ _ _ hw]
    exact ⟨rfl, done_no h⟩

theorem all_step {s : List UInt8} (hc : (Cmd s).2 = false) (n : Nat) : Pu.readAllF (s.length + 1) s false n = Pu.readAllF ((Cmd s).1.length + 1) (Cmd s).1 false (n + 1) ∧ (Cmd s).1.length < s.length := by
  cases hw : (Pu.word s == Pu.sDone)
  · have e : Cmd s = Pu.readOne s false := by unfold Cmd; rw [hw]; rfl
    rw [e] at hc ⊢
    refine ⟨?_, Pu.readOne_lt' s false hc⟩
    rw [Pu.readAllF_step _ _ _ hw hc, hc]
  · unfold Cmd at hc; rw [hw] at hc; cases hc

theorem Rs.new (s : List UInt8) (w : World) (hs : s.length ≤ 8000) : Rs w.heap.size s s false (w.alloc (.cells #[.string ⟨s.toArray⟩, .int .i64 0, .bool false] 251)) := by
  have hC := Cb.new #[.string ⟨s.toArray⟩, .int .i64 0, .bool false] 251 w
  exact ⟨0, ⟨hC.cell 0, hC.cell 1, hC.cell 2, hC.frozen 0, hC.frozen 1, hC.frozen 2, by omega, hs⟩, fun _ => rfl⟩

set_option maxHeartbeats 1500000 in
set_option maxRecDepth 100000 in
theorem parse_any (s : List UInt8) (w : World) (hmax : s.length ≤ maxLen) :
    Calls Tryz.prog 98 #[.string ⟨s.toArray⟩] w fun e w' => (∃ a n c, e = .returned (.tuple #[.slice a n c, .int .i64 (Pu.check s).1, .int .i64 (Pu.check s).2])) ∧ Below w.heap.size w w' := by
  unfold maxLen at hmax
  by_cases hl : 8000 < s.length
  · have HE : Hid (Pu.check s = (0, 2)) := by show _ = _; unfold Pu.check; rw [if_pos hl]
    have hl2 : (8000 : Int) < (s.length : Int) := by omega
    go_enter Tryz.func98, Tryz.ntmps98
    go_wp2
    go_ret3
    exact ⟨⟨none, 0, 0, by rw [HE.out]; rfl⟩, Below.refl _ _⟩
  · have hs : s.length ≤ 8000 := by omega
    have hl2 : ¬ (8000 : Int) < (s.length : Int) := by omega
    have HE : Hid (Pu.check s = if (Pu.readAll s).2.2 then (((Pu.readAll s).1 : Int) + 1, 1)
        else if (Pu.readAll s).2.1 != [] then (((Pu.readAll s).1 : Int) + 2, 1)
        else if 60 < (Pu.readAll s).1 then (0, 2) else ((Pu.readAll s).1, 0)) := by show _ = _; unfold Pu.check; rw [if_neg hl]
    obtain ⟨i0, hi, hz0, hz1, hz2⟩ := info_parts Tryz.info255
    have hr0 := Rs.new s w hs
    have hk0 : Kx (Only w.heap.size) w (w.alloc (.cells #[.string ⟨s.toArray⟩, .int .i64 0, .bool false] 251)) := (Kx.refl _ w).alloc _
    have hfin : ∀ {w' : World}, Kx (Only w.heap.size) w w' → Below w.heap.size w w' := fun hk => hk.below (Nat.le_refl _) (fun k hk e => by unfold Only at e; omega)
    obtain ⟨R, HR⟩ : ∃ R, Hid (Pu.readAll s = R) := ⟨_, rfl⟩
    rw [HR.out] at HE
    go_enter Tryz.func98, Tryz.ntmps98
    go_wp2_with fail
    go_loopw [6] (fun v w' => ∃ (n : Nat) (s' : List UInt8) (xs : List Value), n + s'.length ≤ s.length ∧ Rs w.heap.size s s' false w' ∧ Kx (Only w.heap.size) w w' ∧ w'.ownsRow (w.heap.size + 1) 255 8 v n xs ∧ Hid (R = Pu.readAllF (s'.length + 1) s' false n)) (fun _ w' => leftR w.heap.size s.length w')
    case atStart => exact ⟨0, s, [], by omega, hr0, hk0, World.ownsRow_nil _ _ _ _, HR.out.symm⟩
    case round =>
      clear hr0 hk0
      obtain ⟨n, s1, xs, hn, hr, hk, hown, HF⟩ := hrel
      obtain ⟨av, cv, rfl⟩ := own_slice hown
      go_wp2_with fail
      refine (next_any w.heap.size s s1 false [100, 111, 110, 101, 10] _ hr).mono ?_
      rintro e w1 ⟨rfl, q, rfl⟩
      have hr1 := hr.drewN q
      have hk1 := hk.drewN q
      have hown1 := own_kept' hown ((Kx.refl (fun _ => False) _).drewN q) (fun _ _ _ => id)
      have hleft := hr.leftR
      have hleft' : leftR w.heap.size s.length wr = s1.length + 1 := hleft
      clear hr hk hown hleft
      generalize wr.drewN q = w1 at *
      cases hd : Lib.hasPrefix s1 [100, 111, 110, 101, 10]
      · have HD : Hid (Lib.hasPrefix s1 [100, 111, 110, 101, 10] = false) := hd
        clear hd
        go_wp2_with fail
        refine (command_any w.heap.size s s1 _ hr1).mono ?_
        rintro e w2 ⟨⟨v, v5, n5, c5, v6, n6, c6, v7, n7, c7, ⟨u0, u1, u2, u3, u4, rfl⟩, rfl⟩, hr2, hk2⟩
        have hx2 := hk1.trans hk2
        have hlw := hr1.lt
        have hown2 := own_kept hown1 hk2 (by omega)
        clear hr1 hk1 hown1
        have hsz := hx2.size
        have hw2 := hr2.lt
        cases hc : (Cmd s1).2
        · obtain ⟨hstep, hlt⟩ := all_step hc n
          have HF2 : Hid (R = Pu.readAllF ((Cmd s1).1.length + 1) (Cmd s1).1 false (n + 1)) := HF.out.trans hstep
          rw [hc] at hr2
          clear hstep hc HF HD
          generalize (Cmd s1).1 = s2 at *
          obtain ⟨a2, hrr, _⟩ := id hr2
          obtain ⟨_, _, c2, _, _, _, _, _⟩ := hrr
          go_wp2_with (at_builtin; refine wpList_append_own _ rfl (.tmp 27) (.tmp 29) 200 rfl (w.heap.size + 1) 255 i0 _ 8 136 Tryz.underlying200 hi hz0 hz1 hz2 rfl (by decide) _ _ _ rfl ((hown2.alloc _).alloc _) ⟨w2.heap.size + 1, 0, none⟩ 1 1 [.int .u8 u0, .string u1, .int .i64 u2, .string u3, .string u4, .slice v5 n5 c5, .slice v6 n6 c6, .slice v7 n7 c7] rfl rfl ?c1 ?c2 ?c3 ?c4 ?c5 ?_)
          case c1 => exact cells_newN _ _ [_, _, _, _, _, _, _, _] _
          case c2 => simp [Value.oneCell']
          case c3 => unfold maxLen; omega
          case c4 => omega
          case c5 => simp; omega
          intro v4 w4 hown4 hgrow4 _
          have hk4 : Kx (Only w.heap.size) w w4 := ((hx2.alloc _).alloc _).grown hgrow4 (fun k he => by have := (hown2.lt k he).1; omega)
          have hr4 := ((hr2.alloc _).alloc _).grown hgrow4 (fun k he => by have := (hown2.lt k he).1; omega)
          have hmea : leftR w.heap.size s.length w4 < leftR w.heap.size s.length wr := by
            rw [hr4.leftR, hleft']; simp; omega
          have HMea : Hid (leftR w.heap.size s.length w4 < leftR w.heap.size s.length wr) := hmea
          clear hmea
          go_wp2_with fail
          go_roundw
          case rel => exact ⟨n + 1, s2, _, by omega, hr4, hk4, hown4, HF2⟩
          case measure => exact HMea.out
        · obtain ⟨h1, h2⟩ := all_bad HD.out hc s1.length n
          rw [← HF.out] at h1 h2
          rw [hc] at hr2
          have HE2 : Hid (Pu.check s = ((n : Int) + 1, 1)) := by show _ = _; rw [HE.out, h2, h1]; rfl
          clear h1 h2 hc HF HD HE HR
          obtain ⟨a2, hrr, _⟩ := id hr2
          obtain ⟨_, _, c2, _, _, _, _, _⟩ := hrr
          go_wp2
          go_ret3
          exact ⟨⟨none, 0, 0, by rw [HE2.out]; rfl⟩, hfin (hx2.alloc _)⟩
      · obtain ⟨hR, h5⟩ := done_yes hd s1.length n
        rw [← HF.out] at hR
        obtain ⟨a1, hrr, he⟩ := id hr1
        obtain ⟨c0, c1, _, _, _, _, le1, _⟩ := hrr
        have hls : s1.length = s.length - a1 := by rw [← he rfl]; simp
        by_cases ht : a1 + 5 < s.length
        · have HE2 : Hid (Pu.check s = ((n : Int) + 2, 1)) := by
            show _ = _
            rw [HE.out, hR]
            have : (s1.drop 5 != []) = true := by
              have : s1.drop 5 ≠ [] := by intro e; have := congrArg List.length e; simp at this; omega
              simpa using this
            simp only [Bool.false_eq_true, if_false]
            rw [this]; rfl
          have ht2 : (a1 : Int) + 5 < (s.length : Int) := by omega
          clear hR hd HF HE HR he
          go_wp2
          go_ret3
          exact ⟨⟨none, 0, 0, by rw [HE2.out]; rfl⟩, hfin hk1⟩
        · have ht2 : ¬ (a1 : Int) + 5 < (s.length : Int) := by omega
          have hE3 : Pu.check s = if 60 < n then (0, 2) else ((n : Int), 0) := by
            rw [HE.out, hR]
            have : (s1.drop 5 != []) = false := by
              have : s1.drop 5 = [] := List.drop_eq_nil_iff.2 (by omega)
              rw [this]; rfl
            simp only [Bool.false_eq_true, if_false]
            rw [this]; rfl
          by_cases h60 : 60 < n
          · have HE2 : Hid (Pu.check s = (0, 2)) := by show _ = _; rw [hE3, if_pos h60]
            have h61 : (60 : Int) < (n : Int) := by omega
            clear hR hd HF HE HR he hE3
            go_wp2
            go_ret3
            exact ⟨⟨none, 0, 0, by rw [HE2.out]; rfl⟩, hfin hk1⟩
          · have HE2 : Hid (Pu.check s = ((n : Int), 0)) := by show _ = _; rw [hE3, if_neg h60]
            have h61 : ¬ (60 : Int) < (n : Int) := by omega
            clear hR hd HF HE HR he hE3
            go_wp2
            go_ret3
            exact ⟨⟨av, n, cv, by rw [HE2.out]; rfl⟩, hfin hk1⟩

set_option maxHeartbeats 400000 in
theorem refCheck_any (s : List UInt8) (w : World) (hmax : s.length ≤ maxLen) :
    Calls Tryz.prog 64 #[.string ⟨s.toArray⟩] w fun e w' => e = .returned (.tuple #[.int .i64 (Pu.check s).1, .int .i64 (Pu.check s).2]) ∧ Below w.heap.size w w' := by
  go_enter Tryz.func64, Tryz.ntmps64
  go_wp2_with fail
  refine (parse_any s _ hmax).mono ?_
  rintro e w1 ⟨⟨a, n, c, rfl⟩, hbel⟩
  go_wp2
  go_ret2
  exact ⟨rfl, hbel⟩

end Rf
end Go.Proofs.YtepgoppgblfjbaaGreatDoor
