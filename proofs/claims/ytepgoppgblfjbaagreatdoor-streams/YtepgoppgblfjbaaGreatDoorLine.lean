/- The reader's small methods: fail, need, line, exactly, after. -/
import Derived.Test.YtepgoppgblfjbaaGreatDoorArr
import Derived.Test.YtepgoppgblfjbaaGreatDoorPure
import Derived.Test.YtepgoppgblfjbaaGreatDoorShelf
namespace Go.Proofs.YtepgoppgblfjbaaGreatDoor
open Go.RowKit

theorem Rd.set {b : Nat} {s : List UInt8} {bad : Bool} {w : World} (h : Rd b s bad w) (s' : List UInt8) (hs : s'.length ≤ 8000) : Rd b s' bad (w.setCell ⟨b, 0, none⟩ (.string ⟨s'.toArray⟩)) := by
  obtain ⟨c0, c1, f0, f1, pos, ⟨m, hm⟩, short⟩ := h
  refine ⟨World.cell?_setCell_same _ _ _ c0, ?_, by simpa using f0, by simpa using f1, pos, ⟨m, ?_⟩, hs⟩
  · rw [World.cell?_setCell_other _ _ _ _ (by simp)]; exact c1
  · rw [World.cell?_setCell_other _ _ _ _ (by simp only [ne_eq, Addr.mk.injEq, not_and]; omega)]; exact hm

theorem Rd.setBad {b : Nat} {s : List UInt8} {bad : Bool} {w : World} (h : Rd b s bad w) (bad' : Bool) : Rd b s bad' (w.setCell ⟨b, 1, none⟩ (.bool bad')) := by
  obtain ⟨c0, c1, f0, f1, pos, ⟨m, hm⟩, short⟩ := h
  refine ⟨?_, World.cell?_setCell_same _ _ _ c1, by simpa using f0, by simpa using f1, pos, ⟨m, ?_⟩, short⟩
  · rw [World.cell?_setCell_other _ _ _ _ (by simp)]; exact c0
  · rw [World.cell?_setCell_other _ _ _ _ (by simp only [ne_eq, Addr.mk.injEq, not_and]; omega)]; exact hm

set_option maxHeartbeats 400000 in
theorem fail_any (b : Nat) (s : List UInt8) (bad : Bool) (w : World) (h : Rd b s bad w) :
    Calls Tryz.prog 163 #[.pointer (some ⟨b, 0, none⟩)] w fun e w' => e = .returned (.tuple #[]) ∧ Rd b [] true w' ∧ Kx (Only b) w w' := by
  have h' := h
  obtain ⟨c0, c1, f0, f1, pos, ⟨m, hm⟩, short⟩ := h
  go_enter Tryz.func163, Tryz.ntmps163
  go_wp2
  go_end0
  exact ⟨rfl, (h'.setBad true).set [] (by simp), ((Kx.refl _ _).only_set _).only_set _⟩

set_option maxHeartbeats 400000 in
theorem need_any (b : Nat) (s : List UInt8) (bad : Bool) (ok : Bool) (w : World) (h : Rd b s bad w) :
    Calls Tryz.prog 161 #[.pointer (some ⟨b, 0, none⟩), .bool ok] w fun e w' => e = .returned (.tuple #[]) ∧ Rd b (Pu.need ok s bad).1 (Pu.need ok s bad).2 w' ∧ Kx (Only b) w w' := by
  cases ok
  · go_enter Tryz.func161, Tryz.ntmps161
    go_wp2_with (go_at_call 163; refine (fail_any b s bad _ h).mono ?_; rintro e w' ⟨rfl, hr, hk⟩)
    go_end0
    exact ⟨rfl, hr, hk⟩
  · go_enter Tryz.func161, Tryz.ntmps161
    go_wp2
    go_end0
    exact ⟨rfl, h, Kx.refl _ _⟩

theorem cut_any (s sep : List UInt8) (m : Int) (w : World) (hs : s.length ≤ 8000) (hm : w.cell? ⟨1, 0, none⟩ = some (.int .i64 m)) :
    Calls Tryz.prog 136 #[.string ⟨s.toArray⟩, .string ⟨sep.toArray⟩] w fun e w' => e = .returned (.tuple #[.string ⟨(Lib.cut s sep).1.toArray⟩, .string ⟨(Lib.cut s sep).2.1.toArray⟩, .bool (Lib.cut s sep).2.2]) ∧ ∃ n, w' = w.drewN n :=
  Tryz.strings_Cut _ _ m w (by simp [ByteArray.size]; omega) hm

set_option maxHeartbeats 400000 in
theorem line_any (b : Nat) (s : List UInt8) (bad : Bool) (w : World) (h : Rd b s bad w) :
    Calls Tryz.prog 162 #[.pointer (some ⟨b, 0, none⟩)] w fun e w' => e = .returned (.string ⟨(Pu.line s bad).1.toArray⟩) ∧ Rd b (Pu.line s bad).2.1 (Pu.line s bad).2.2 w' ∧ Kx (Only b) w w' := by
  have h' := h
  obtain ⟨c0, c1, f0, f1, pos, ⟨m, hm⟩, short⟩ := h
  have hl := (Pu.cut_lens s [10]).2
  go_enter Tryz.func162, Tryz.ntmps162
  go_wp2_with fail
  refine (cut_any s [10] m _ short hm).mono ?_
  rintro e w1 ⟨rfl, n, rfl⟩
  cases hc : (Lib.cut s [10]).2.2
  · have HL : Hid (Pu.line s bad = ([], [], true)) := by show _ = _; simp [Pu.line, hc]
    clear hc
    go_wp2_with (go_at_call 163; refine (fail_any b s bad _ (h'.drewN n)).mono ?_; rintro e w' ⟨rfl, hr, hk⟩)
    go_ret
    exact ⟨by rw [HL.out]; rfl, by rw [HL.out]; exact hr, ((Kx.refl _ _).drewN n).trans hk⟩
  · have HL : Hid (Pu.line s bad = ((Lib.cut s [10]).1, (Lib.cut s [10]).2.1, bad)) := by show _ = _; simp [Pu.line, hc]
    clear hc
    go_wp2
    go_ret
    exact ⟨by rw [HL.out]; rfl, by rw [HL.out]; exact (h'.drewN n).set _ (by show (Lib.cut s [10]).2.1.length ≤ 8000; omega), ((Kx.refl _ _).drewN n).only_set _⟩

set_option maxHeartbeats 400000 in
theorem exactly_any (b : Nat) (s : List UInt8) (bad : Bool) (l : List UInt8) (w : World) (h : Rd b s bad w) :
    Calls Tryz.prog 119 #[.pointer (some ⟨b, 0, none⟩), .string ⟨l.toArray⟩] w fun e w' => e = .returned (.tuple #[]) ∧ Rd b (Pu.exactly l s bad).1 (Pu.exactly l s bad).2 w' ∧ Kx (Only b) w w' := by
  go_enter Tryz.func119, Tryz.ntmps119
  go_wp2_with fail
  refine (line_any b s bad _ h).mono ?_
  rintro e w1 ⟨rfl, hr, hk⟩
  have HE : Hid (Pu.exactly l s bad = Pu.need ((Pu.line s bad).1 == l) (Pu.line s bad).2.1 (Pu.line s bad).2.2) := rfl
  generalize Pu.line s bad = x at *
  obtain ⟨x0, x1, x2⟩ := x
  go_wp2_with fail
  refine (need_any b _ _ _ _ hr).mono ?_
  rintro e w2 ⟨rfl, hr2, hk2⟩
  go_wp2
  go_end0
  exact ⟨rfl, by rw [HE.out]; exact hr2, hk.trans hk2⟩

set_option maxHeartbeats 400000 in
theorem after_any (b : Nat) (s : List UInt8) (bad : Bool) (l : List UInt8) (w : World) (h : Rd b s bad w) :
    Calls Tryz.prog 288 #[.pointer (some ⟨b, 0, none⟩), .string ⟨l.toArray⟩] w fun e w' => e = .returned (.string ⟨(Pu.after l s bad).1.toArray⟩) ∧ Rd b (Pu.after l s bad).2.1 (Pu.after l s bad).2.2 w' ∧ Kx (Only b) w w' := by
  go_enter Tryz.func288, Tryz.ntmps288
  go_wp2_with fail
  refine (line_any b s bad _ h).mono ?_
  rintro e w1 ⟨rfl, hr, hk⟩
  have HE : Hid (Pu.after l s bad = (Lib.trimPrefix (Pu.line s bad).1 l, Pu.need (Lib.hasPrefix (Pu.line s bad).1 l) (Pu.line s bad).2.1 (Pu.line s bad).2.2)) := rfl
  generalize Pu.line s bad = x at *
  obtain ⟨x0, x1, x2⟩ := x
  go_wp2_with fail
  refine (Tryz.strings_CutPrefix ⟨x0.toArray⟩ ⟨l.toArray⟩ _).mono ?_
  rintro e w2 ⟨rfl, rfl⟩
  go_wp2_with fail
  refine (need_any b _ _ _ _ hr).mono ?_
  rintro e w2 ⟨rfl, hr2, hk2⟩
  go_wp2
  go_ret
  exact ⟨by rw [HE.out]; rfl, by rw [HE.out]; exact hr2, hk.trans hk2⟩

end Go.Proofs.YtepgoppgblfjbaaGreatDoor
