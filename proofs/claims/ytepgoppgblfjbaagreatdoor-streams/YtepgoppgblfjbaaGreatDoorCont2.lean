/- The commands of a stream: plain facts. -/
import Derived.Test.YtepgoppgblfjbaaGreatDoorCont
import Derived.Test.YtepgoppgblfjbaaGreatDoorLens2
namespace Go.Proofs.YtepgoppgblfjbaaGreatDoor
namespace Pu

theorem readAllV_fuel : ∀ (f g : Nat) (s : List UInt8) (bad : Bool), s.length < f → s.length < g → readAllV f s bad = readAllV g s bad := by
  intro f
  induction f with
  | zero => intro g s bad h; omega
  | succ f ih =>
    intro g s bad h hg
    cases g with
    | zero => omega
    | succ g =>
      unfold readAllV
      split
      · rfl
      · split
        · rfl
        · rename_i hb
          have := readOne_lt' s bad (by simpa using hb)
          rw [ih g _ _ (by omega) (by omega)]

theorem readAllV_step (s : List UInt8) (bad : Bool) (h1 : (word s == sDone) = false) (h2 : (readOne s bad).2 = false) :
    readAllV (s.length + 1) s bad = readOneV s bad :: readAllV ((readOne s bad).1.length + 1) (readOne s bad).1 (readOne s bad).2 := by
  have hl := readOne_lt' s bad h2
  conv => lhs; unfold readAllV
  rw [h1, h2]
  simp only [Bool.false_eq_true, if_false]
  rw [readAllV_fuel _ ((readOne s bad).1.length + 1) _ _ (by omega) (by omega)]

theorem readAllV_done (f : Nat) (s : List UInt8) (bad : Bool) (h1 : (word s == sDone) = true) : readAllV (f + 1) s bad = [] := by
  unfold readAllV; rw [h1]; rfl

theorem readAllV_bad (f : Nat) (s : List UInt8) (bad : Bool) (h1 : (word s == sDone) = false) (h2 : (readOne s bad).2 = true) : readAllV (f + 1) s bad = [] := by
  unfold readAllV; rw [h1, h2]; rfl

theorem readAllF_len : ∀ (f : Nat) (s : List UInt8) (bad : Bool) (n : Nat), (readAllF f s bad n).1 = n + (readAllV f s bad).length := by
  intro f
  induction f with
  | zero => intro s bad n; rfl
  | succ f ih =>
    intro s bad n
    unfold readAllF readAllV
    split
    · rfl
    · split
      · rfl
      · rw [ih]; simp; omega

theorem commands_len (s : List UInt8) : (readAll s).1 = (commands s).length := by
  unfold readAll commands
  rw [readAllF_len]; omega

end Pu
end Go.Proofs.YtepgoppgblfjbaaGreatDoor
