/- What a world that fits the program holds. -/
import Derived.Test.YtepgoppgblfjbaaGreatDoorCheck
import Derived.Shelf.Vars
namespace Go.Proofs.YtepgoppgblfjbaaGreatDoor
open Go.RowKit

theorem max_of {w : World} (h : w.ShapedOpen Tryz.prog) : ∃ m, w.cell? ⟨1, 0, none⟩ = some (.int .i64 m) :=
  Go.Proofs.cell_of_shapedOpen_int (zero := #[.int .i64 0]) (t := 3) h (of_decide_eq_true (by kernel_rfl)) (by kernel_rfl) rfl (by kernel_rfl) (by kernel_rfl) Tryz.underlying3

theorem size_of {w : World} (h : w.ShapedOpen Tryz.prog) : 6 < w.heap.size := by
  obtain ⟨o, o0, h1, _⟩ := h.2 7 (of_decide_eq_true (by kernel_rfl)) (of_decide_eq_true (by kernel_rfl))
  have := (Array.getElem?_eq_some_iff.1 h1).1
  omega

theorem mx_of {w : World} (h : w.ShapedOpen Tryz.prog) : ∃ m, Mx m w := by
  obtain ⟨m, hm⟩ := max_of h
  exact ⟨m, size_of h, hm⟩

end Go.Proofs.YtepgoppgblfjbaaGreatDoor
