/- Rows of cells: two facts. -/
import Derived.Test.YtepgoppgblfjbaaGreatDoorBlock
import Derived.OwnWalk
namespace Go.Proofs.YtepgoppgblfjbaaGreatDoor
open Go.RowKit

theorem own_kept' {base : Nat} {e : TypeId} {size : Nat} {v : Value} {n : Nat} {xs : List Value} {X : Nat → Prop} {w w' : World} (h : w.ownsRow base e size v n xs) (hk : Kx X w w') (hX : ∀ k, k < w.heap.size → base ≤ k → ¬ X k) : w'.ownsRow base e size v n xs := by
  refine ⟨h.1, ?_⟩
  rcases h.2 with hn | ⟨g, cap, cur, rfl, hbg, hgg, rest⟩
  · exact .inl hn
  · refine .inr ⟨g, cap, cur, rfl, hbg, ?_, rest⟩
    have hl := (Array.getElem?_eq_some_iff.1 hgg).1
    rw [hk.block g hl (hX g hl hbg)]
    exact hgg

theorem cells_new (w : World) (cs : List Value) (t : TypeId) : ∀ (j : Nat) (u : Value), cs[j]? = some u → (w.alloc (.cells cs.toArray t)).cell? ((⟨w.heap.size, 0, none⟩ : Addr).add j) = some u := by
  intro j u hu
  have e : (⟨w.heap.size, 0, none⟩ : Addr).add j = ⟨w.heap.size, j, none⟩ := by unfold Addr.add; split <;> simp_all
  rw [e, (Cb.new cs.toArray t w).cell j]
  simpa using hu

end Go.Proofs.YtepgoppgblfjbaaGreatDoor
