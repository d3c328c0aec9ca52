import Derived.Test.YtepgoppgblfjbaaGreatDoorTw07
import Derived.Shelf.Vars
import Derived.Test.YtepgoppgblfjbaaGreatDoorRows
import Derived.ProofKit
import Derived.Deep.DeepHandedRow
import Derived.Test.YtepgoppgblfjbaaGreatDoorTw09
import Derived.OpenShut
import Derived.ChangeOld
import Derived.Deep.Slices
import Derived.Lib.LaidTab
import Derived.Test.YtepgoppgblfjbaaGreatDoorTw13
import Derived.LaidSub
import Derived.LaidMore
import Derived.Test.YtepgoppgblfjbaaGreatDoorTw32
/- What a world that fits the program holds. -/
namespace Go.Proofs.YtepgoppgblfjbaaGreatDoor
open Go.RowKit

theorem max_of {w : World} (h : w.ShapedOpen Tryz.prog) : ∃ m, w.cell? ⟨1, 0, none⟩ = some (.int .i64 m) :=
  Go.Proofs.cell_of_shapedOpen_int (zero := #[.int .i64 0]) (t := 3) h (of_decide_eq_true (by kernel_rfl)) (by kernel_rfl) rfl (by kernel_rfl) (by kernel_rfl) Tryz.underlying3

theorem size_of {w : World} (h : w.ShapedOpen Tryz.prog) : 6 < w.heap.size := by
  obtain ⟨o, o0, h1, _⟩ := h.2 7 (of_decide_eq_true (by kernel_rfl)) (of_decide_eq_true (by kernel_rfl))
  have := (Array.getElem?_eq_some_iff.1 h1).1
  omega

theorem mx_of {w : World} (h : w.ShapedOpen Tryz.prog) : ∃ m, Mx m w := by
  obtain ⟨m, hm⟩ := max_of h
  exact ⟨m, size_of h, hm⟩

end Go.Proofs.YtepgoppgblfjbaaGreatDoor

/- The world that the witnesses begin with: all variables lie as the program's text lays them. -/
namespace Go.Proofs.YtepgoppgblfjbaaGreatDoor

noncomputable def startW (os : Os) : World := { World.holding Tryz.prog os ⟨#[], #[], []⟩ with heap := (Array.modify (Array.modify (Array.modify (Array.modify (Array.modify (Array.modify (World.holding Tryz.prog os ⟨#[], #[], []⟩).heap 0 (fun | .cells _ t frozen => .cells #[.int .u64 1, .int .u64 10, .int .u64 100, .int .u64 1000, .int .u64 10000, .int .u64 100000, .int .u64 1000000, .int .u64 10000000, .int .u64 100000000, .int .u64 1000000000, .int .u64 10000000000, .int .u64 100000000000, .int .u64 1000000000000, .int .u64 10000000000000, .int .u64 100000000000000, .int .u64 1000000000000000, .int .u64 10000000000000000, .int .u64 100000000000000000, .int .u64 1000000000000000000, .int .u64 10000000000000000000] t frozen | o => o)) 2 (fun | .cells _ t frozen => .cells #[.string ⟨#[]⟩, .string ⟨#[98, 108, 111, 98]⟩, .string ⟨#[116, 114, 101, 101]⟩, .string ⟨#[99, 111, 109, 109, 105, 116]⟩, .string ⟨#[116, 97, 103]⟩] t frozen | o => o)) 3 (fun | .cells _ t frozen => .cells #[.int .u8 0, .int .u8 1, .int .u8 28, .int .u8 2, .int .u8 29, .int .u8 14, .int .u8 24, .int .u8 3, .int .u8 30, .int .u8 22, .int .u8 20, .int .u8 15, .int .u8 25, .int .u8 17, .int .u8 4, .int .u8 8, .int .u8 31, .int .u8 27, .int .u8 13, .int .u8 23, .int .u8 21, .int .u8 19, .int .u8 16, .int .u8 7, .int .u8 26, .int .u8 12, .int .u8 18, .int .u8 6, .int .u8 11, .int .u8 5, .int .u8 10, .int .u8 9] t frozen | o => o)) 4 (fun | .cells _ t frozen => .cells #[.int .u8 0, .int .u8 1, .int .u8 56, .int .u8 2, .int .u8 57, .int .u8 49, .int .u8 28, .int .u8 3, .int .u8 61, .int .u8 58, .int .u8 42, .int .u8 50, .int .u8 38, .int .u8 29, .int .u8 17, .int .u8 4, .int .u8 62, .int .u8 47, .int .u8 59, .int .u8 36, .int .u8 45, .int .u8 43, .int .u8 51, .int .u8 22, .int .u8 53, .int .u8 39, .int .u8 33, .int .u8 30, .int .u8 24, .int .u8 18, .int .u8 12, .int .u8 5, .int .u8 63, .int .u8 55, .int .u8 48, .int .u8 27, .int .u8 60, .int .u8 41, .int .u8 37, .int .u8 16, .int .u8 46, .int .u8 35, .int .u8 44, .int .u8 21, .int .u8 52, .int .u8 32, .int .u8 23, .int .u8 11, .int .u8 54, .int .u8 26, .int .u8 40, .int .u8 15, .int .u8 34, .int .u8 20, .int .u8 31, .int .u8 10, .int .u8 25, .int .u8 14, .int .u8 19, .int .u8 9, .int .u8 13, .int .u8 8, .int .u8 7, .int .u8 6] t frozen | o => o)) 5 (fun | .cells _ t frozen => .cells (Go.Pinned.utf8FirstZ.map (fun z : Nat => Value.int .u8 (z : Int))).toArray t frozen | o => o)) 6 (fun | .cells _ t frozen => .cells #[.int .u8 128, .int .u8 191, .int .u8 160, .int .u8 191, .int .u8 128, .int .u8 159, .int .u8 144, .int .u8 191, .int .u8 128, .int .u8 143, .int .u8 0, .int .u8 0, .int .u8 0, .int .u8 0, .int .u8 0, .int .u8 0, .int .u8 0, .int .u8 0, .int .u8 0, .int .u8 0, .int .u8 0, .int .u8 0, .int .u8 0, .int .u8 0, .int .u8 0, .int .u8 0, .int .u8 0, .int .u8 0, .int .u8 0, .int .u8 0, .int .u8 0, .int .u8 0] t frozen | o => o)) }

theorem own : ownKnob Tryz.prog.godebug = none := by kernel_rfl
theorem laidOut : laidOutB Tryz.prog = true := by kernel_rfl

end Go.Proofs.YtepgoppgblfjbaaGreatDoor

/- Slices of acts that came in. -/
namespace Go.Proofs.YtepgoppgblfjbaaGreatDoor
open Go.ChangeShapes Go.WideShapes Go.ChangeAt Go.RowKit Go.Deep

theorem cells33 : Tryz.prog.cellsOf 38 = 5 := by kernel_rfl
theorem cells3 : Tryz.prog.cellsOf 3 = 1 := by kernel_rfl

theorem i64_of {n : Int} (h : (Lit.int .i64 n).wf = true) : I64 n := by
  have h1 := bounds_i64 h
  unfold I64; omega

set_option maxRecDepth 100000 in
/-- An act's cells, off its reading. -/
theorem act_of {H : Type} {enc : TypeId × Value → H} {w : World} {base : Nat} {spare : Nat → Bool} {held : Bool} {fuel : Nat} {cs : List Value} {x : DataW H × List MemPlace}
    (h : DataW.trod enc Tryz.prog w base spare held fuel 38 cs = some x) :
    ∃ a : Ac, a.ok ∧ cs = [.int .i64 a.K, .int .i64 a.A, .int .i64 a.B, .int .i64 a.C, .int .i64 a.D] := by
  obtain ⟨xs, n, _, rfl, hl, hlen, hf⟩ := DataW.trod_struct Tryz.underlying38 h
  rw [cells33] at hl
  match xs, hlen, cs, hl with
  | [y0, y1, y2, y3, y4], _, [c0, c1, c2, c3, c4], _ =>
    have f0 : DataW.trod enc Tryz.prog w base spare held n 3 (([c0, c1, c2, c3, c4].drop 0).take (Tryz.prog.cellsOf 3)) = some y0 := hf 0 _ rfl
    have f1 : DataW.trod enc Tryz.prog w base spare held n 3 (([c0, c1, c2, c3, c4].drop 1).take (Tryz.prog.cellsOf 3)) = some y1 := hf 1 _ rfl
    have f2 : DataW.trod enc Tryz.prog w base spare held n 3 (([c0, c1, c2, c3, c4].drop 2).take (Tryz.prog.cellsOf 3)) = some y2 := hf 2 _ rfl
    have f3 : DataW.trod enc Tryz.prog w base spare held n 3 (([c0, c1, c2, c3, c4].drop 3).take (Tryz.prog.cellsOf 3)) = some y3 := hf 3 _ rfl
    have f4 : DataW.trod enc Tryz.prog w base spare held n 3 (([c0, c1, c2, c3, c4].drop 4).take (Tryz.prog.cellsOf 3)) = some y4 := hf 4 _ rfl
    rw [cells3] at f0 f1 f2 f3 f4
    obtain ⟨n0, e0, _, w0⟩ := DataW.trod_int Tryz.underlying3 f0
    obtain ⟨n1, e1, _, w1⟩ := DataW.trod_int Tryz.underlying3 f1
    obtain ⟨n2, e2, _, w2⟩ := DataW.trod_int Tryz.underlying3 f2
    obtain ⟨n3, e3, _, w3⟩ := DataW.trod_int Tryz.underlying3 f3
    obtain ⟨n4, e4, _, w4⟩ := DataW.trod_int Tryz.underlying3 f4
    simp at e0 e1 e2 e3 e4
    subst e0 e1 e2 e3 e4
    exact ⟨⟨n0, n1, n2, n3, n4⟩, ⟨i64_of w0, i64_of w1, i64_of w2, i64_of w3, i64_of w4⟩, rfl⟩

/-- A slice of acts that came in. -/
theorem stream_of {H : Type} {enc : TypeId × Value → H} {W : World} {spare : Nat → Bool} {held : Bool} {fuel : Nat} {v : Value} {x : DataW H × List MemPlace}
    (h : DataW.trod enc Tryz.prog W 0 spare held fuel 25 [v] = some x) :
    ∃ (f : Nat → Ac) (len : Nat), ∀ w1 : World, (∀ X, Kx X W w1) → Calls Tryz.prog 17 #[v] w1 fun e w' => e = .returned (.string ⟨(streamOf f len).toArray⟩) ∧ ∀ X, Kx X w1 w' := by
  rcases open_slice Tryz.underlying25 h with ⟨hcs, _⟩ | ⟨a, len, cap, m, n, D, Pl, hcs, _, hl, hm, hmm, _, hel⟩
  · simp at hcs
    subst hcs
    exact ⟨fun _ => ⟨0, 0, 0, 0, 0⟩, 0, fun w1 _ => streamL_none none 0 _ w1⟩
  · simp at hcs
    subst hcs
    by_cases h0 : len = 0
    · subst h0
      exact ⟨fun _ => ⟨0, 0, 0, 0, 0⟩, 0, fun w1 _ => streamL_none (some a) cap _ w1⟩
    · have hlm : len ≤ m := by rw [hmm]; split <;> omega
      rw [cells33] at hel
      have hel2 : ∀ i, i < len → ∃ c : Ac, c.ok ∧ W.cells? 0 (a.add (i * 5)) 5 = some [.int .i64 c.K, .int .i64 c.A, .int .i64 c.B, .int .i64 c.C, .int .i64 c.D] := by
        intro i hi
        obtain ⟨cs, h1, h2⟩ := hel i (by omega)
        obtain ⟨c, hc, rfl⟩ := act_of h2
        exact ⟨c, hc, h1⟩
      obtain ⟨f, hf⟩ : ∃ f : Nat → Ac, ∀ i, i < len → (f i).ok ∧ W.cells? 0 (a.add (i * 5)) 5 = some [.int .i64 (f i).K, .int .i64 (f i).A, .int .i64 (f i).B, .int .i64 (f i).C, .int .i64 (f i).D] := by
        have : Inhabited Ac := ⟨⟨0, 0, 0, 0, 0⟩⟩
        exact choose_lt hel2
      obtain ⟨b, off, spot⟩ := a
      have hspot : spot = none := by
        have hc := (World.cells?_some (hf 0 (by omega)).2).2.2 0 (by omega)
        simpa [Addr.add] using World.cell?_spot hc
      subst hspot
      have hadd : ∀ i j, ((⟨b, off, none⟩ : Addr).add (i * 5)).add j = ⟨b, off + i * 5 + j, none⟩ := by
        intro i j
        rw [add_add]
        unfold Addr.add; split <;> simp_all [Nat.add_assoc]
      have hcell : ∀ i, i < len → ∀ j, j < 5 → W.cell? ⟨b, off + i * 5 + j, none⟩ = [Value.int .i64 (f i).K, .int .i64 (f i).A, .int .i64 (f i).B, .int .i64 (f i).C, .int .i64 (f i).D][j]? := by
        intro i hi j hj
        rw [← hadd]
        exact (World.cells?_some (hf i hi).2).2.2 j hj
      refine ⟨f, len, fun w1 hk => ?_⟩
      have hk1 : ∀ i, i < len → ∀ j, j < 5 → w1.cell? ⟨b, off + i * 5 + j, none⟩ = [Value.int .i64 (f i).K, .int .i64 (f i).A, .int .i64 (f i).B, .int .i64 (f i).C, .int .i64 (f i).D][j]? := by
        intro i hi j hj
        have e := hcell i hi j hj
        have hl : (⟨b, off + i * 5 + j, none⟩ : Addr).block < W.heap.size := by
          rw [List.getElem?_eq_getElem (by simpa using hj)] at e
          exact lt_of_cell e
        rw [(hk (fun _ => False)).cell hl id]
        exact e
      exact streamL_any b off len cap f w1 (by omega) (fun i hi => (hf i hi).1) (fun i hi => hk1 i hi 0 (by omega)) (fun i hi => hk1 i hi 1 (by omega)) (fun i hi => hk1 i hi 2 (by omega)) (fun i hi => hk1 i hi 3 (by omega)) (fun i hi => hk1 i hi 4 (by omega))

end Go.Proofs.YtepgoppgblfjbaaGreatDoor

/- What the package-level variables hold where the program's text laid them; slices of acts, cell by cell. -/
namespace Go.Proofs.YtepgoppgblfjbaaGreatDoor
open Go.ChangeShapes Go.WideShapes Go.ChangeAt Go.RowKit Go.Deep

set_option maxRecDepth 100000 in
theorem gl_of {W : World} (h : laidMetH Tryz.prog Rows.followedRow.laid W) (hsh : W.ShapedOpen Tryz.prog) : Gl W := by
  rw [MakeChecks.laidMetH_plain _ _ _ (by kernel_rfl)] at h
  refine ⟨max_of hsh, ?_, ?_⟩
  · have h1 := h.filter (fun x => x.1 == "internal/strconv.uint64pow10")
    rw [show (Rows.followedRow.laid.filter (fun x => x.1 == "internal/strconv.uint64pow10")) = [("internal/strconv.uint64pow10", Lib.tabData .u64 Lib.pow10Tab)] by kernel_rfl] at h1
    exact Lib.tabIs_of_head (g := 0) (t := 397) (e := 229) (n := 20) (by kernel_rfl) (by kernel_rfl) (by kernel_rfl) (by kernel_rfl) (by kernel_rfl) (by kernel_rfl) h1
  · have h1 := h.filter (fun x => x.1 == "braid/object.kindWords")
    rw [show (Rows.followedRow.laid.filter (fun x => x.1 == "braid/object.kindWords")) = [("braid/object.kindWords", .agg (Sh.kindW.map fun s => .lit (.string s)))] by kernel_rfl] at h1
    obtain ⟨ps, ⟨g, t, cs, fuel, p, q, hg, ht, hv, hd, _, _⟩, _, _⟩ := h1
    obtain rfl := Option.some.inj ((show Tryz.prog.globalNamed "braid/object.kindWords" = some 2 by kernel_rfl).symm.trans hg)
    obtain rfl := Option.some.inj ((show (Tryz.prog.globals[2]?).map (·.type) = some 421 by kernel_rfl).symm.trans ht)
    have hu : Tryz.prog.underlying 421 = some (.array 5 9) := by kernel_rfl
    obtain ⟨xs, m, _, ex, hlen, hl, hel⟩ := DataW.trod_array hu hd
    have c9 : Tryz.prog.cellsOf 9 = 1 := by kernel_rfl
    intro j s hs
    have hj : j < 5 := (List.getElem?_eq_some_iff.1 hs).1
    have hE := hel j hj
    rw [c9, Nat.mul_one, List.getElem?_eq_getElem (by omega)] at hE
    obtain ⟨z, e1, e2, _⟩ := DataW.trod_string Tryz.underlying9 hE
    have e3 : (xs.map (·.1)) = Sh.kindW.map fun s => (DataW.lit (.string s) : DataW Unit) := (DataW.agg.inj (Prod.mk.inj ex).1).symm
    have e4 : (xs.map (·.1))[j]? = (Sh.kindW.map fun s => (DataW.lit (.string s) : DataW Unit))[j]? := by rw [e3]
    rw [List.getElem?_map, List.getElem?_map, List.getElem?_eq_getElem (by omega : j < xs.length), hs, e2] at e4
    have hz : z.data.toList = s := by
      simp only [Option.map_some, Option.some.injEq, DataW.lit.injEq, Lit.string.injEq] at e4
      exact e4
    rw [World.var?_cell hg hv j]
    have h0 : ((cs.toList.drop j).take 1)[0]? = some (.string z) := by rw [e1]; rfl
    have h1 : cs.toList[j]? = some (.string z) := by simpa using h0
    have hz2 : z = ⟨s.toArray⟩ := by
      rw [← hz]
    rw [← hz2]
    simpa using h1

/-- The acts that came in, cell by cell. -/
structure ActsAt (W : World) (a : Option Addr) (len : Nat) (f : Nat → Ac) : Prop where
  small : len ≤ maxLen
  ok : ∀ i, i < len → (f i).ok
  at' : len ≠ 0 → ∃ b off, a = some ⟨b, off, none⟩ ∧ ∀ i, i < len → ∀ j, j < 5 → W.cell? ⟨b, off + i * 5 + j, none⟩ = [Value.int .i64 (f i).K, .int .i64 (f i).A, .int .i64 (f i).B, .int .i64 (f i).C, .int .i64 (f i).D][j]?

theorem acts_of {H : Type} {enc : TypeId × Value → H} {W : World} {spare : Nat → Bool} {held : Bool} {fuel : Nat} {v : Value} {x : DataW H × List MemPlace}
    (h : DataW.trod enc Tryz.prog W 0 spare held fuel 25 [v] = some x) :
    ∃ (f : Nat → Ac) (a : Option Addr) (len cap : Nat), v = .slice a len cap ∧ ActsAt W a len f := by
  rcases open_slice Tryz.underlying25 h with ⟨hcs, _⟩ | ⟨a, len, cap, m, n, D, Pl, hcs, _, hl, hm, hmm, _, hel⟩
  · simp at hcs
    subst hcs
    exact ⟨fun _ => ⟨0, 0, 0, 0, 0⟩, none, 0, 0, rfl, by decide, fun i hi => absurd hi (by omega), fun h => absurd rfl h⟩
  · simp at hcs
    subst hcs
    by_cases h0 : len = 0
    · subst h0
      exact ⟨fun _ => ⟨0, 0, 0, 0, 0⟩, some a, 0, cap, rfl, by decide, fun i hi => absurd hi (by omega), fun h => absurd rfl h⟩
    · have hlm : len ≤ m := by rw [hmm]; split <;> omega
      rw [cells33] at hel
      have hel2 : ∀ i, i < len → ∃ c : Ac, c.ok ∧ W.cells? 0 (a.add (i * 5)) 5 = some [.int .i64 c.K, .int .i64 c.A, .int .i64 c.B, .int .i64 c.C, .int .i64 c.D] := by
        intro i hi
        obtain ⟨cs, h1, h2⟩ := hel i (by omega)
        obtain ⟨c, hc, rfl⟩ := act_of h2
        exact ⟨c, hc, h1⟩
      obtain ⟨f, hf⟩ : ∃ f : Nat → Ac, ∀ i, i < len → (f i).ok ∧ W.cells? 0 (a.add (i * 5)) 5 = some [.int .i64 (f i).K, .int .i64 (f i).A, .int .i64 (f i).B, .int .i64 (f i).C, .int .i64 (f i).D] := by
        have : Inhabited Ac := ⟨⟨0, 0, 0, 0, 0⟩⟩
        exact choose_lt hel2
      obtain ⟨b, off, spot⟩ := a
      have hspot : spot = none := by
        have hc := (World.cells?_some (hf 0 (by omega)).2).2.2 0 (by omega)
        simpa [Addr.add] using World.cell?_spot hc
      subst hspot
      have hadd : ∀ i j, ((⟨b, off, none⟩ : Addr).add (i * 5)).add j = ⟨b, off + i * 5 + j, none⟩ := by
        intro i j
        rw [add_add]
        unfold Addr.add; split <;> simp_all [Nat.add_assoc]
      have hcell : ∀ i, i < len → ∀ j, j < 5 → W.cell? ⟨b, off + i * 5 + j, none⟩ = [Value.int .i64 (f i).K, .int .i64 (f i).A, .int .i64 (f i).B, .int .i64 (f i).C, .int .i64 (f i).D][j]? := by
        intro i hi j hj
        rw [← hadd]
        exact (World.cells?_some (hf i hi).2).2.2 j hj
      exact ⟨f, some ⟨b, off, none⟩, len, cap, rfl, by omega, fun i hi => (hf i hi).1, fun _ => ⟨b, off, rfl, hcell⟩⟩

end Go.Proofs.YtepgoppgblfjbaaGreatDoor

/- The walk of Torn and its contract. -/
namespace Go.Proofs.YtepgoppgblfjbaaGreatDoor
open Go.ChangeShapes Go.WideShapes Go.ChangeAt Go.RowKit Go.Deep

theorem cells25 : Tryz.prog.cellsOf 25 = 1 := by kernel_rfl

theorem streams_of {H : Type} {enc : TypeId × Value → H} {W : World} {spare : Nat → Bool} {held : Bool} {fuel : Nat} {v : Value} {x : DataW H × List MemPlace}
    (h : DataW.trod enc Tryz.prog W 0 spare held fuel 52 [v] = some x) :
    ∃ (y : Nat → List UInt8) (a : Option Addr) (len cap : Nat), v = .slice a len cap ∧ ActsL W a len y := by
  rcases open_slice Tryz.underlying52 h with ⟨hcs, _⟩ | ⟨a, len, cap, m, n, D, Pl, hcs, _, hl, hm, hmm, _, hel⟩
  · simp at hcs
    subst hcs
    exact ⟨fun _ => [], none, 0, 0, rfl, by decide, fun i => Nat.zero_le _, fun h => absurd rfl h⟩
  · simp at hcs
    subst hcs
    by_cases h0 : len = 0
    · subst h0
      exact ⟨fun _ => [], some a, 0, cap, rfl, by decide, fun i => Nat.zero_le _, fun h => absurd rfl h⟩
    · have hlm : len ≤ m := by rw [hmm]; split <;> omega
      rw [cells25] at hel
      have hel2 : ∀ i, i < len → ∃ t : List UInt8, t.length ≤ 2405 ∧ ∃ a' l' c', W.cells? 0 (a.add (i * 1)) 1 = some [.slice a' l' c'] ∧
          ∀ w1, Kx (fun _ => False) W w1 → Calls Tryz.prog 17 #[.slice a' l' c'] w1 fun e w' => e = .returned (.string ⟨t.toArray⟩) ∧ Kx (fun _ => False) w1 w' := by
        intro i hi
        obtain ⟨cs, h1, h2⟩ := hel i (by omega)
        have hl1 : cs.length = 1 := by
          have := (World.cells?_some h1).2.1
          simpa using this
        obtain ⟨u, rfl⟩ : ∃ u, cs = [u] := List.length_eq_one_iff.1 hl1
        obtain ⟨f, l1, hs⟩ := stream_of h2
        have hsh : ∃ a' l' c', u = .slice a' l' c' := by
          rcases open_slice Tryz.underlying25 h2 with ⟨hcs, _⟩ | ⟨a2, len2, cap2, _, _, _, _, hcs, _⟩
          · simp at hcs; exact ⟨none, 0, 0, hcs⟩
          · simp at hcs; exact ⟨some a2, len2, cap2, hcs⟩
        obtain ⟨a', l', c', rfl⟩ := hsh
        refine ⟨streamOf f l1, (streamOf_len f l1).1, a', l', c', h1, fun w1 hk => ?_⟩
        exact (hs w1 (fun X => hk.mono (fun _ _ e => e.elim))).mono (fun e w' hq => ⟨hq.1, hq.2 _⟩)
      obtain ⟨f, hf⟩ : ∃ f : Nat → List UInt8, ∀ i, i < len → (f i).length ≤ 2405 ∧ ∃ a' l' c', W.cells? 0 (a.add (i * 1)) 1 = some [.slice a' l' c'] ∧
          ∀ w1, Kx (fun _ => False) W w1 → Calls Tryz.prog 17 #[.slice a' l' c'] w1 fun e w' => e = .returned (.string ⟨(f i).toArray⟩) ∧ Kx (fun _ => False) w1 w' := by
        have : Inhabited (List UInt8) := ⟨[]⟩
        exact choose_lt hel2
      obtain ⟨b, off, spot⟩ := a
      have hspot : spot = none := by
        obtain ⟨_, a', l', c', hc0, _⟩ := hf 0 (by omega)
        have hc := (World.cells?_some hc0).2.2 0 (by omega)
        simpa [Addr.add] using World.cell?_spot hc
      subst hspot
      have hadd : ∀ i, ((⟨b, off, none⟩ : Addr).add (i * 1)).add 0 = ⟨b, off + i, none⟩ := by
        intro i
        rw [add_add]
        unfold Addr.add; split <;> simp_all
      refine ⟨fun i => if i < len then f i else [], some ⟨b, off, none⟩, len, cap, rfl, by omega, fun i => ?_, fun _ => ⟨b, off, rfl, fun i hi => ?_⟩⟩
      · by_cases hi : i < len
        · show (if i < len then f i else []).length ≤ 2405
          rw [if_pos hi]; exact (hf i hi).1
        · show (if i < len then f i else []).length ≤ 2405
          rw [if_neg hi]; exact Nat.zero_le _
      · obtain ⟨_, a', l', c', hc0, hcall⟩ := hf i hi
        refine ⟨a', l', c', ?_, fun w1 hk => ?_⟩
        · rw [← hadd]
          exact (World.cells?_some hc0).2.2 0 (by omega)
        · show Calls Tryz.prog 17 _ w1 fun e w' => e = .returned (.string ⟨(if i < len then f i else []).toArray⟩) ∧ _
          rw [if_pos hi]
          exact hcall w1 hk

set_option maxRecDepth 100000 in
theorem torn_contract (H : Type) (enc : TypeId × Value → H) (W : World) (base : Nat) (args : Array Value) (ds gs : List (DataW H)) (before : List MemPlace)
    (hval : ∀ (j : Nat) t v, Tryz.f10.params[j]? = some t → args[j]? = some v → Value.okWide Tryz.prog W .any base t v)
    (hW : DataW.Whole enc Tryz.prog Tryz.f10.params.toList Rows.tornSpec.vars false W args.toList ds gs before) (_hweigh : (DataW.weightsEach Tryz.prog (Tryz.f10.params.toList ++ (OpenSpec.ofChange Rows.tornSpec).bare.plain.varTypes Tryz.prog) (ds ++ gs)).all (· ≤ reachBytes) = true) (hlaid : laidMetH Tryz.prog Rows.tornRow.laid W) (hsh : W.ShapedOpen Tryz.prog) :
    Calls Tryz.prog 10 args W fun e W' => ∃ v, e = .returned v ∧ Rows.tornSpec.post enc Tryz.prog Tryz.f10 false true false false W args v W' := by
  have hW' := hW
  obtain ⟨p, q, hA0, hV, rfl, hfz, hnd⟩ := hW
  have hA : DataW.TrodAll enc Tryz.prog W 0 (fun _ => true) true Tryz.f10.params.toList args.toList ds p := hA0
  rw [Tryz.params10] at hA hval
  obtain ⟨v0, vs0, d0, ds0, p0, q0, hargs, rfl, rfl, h0, r0⟩ := trodAll_cons hA
  obtain ⟨v1, vs1, d1, ds1, p1, q1, rfl, rfl, rfl, h1, r1⟩ := trodAll_cons r0
  obtain ⟨rfl, rfl, rfl⟩ := trodAll_nil r1
  obtain rfl : args = #[v0, v1] := by cases args; simp_all
  obtain ⟨rfl, rfl⟩ := trodVars_none hV
  obtain ⟨a0, len0, cap0, rfl⟩ := okWide_slice Tryz.underlying52 (hval 0 52 v0 rfl rfl)
  have k0 := h0
  have lt0 : ∀ x ∈ p0, x.block < W.heap.size := by obtain ⟨m, hm⟩ := k0; exact DataW.trod_lt m _ _ _ hm
  obtain ⟨fuel, hf⟩ := h0
  obtain ⟨y, a, len, cap, hv, hY⟩ := streams_of (by simpa [Value.cells] using hf)
  cases hv
  obtain ⟨cut, rfl, rfl, rfl, w1⟩ := open_int Tryz.underlying3 (hval 1 3 v1 rfl rfl) h1
  have hlaid2 : laidMetH Tryz.prog Rows.followedRow.laid W := hlaid
  have hgl := gl_of hlaid2 hsh
  have h7 := size_of hsh
  obtain ⟨S, J, hrun⟩ := run_ex y
  clear hA0
  refine (torn_any _ _ _ cut y S J hrun W hgl h7 hY (i64_of w1)).mono fun e W' ⟨he, hk⟩ => ?_
  have bel : Below W.heap.size W W' := hk.below (Nat.le_refl _) (fun _ _ => id)
  subst he
  exact ⟨_, rfl, _, _, _, [], _, [], hW', trodAll_mk1 (shut_bool Tryz.underlying4 _), (trodAll_cons_mk (Below.trod laidOut (by kernel_rfl) (of_decide_eq_true (by kernel_rfl)) k0 bel lt0) (trodAll_cons_mk (shut_int Tryz.underlying3 w1) trodAll_mk0)), rfl, bel.frame _, fun h => by cases h⟩

end Go.Proofs.YtepgoppgblfjbaaGreatDoor
