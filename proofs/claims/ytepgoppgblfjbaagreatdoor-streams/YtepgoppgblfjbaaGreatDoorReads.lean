/- Slices that are only read; a command in memory. -/
import Derived.Test.YtepgoppgblfjbaaGreatDoorChangeM
import Derived.Test.YtepgoppgblfjbaaGreatDoorRow1
namespace Go.Proofs.YtepgoppgblfjbaaGreatDoor
open Go.RowKit

/-- The slice of n elements reads as these cells. -/
def Reads (w : World) (v : Value) (n : Nat) (cs : List Value) : Prop :=
  ∃ q c, v = .slice q n c ∧ n ≤ c ∧ (n ≠ 0 → ∃ g o, q = some ⟨g, o, none⟩ ∧ ∀ k x, cs[k]? = some x → w.cell? ⟨g, o + k, none⟩ = some x)

theorem Reads.kept {w w' : World} {v : Value} {n : Nat} {cs : List Value} {X : Nat → Prop} (h : Reads w v n cs) (hk : Kx X w w') (hX : ∀ k, v.ownBlock = some k → ¬ X k) : Reads w' v n cs := by
  obtain ⟨q, c, rfl, hc, hr⟩ := h
  refine ⟨q, c, rfl, hc, fun hne => ?_⟩
  obtain ⟨g, o, rfl, hcell⟩ := hr hne
  refine ⟨g, o, rfl, fun k x hx => ?_⟩
  have := hcell k x hx
  rw [hk.cell (p := ⟨g, o + k, none⟩) (lt_of_cell (p := ⟨g, o + k, none⟩) this) (hX g rfl)]
  exact this

theorem Reads.of_own {w : World} {base n size : Nat} {t : TypeId} {v : Value} {cs : List Value} (h : w.ownsRow base t size v n cs) : Reads w v n cs := by
  rcases h.2 with ⟨rfl, h0⟩ | ⟨g, cap, cur, rfl, hb, hg, hc, hm, hs, ht⟩
  · exact ⟨none, 0, by rw [h0], by omega, fun hne => absurd h0 hne⟩
  · refine ⟨_, _, rfl, hc, fun _ => ⟨g, 0, rfl, fun k x hx => ?_⟩⟩
    have hk : k < n * size := by
      have := (List.getElem?_eq_some_iff.1 hx).1
      have := h.1
      omega
    rw [← ht, List.getElem?_take_of_lt hk] at hx
    rw [Nat.zero_add]
    unfold World.cell?
    rw [hg]
    simpa using hx

/-- What names a commit, as cells. -/
def whC (x : Pu.Wh) : List Value := [.int .i64 x.mark, .string ⟨x.ref.toArray⟩]
def chL (c : Pu.Ch) : List Value := (chC c).toList
def whsC (l : List Pu.Wh) : List Value := l.flatMap whC
def chsC (l : List Pu.Ch) : List Value := l.flatMap chL

theorem flat_len {α : Type} (f : α → List Value) (m : Nat) (hf : ∀ x, (f x).length = m) : ∀ l : List α, (l.flatMap f).length = l.length * m
  | [] => by simp
  | a :: r => by
    have := flat_len f m hf r
    simp only [List.flatMap_cons, List.length_append, List.length_cons, hf, this, Nat.succ_mul]; omega

theorem whsC_len (l : List Pu.Wh) : (whsC l).length = l.length * 2 := flat_len whC 2 (fun _ => rfl) l
theorem chsC_len (l : List Pu.Ch) : (chsC l).length = l.length * 6 := flat_len chL 6 (fun _ => rfl) l

theorem flat_at {α : Type} (f : α → List Value) (m : Nat) (hf : ∀ x, (f x).length = m) : ∀ (l : List α) (k : Nat) (a : α), l[k]? = some a → ∀ j x, (f a)[j]? = some x → (l.flatMap f)[m * k + j]? = some x
  | [], k, a, h, _, _, _ => by simp at h
  | b :: r, 0, a, h, j, x, hx => by
    simp at h; subst h
    rw [List.flatMap_cons, Nat.mul_zero, Nat.zero_add, List.getElem?_append_left (List.getElem?_eq_some_iff.1 hx).1]
    exact hx
  | b :: r, k + 1, a, h, j, x, hx => by
    have := flat_at f m hf r k a (by simpa using h) j x hx
    rw [List.flatMap_cons, List.getElem?_append_right (by rw [hf, Nat.mul_succ]; omega), hf]
    have e : m * (k + 1) + j - m = m * k + j := by rw [Nat.mul_succ]; omega
    rw [e]; exact this

/-- A command as cells; its two slices. -/
def coC (c : Pu.Co) (vm vc : Value) : Array Value := #[.string ⟨c.word.toArray⟩, .string ⟨c.ref.toArray⟩, .int .i64 c.mark, .string ⟨c.au.name.toArray⟩, .string ⟨c.au.mail.toArray⟩, .int .i64 c.au.time, .string ⟨c.data.toArray⟩, .int .i64 c.frm.mark, .string ⟨c.frm.ref.toArray⟩, vm, vc]

/-- The two slices of a command, in blocks from lo on. -/
structure CoS (w : World) (lo : Nat) (vm vc : Value) (c : Pu.Co) : Prop where
  ms : Reads w vm c.merges.length (whsC c.merges)
  cs : Reads w vc c.changes.length (chsC c.changes)
  mb : ∀ k, vm.ownBlock = some k → lo ≤ k ∧ k < w.heap.size
  cb : ∀ k, vc.ownBlock = some k → lo ≤ k ∧ k < w.heap.size

theorem CoS.kept {w w' : World} {lo : Nat} {vm vc : Value} {c : Pu.Co} {X : Nat → Prop} (h : CoS w lo vm vc c) (hk : Kx X w w') (hX : ∀ k, lo ≤ k → k < w.heap.size → ¬ X k) : CoS w' lo vm vc c :=
  ⟨h.ms.kept hk (fun k e => hX k (h.mb k e).1 (h.mb k e).2), h.cs.kept hk (fun k e => hX k (h.cb k e).1 (h.cb k e).2),
   fun k e => ⟨(h.mb k e).1, Nat.lt_of_lt_of_le (h.mb k e).2 hk.size⟩, fun k e => ⟨(h.cb k e).1, Nat.lt_of_lt_of_le (h.cb k e).2 hk.size⟩⟩

theorem CoS.mono {w : World} {lo lo' : Nat} {vm vc : Value} {c : Pu.Co} (h : CoS w lo vm vc c) (hl : lo' ≤ lo) : CoS w lo' vm vc c :=
  ⟨h.ms, h.cs, fun k e => ⟨Nat.le_trans hl (h.mb k e).1, (h.mb k e).2⟩, fun k e => ⟨Nat.le_trans hl (h.cb k e).1, (h.cb k e).2⟩⟩

theorem CoS.nil (w : World) (lo : Nat) (c : Pu.Co) (hm : c.merges = []) (hc : c.changes = []) : CoS w lo (.slice none 0 0) (.slice none 0 0) c :=
  ⟨by rw [hm]; exact ⟨none, 0, rfl, by simp, fun h => absurd rfl h⟩, by rw [hc]; exact ⟨none, 0, rfl, by simp, fun h => absurd rfl h⟩, fun k e => by simp [Value.ownBlock] at e, fun k e => by simp [Value.ownBlock] at e⟩

/-- All of one command in memory: its 11 cells from o on in block g, and its slices. -/
def CoAt (w : World) (lo g o : Nat) (c : Pu.Co) : Prop :=
  ∃ vm vc, (∀ j x, (coC c vm vc)[j]? = some x → w.cell? ⟨g, o + j, none⟩ = some x) ∧ CoS w lo vm vc c

/-- The slice of commands. -/
def CosAt (w : World) (lo : Nat) (v : Value) (l : List Pu.Co) : Prop :=
  ∃ q c, v = .slice q l.length c ∧ l.length ≤ c ∧ (∀ k, v.ownBlock = some k → lo ≤ k ∧ k < w.heap.size) ∧
    (l ≠ [] → ∃ g o, q = some ⟨g, o, none⟩ ∧ ∀ k (hk : k < l.length), CoAt w lo g (o + 11 * k) l[k])

theorem CosAt.kept {w w' : World} {lo : Nat} {v : Value} {l : List Pu.Co} {X : Nat → Prop} (h : CosAt w lo v l) (hk : Kx X w w') (hX : ∀ k, lo ≤ k → k < w.heap.size → ¬ X k) : CosAt w' lo v l := by
  obtain ⟨q, c, rfl, hc, hb, hr⟩ := h
  refine ⟨q, c, rfl, hc, fun k e => ⟨(hb k e).1, Nat.lt_of_lt_of_le (hb k e).2 hk.size⟩, fun hne => ?_⟩
  obtain ⟨g, o, rfl, hcell⟩ := hr hne
  refine ⟨g, o, rfl, fun k hk' => ?_⟩
  obtain ⟨vm, vc, h1, h2⟩ := hcell k hk'
  refine ⟨vm, vc, fun j x hx => ?_, h2.kept hk hX⟩
  have hg := hb g rfl
  rw [hk.cell (p := ⟨g, o + 11 * k + j, none⟩) hg.2 (hX g hg.1 hg.2)]
  exact h1 j x hx

theorem CosAt.mono {w : World} {lo lo' : Nat} {v : Value} {l : List Pu.Co} (h : CosAt w lo v l) (hl : lo' ≤ lo) : CosAt w lo' v l := by
  obtain ⟨q, c, rfl, hc, hb, hr⟩ := h
  refine ⟨q, c, rfl, hc, fun k e => ⟨Nat.le_trans hl (hb k e).1, (hb k e).2⟩, fun hne => ?_⟩
  obtain ⟨g, o, rfl, hcell⟩ := hr hne
  refine ⟨g, o, rfl, fun k hk => ?_⟩
  obtain ⟨vm, vc, h1, h2⟩ := hcell k hk
  exact ⟨vm, vc, h1, h2.mono hl⟩

/-- The cells of commands in a row, none of whose slices lies in block G. -/
def CoRow (w : World) (lo : Nat) (G : Option Nat) : List Pu.Co → List Value → Prop
  | [], cs => cs = []
  | c :: r, cs => ∃ vm vc rest, cs = (coC c vm vc).toList ++ rest ∧ (CoS w lo vm vc c ∧ (∀ k, vm.ownBlock = some k → G ≠ some k) ∧ ∀ k, vc.ownBlock = some k → G ≠ some k) ∧ CoRow w lo G r rest

theorem CoS.keptG {w w' : World} {lo : Nat} {G : Option Nat} {vm vc : Value} {c : Pu.Co} {X : Nat → Prop} (h : CoS w lo vm vc c) (g1 : ∀ k, vm.ownBlock = some k → G ≠ some k) (g2 : ∀ k, vc.ownBlock = some k → G ≠ some k) (hk : Kx X w w') (hX : ∀ k, lo ≤ k → k < w.heap.size → G ≠ some k → ¬ X k) : CoS w' lo vm vc c :=
  ⟨h.ms.kept hk (fun k e => hX k (h.mb k e).1 (h.mb k e).2 (g1 k e)), h.cs.kept hk (fun k e => hX k (h.cb k e).1 (h.cb k e).2 (g2 k e)),
   fun k e => ⟨(h.mb k e).1, Nat.lt_of_lt_of_le (h.mb k e).2 hk.size⟩, fun k e => ⟨(h.cb k e).1, Nat.lt_of_lt_of_le (h.cb k e).2 hk.size⟩⟩

theorem CoRow.kept {w w' : World} {lo : Nat} {G : Option Nat} {X : Nat → Prop} (hk : Kx X w w') (hX : ∀ k, lo ≤ k → k < w.heap.size → G ≠ some k → ¬ X k) : ∀ {l : List Pu.Co} {cs : List Value}, CoRow w lo G l cs → CoRow w' lo G l cs
  | [], cs, h => h
  | c :: r, cs, h => by
    obtain ⟨vm, vc, rest, e, ⟨h1, g1, g2⟩, h2⟩ := h
    exact ⟨vm, vc, rest, e, ⟨h1.keptG g1 g2 hk hX, g1, g2⟩, CoRow.kept hk hX h2⟩

theorem CoRow.regrow {w : World} {lo : Nat} {G G' : Option Nat} (hG : ∀ k, k < w.heap.size → G ≠ some k → G' ≠ some k) : ∀ {l : List Pu.Co} {cs : List Value}, CoRow w lo G l cs → CoRow w lo G' l cs
  | [], cs, h => h
  | c :: r, cs, h => by
    obtain ⟨vm, vc, rest, e, ⟨h1, g1, g2⟩, h2⟩ := h
    exact ⟨vm, vc, rest, e, ⟨h1, fun k e => hG k (h1.mb k e).2 (g1 k e), fun k e => hG k (h1.cb k e).2 (g2 k e)⟩, CoRow.regrow hG h2⟩

theorem CoRow.step {w w' : World} {lo : Nat} {G G' : Option Nat} {X : Nat → Prop} (hk : Kx X w w') (hX : ∀ k, lo ≤ k → k < w.heap.size → G ≠ some k → ¬ X k) (hG : ∀ k, k < w.heap.size → G ≠ some k → G' ≠ some k) :
    ∀ {l : List Pu.Co} {cs : List Value}, CoRow w lo G l cs → CoRow w' lo G' l cs
  | [], cs, h => h
  | c :: r, cs, h => by
    obtain ⟨vm, vc, rest, e, ⟨h1, g1, g2⟩, h2⟩ := h
    exact ⟨vm, vc, rest, e, ⟨h1.keptG g1 g2 hk hX, fun k e => hG k (h1.mb k e).2 (g1 k e), fun k e => hG k (h1.cb k e).2 (g2 k e)⟩, CoRow.step hk hX hG h2⟩

theorem CoRow.snoc {w : World} {lo : Nat} {G : Option Nat} {c : Pu.Co} {vm vc : Value} (hc : CoS w lo vm vc c) (g1 : ∀ k, vm.ownBlock = some k → G ≠ some k) (g2 : ∀ k, vc.ownBlock = some k → G ≠ some k) : ∀ {l : List Pu.Co} {cs : List Value}, CoRow w lo G l cs → CoRow w lo G (l ++ [c]) (cs ++ (coC c vm vc).toList)
  | [], cs, h => by
    have e : cs = [] := h
    subst e
    exact ⟨vm, vc, [], by simp, ⟨hc, g1, g2⟩, rfl⟩
  | d :: r, cs, h => by
    obtain ⟨vm', vc', rest, rfl, h1, h2⟩ := h
    exact ⟨vm', vc', rest ++ (coC c vm vc).toList, by simp, h1, CoRow.snoc hc g1 g2 h2⟩

theorem CoRow.at {w : World} {lo : Nat} {G : Option Nat} : ∀ {l : List Pu.Co} {cs : List Value}, CoRow w lo G l cs → ∀ k (hk : k < l.length), ∃ vm vc, CoS w lo vm vc l[k] ∧ ∀ j x, (coC l[k] vm vc)[j]? = some x → cs[11 * k + j]? = some x
  | [], cs, h, k, hk => by simp at hk
  | c :: r, cs, h, 0, hk => by
    obtain ⟨vm, vc, rest, rfl, h1, h2⟩ := h
    refine ⟨vm, vc, h1.1, fun j x hx => ?_⟩
    have hj : j < (coC c vm vc).toList.length := (Array.getElem?_eq_some_iff.1 hx).1
    rw [Nat.mul_zero, Nat.zero_add, List.getElem?_append_left hj, Array.getElem?_toList]
    exact hx
  | c :: r, cs, h, k + 1, hk => by
    obtain ⟨vm, vc, rest, rfl, h1, h2⟩ := h
    obtain ⟨vm', vc', h3, h4⟩ := CoRow.at h2 k (by simpa using hk)
    refine ⟨vm', vc', h3, fun j x hx => ?_⟩
    have hl : (coC c vm vc).toList.length = 11 := rfl
    rw [List.getElem?_append_right (by rw [hl]; omega), hl]
    have e : 11 * (k + 1) + j - 11 = 11 * k + j := by omega
    rw [e]
    exact h4 j x hx

theorem CosAt.of_own {w : World} {lo base : Nat} {G : Option Nat} {t : TypeId} {v : Value} {l : List Pu.Co} {cs : List Value} (h : w.ownsRow base t 11 v l.length cs) (hr : CoRow w lo G l cs) (hl : lo ≤ base) : CosAt w lo v l := by
  have hlt := h.lt
  obtain ⟨q, c, rfl, hc, hcell0⟩ := Reads.of_own h
  refine ⟨q, c, rfl, hc, fun k e => ⟨Nat.le_trans hl (hlt k e).1, (hlt k e).2⟩, fun hne => ?_⟩
  obtain ⟨g, o, rfl, hcell⟩ := hcell0 (fun e => hne (List.length_eq_zero_iff.1 e))
  refine ⟨g, o, rfl, fun k hk => ?_⟩
  obtain ⟨vm, vc, h1, h2⟩ := hr.at k hk
  refine ⟨vm, vc, fun j x hx => ?_, h1⟩
  have := hcell (11 * k + j) x (h2 j x hx)
  rw [← Nat.add_assoc] at this
  exact this

end Go.Proofs.YtepgoppgblfjbaaGreatDoor
