import Derived.Test.YtepgoppgblfjbaaGreatDoorTw04
import Derived.Test.YtepgoppgblfjbaaGreatDoorTw02
/- Slices that are only read; a command in memory. -/
namespace Go.Proofs.YtepgoppgblfjbaaGreatDoor
open Go.RowKit

/-- The slice of n elements reads as these cells. -/
def Reads (w : World) (v : Value) (n : Nat) (cs : List Value) : Prop :=
  ∃ q c, v = .slice q n c ∧ n ≤ c ∧ (n ≠ 0 → ∃ g o, q = some ⟨g, o, none⟩ ∧ ∀ k x, cs[k]? = some x → w.cell? ⟨g, o + k, none⟩ = some x)

theorem Reads.kept {w w' : World} {v : Value} {n : Nat} {cs : List Value} {X : Nat → Prop} (h : Reads w v n cs) (hk : Kx X w w') (hX : ∀ k, v.ownBlock = some k → ¬ X k) : Reads w' v n cs := by
  obtain ⟨q, c, rfl, hc, hr⟩ := h
  refine ⟨q, c, rfl, hc, fun hne => ?_⟩
  obtain ⟨g, o, rfl, hcell⟩ := hr hne
  refine ⟨g, o, rfl, fun k x hx => ?_⟩
  have := hcell k x hx
  rw [hk.cell (p := ⟨g, o + k, none⟩) (lt_of_cell (p := ⟨g, o + k, none⟩) this) (hX g rfl)]
  exact this

theorem Reads.of_own {w : World} {base n size : Nat} {t : TypeId} {v : Value} {cs : List Value} (h : w.ownsRow base t size v n cs) : Reads w v n cs := by
  rcases h.2 with ⟨rfl, h0⟩ | ⟨g, cap, cur, rfl, hb, hg, hc, hm, hs, ht⟩
  · exact ⟨none, 0, by rw [h0], by omega, fun hne => absurd h0 hne⟩
  · refine ⟨_, _, rfl, hc, fun _ => ⟨g, 0, rfl, fun k x hx => ?_⟩⟩
    have hk : k < n * size := by
      have := (List.getElem?_eq_some_iff.1 hx).1
      have := h.1
      omega
    rw [← ht, List.getElem?_take_of_lt hk] at hx
    rw [Nat.zero_add]
    unfold World.cell?
    rw [hg]
    simpa using hx

/-- What names a commit, as cells. -/
def whC (x : Pu.Wh) : List Value := [.int .i64 x.mark, .string ⟨x.ref.toArray⟩]
def chL (c : Pu.Ch) : List Value := (chC c).toList
def whsC (l : List Pu.Wh) : List Value := l.flatMap whC
def chsC (l : List Pu.Ch) : List Value := l.flatMap chL

theorem flat_len {α : Type} (f : α → List Value) (m : Nat) (hf : ∀ x, (f x).length = m) : ∀ l : List α, (l.flatMap f).length = l.length * m
  | [] => by simp
  | a :: r => by
    have := flat_len f m hf r
    simp only [List.flatMap_cons, List.length_append, List.length_cons, hf, this, Nat.succ_mul]; omega

theorem whsC_len (l : List Pu.Wh) : (whsC l).length = l.length * 2 := flat_len whC 2 (fun _ => rfl) l
theorem chsC_len (l : List Pu.Ch) : (chsC l).length = l.length * 6 := flat_len chL 6 (fun _ => rfl) l

theorem flat_at {α : Type} (f : α → List Value) (m : Nat) (hf : ∀ x, (f x).length = m) : ∀ (l : List α) (k : Nat) (a : α), l[k]? = some a → ∀ j x, (f a)[j]? = some x → (l.flatMap f)[m * k + j]? = some x
  | [], k, a, h, _, _, _ => by simp at h
  | b :: r, 0, a, h, j, x, hx => by
    simp at h; subst h
    rw [List.flatMap_cons, Nat.mul_zero, Nat.zero_add, List.getElem?_append_left (List.getElem?_eq_some_iff.1 hx).1]
    exact hx
  | b :: r, k + 1, a, h, j, x, hx => by
    have := flat_at f m hf r k a (by simpa using h) j x hx
    rw [List.flatMap_cons, List.getElem?_append_right (by rw [hf, Nat.mul_succ]; omega), hf]
    have e : m * (k + 1) + j - m = m * k + j := by rw [Nat.mul_succ]; omega
    rw [e]; exact this

/-- A command as cells; its two slices. -/
def coC (c : Pu.Co) (vm vc : Value) : Array Value := #[.string ⟨c.word.toArray⟩, .string ⟨c.ref.toArray⟩, .int .i64 c.mark, .string ⟨c.au.name.toArray⟩, .string ⟨c.au.mail.toArray⟩, .int .i64 c.au.time, .string ⟨c.data.toArray⟩, .int .i64 c.frm.mark, .string ⟨c.frm.ref.toArray⟩, vm, vc]

/-- The two slices of a command, in blocks from lo on. -/
structure CoS (w : World) (lo : Nat) (vm vc : Value) (c : Pu.Co) : Prop where
  ms : Reads w vm c.merges.length (whsC c.merges)
  cs : Reads w vc c.changes.length (chsC c.changes)
  mb : ∀ k, vm.ownBlock = some k → lo ≤ k ∧ k < w.heap.size
  cb : ∀ k, vc.ownBlock = some k → lo ≤ k ∧ k < w.heap.size

theorem CoS.kept {w w' : World} {lo : Nat} {vm vc : Value} {c : Pu.Co} {X : Nat → Prop} (h : CoS w lo vm vc c) (hk : Kx X w w') (hX : ∀ k, lo ≤ k → k < w.heap.size → ¬ X k) : CoS w' lo vm vc c :=
  ⟨h.ms.kept hk (fun k e => hX k (h.mb k e).1 (h.mb k e).2), h.cs.kept hk (fun k e => hX k (h.cb k e).1 (h.cb k e).2),
   fun k e => ⟨(h.mb k e).1, Nat.lt_of_lt_of_le (h.mb k e).2 hk.size⟩, fun k e => ⟨(h.cb k e).1, Nat.lt_of_lt_of_le (h.cb k e).2 hk.size⟩⟩

theorem CoS.mono {w : World} {lo lo' : Nat} {vm vc : Value} {c : Pu.Co} (h : CoS w lo vm vc c) (hl : lo' ≤ lo) : CoS w lo' vm vc c :=
  ⟨h.ms, h.cs, fun k e => ⟨Nat.le_trans hl (h.mb k e).1, (h.mb k e).2⟩, fun k e => ⟨Nat.le_trans hl (h.cb k e).1, (h.cb k e).2⟩⟩

theorem CoS.nil (w : World) (lo : Nat) (c : Pu.Co) (hm : c.merges = []) (hc : c.changes = []) : CoS w lo (.slice none 0 0) (.slice none 0 0) c :=
  ⟨by rw [hm]; exact ⟨none, 0, rfl, by simp, fun h => absurd rfl h⟩, by rw [hc]; exact ⟨none, 0, rfl, by simp, fun h => absurd rfl h⟩, fun k e => by simp [Value.ownBlock] at e, fun k e => by simp [Value.ownBlock] at e⟩

/-- All of one command in memory: its 11 cells from o on in block g, and its slices. -/
def CoAt (w : World) (lo g o : Nat) (c : Pu.Co) : Prop :=
  ∃ vm vc, (∀ j x, (coC c vm vc)[j]? = some x → w.cell? ⟨g, o + j, none⟩ = some x) ∧ CoS w lo vm vc c

/-- The slice of commands. -/
def CosAt (w : World) (lo : Nat) (v : Value) (l : List Pu.Co) : Prop :=
  ∃ q c, v = .slice q l.length c ∧ l.length ≤ c ∧ (∀ k, v.ownBlock = some k → lo ≤ k ∧ k < w.heap.size) ∧
    (l ≠ [] → ∃ g o, q = some ⟨g, o, none⟩ ∧ ∀ k (hk : k < l.length), CoAt w lo g (o + 11 * k) l[k])

theorem CosAt.kept {w w' : World} {lo : Nat} {v : Value} {l : List Pu.Co} {X : Nat → Prop} (h : CosAt w lo v l) (hk : Kx X w w') (hX : ∀ k, lo ≤ k → k < w.heap.size → ¬ X k) : CosAt w' lo v l := by
  obtain ⟨q, c, rfl, hc, hb, hr⟩ := h
  refine ⟨q, c, rfl, hc, fun k e => ⟨(hb k e).1, Nat.lt_of_lt_of_le (hb k e).2 hk.size⟩, fun hne => ?_⟩
  obtain ⟨g, o, rfl, hcell⟩ := hr hne
  refine ⟨g, o, rfl, fun k hk' => ?_⟩
  obtain ⟨vm, vc, h1, h2⟩ := hcell k hk'
  refine ⟨vm, vc, fun j x hx => ?_, h2.kept hk hX⟩
  have hg := hb g rfl
  rw [hk.cell (p := ⟨g, o + 11 * k + j, none⟩) hg.2 (hX g hg.1 hg.2)]
  exact h1 j x hx

theorem CosAt.mono {w : World} {lo lo' : Nat} {v : Value} {l : List Pu.Co} (h : CosAt w lo v l) (hl : lo' ≤ lo) : CosAt w lo' v l := by
  obtain ⟨q, c, rfl, hc, hb, hr⟩ := h
  refine ⟨q, c, rfl, hc, fun k e => ⟨Nat.le_trans hl (hb k e).1, (hb k e).2⟩, fun hne => ?_⟩
  obtain ⟨g, o, rfl, hcell⟩ := hr hne
  refine ⟨g, o, rfl, fun k hk => ?_⟩
  obtain ⟨vm, vc, h1, h2⟩ := hcell k hk
  exact ⟨vm, vc, h1, h2.mono hl⟩

/-- The cells of commands in a row, none of whose slices lies in block G. -/
def CoRow (w : World) (lo : Nat) (G : Option Nat) : List Pu.Co → List Value → Prop
  | [], cs => cs = []
  | c :: r, cs => ∃ vm vc rest, cs = (coC c vm vc).toList ++ rest ∧ (CoS w lo vm vc c ∧ (∀ k, vm.ownBlock = some k → G ≠ some k) ∧ ∀ k, vc.ownBlock = some k → G ≠ some k) ∧ CoRow w lo G r rest

theorem CoS.keptG {w w' : World} {lo : Nat} {G : Option Nat} {vm vc : Value} {c : Pu.Co} {X : Nat → Prop} (h : CoS w lo vm vc c) (g1 : ∀ k, vm.ownBlock = some k → G ≠ some k) (g2 : ∀ k, vc.ownBlock = some k → G ≠ some k) (hk : Kx X w w') (hX : ∀ k, lo ≤ k → k < w.heap.size → G ≠ some k → ¬ X k) : CoS w' lo vm vc c :=
  ⟨h.ms.kept hk (fun k e => hX k (h.mb k e).1 (h.mb k e).2 (g1 k e)), h.cs.kept hk (fun k e => hX k (h.cb k e).1 (h.cb k e).2 (g2 k e)),
   fun k e => ⟨(h.mb k e).1, Nat.lt_of_lt_of_le (h.mb k e).2 hk.size⟩, fun k e => ⟨(h.cb k e).1, Nat.lt_of_lt_of_le (h.cb k e).2 hk.size⟩⟩

theorem CoRow.kept {w w' : World} {lo : Nat} {G : Option Nat} {X : Nat → Prop} (hk : Kx X w w') (hX : ∀ k, lo ≤ k → k < w.heap.size → G ≠ some k → ¬ X k) : ∀ {l : List Pu.Co} {cs : List Value}, CoRow w lo G l cs → CoRow w' lo G l cs
  | [], cs, h => h
  | c :: r, cs, h => by
    obtain ⟨vm, vc, rest, e, ⟨h1, g1, g2⟩, h2⟩ := h
    exact ⟨vm, vc, rest, e, ⟨h1.keptG g1 g2 hk hX, g1, g2⟩, CoRow.kept hk hX h2⟩

theorem CoRow.regrow {w : World} {lo : Nat} {G G' : Option Nat} (hG : ∀ k, k < w.heap.size → G ≠ some k → G' ≠ some k) : ∀ {l : List Pu.Co} {cs : List Value}, CoRow w lo G l cs → CoRow w lo G' l cs
  | [], cs, h => h
  | c :: r, cs, h => by
    obtain ⟨vm, vc, rest, e, ⟨h1, g1, g2⟩, h2⟩ := h
    exact ⟨vm, vc, rest, e, ⟨h1, fun k e => hG k (h1.mb k e).2 (g1 k e), fun k e => hG k (h1.cb k e).2 (g2 k e)⟩, CoRow.regrow hG h2⟩

theorem CoRow.step {w w' : World} {lo : Nat} {G G' : Option Nat} {X : Nat → Prop} (hk : Kx X w w') (hX : ∀ k, lo ≤ k → k < w.heap.size → G ≠ some k → ¬ X k) (hG : ∀ k, k < w.heap.size → G ≠ some k → G' ≠ some k) :
    ∀ {l : List Pu.Co} {cs : List Value}, CoRow w lo G l cs → CoRow w' lo G' l cs
  | [], cs, h => h
  | c :: r, cs, h => by
    obtain ⟨vm, vc, rest, e, ⟨h1, g1, g2⟩, h2⟩ := h
    exact ⟨vm, vc, rest, e, ⟨h1.keptG g1 g2 hk hX, fun k e => hG k (h1.mb k e).2 (g1 k e), fun k e => hG k (h1.cb k e).2 (g2 k e)⟩, CoRow.step hk hX hG h2⟩

theorem CoRow.snoc {w : World} {lo : Nat} {G : Option Nat} {c : Pu.Co} {vm vc : Value} (hc : CoS w lo vm vc c) (g1 : ∀ k, vm.ownBlock = some k → G ≠ some k) (g2 : ∀ k, vc.ownBlock = some k → G ≠ some k) : ∀ {l : List Pu.Co} {cs : List Value}, CoRow w lo G l cs → CoRow w lo G (l ++ [c]) (cs ++ (coC c vm vc).toList)
  | [], cs, h => by
    have e : cs = [] := h
    subst e
    exact ⟨vm, vc, [], by simp, ⟨hc, g1, g2⟩, rfl⟩
  | d :: r, cs, h => by
    obtain ⟨vm', vc', rest, rfl, h1, h2⟩ := h
    exact ⟨vm', vc', rest ++ (coC c vm vc).toList, by simp, h1, CoRow.snoc hc g1 g2 h2⟩

theorem CoRow.at {w : World} {lo : Nat} {G : Option Nat} : ∀ {l : List Pu.Co} {cs : List Value}, CoRow w lo G l cs → ∀ k (hk : k < l.length), ∃ vm vc, CoS w lo vm vc l[k] ∧ ∀ j x, (coC l[k] vm vc)[j]? = some x → cs[11 * k + j]? = some x
  | [], cs, h, k, hk => by simp at hk
  | c :: r, cs, h, 0, hk => by
    obtain ⟨vm, vc, rest, rfl, h1, h2⟩ := h
    refine ⟨vm, vc, h1.1, fun j x hx => ?_⟩
    have hj : j < (coC c vm vc).toList.length := (Array.getElem?_eq_some_iff.1 hx).1
    rw [Nat.mul_zero, Nat.zero_add, List.getElem?_append_left hj, Array.getElem?_toList]
    exact hx
  | c :: r, cs, h, k + 1, hk => by
    obtain ⟨vm, vc, rest, rfl, h1, h2⟩ := h
    obtain ⟨vm', vc', h3, h4⟩ := CoRow.at h2 k (by simpa using hk)
    refine ⟨vm', vc', h3, fun j x hx => ?_⟩
    have hl : (coC c vm vc).toList.length = 11 := rfl
    rw [List.getElem?_append_right (by rw [hl]; omega), hl]
    have e : 11 * (k + 1) + j - 11 = 11 * k + j := by omega
    rw [e]
    exact h4 j x hx

theorem CosAt.of_own {w : World} {lo base : Nat} {G : Option Nat} {t : TypeId} {v : Value} {l : List Pu.Co} {cs : List Value} (h : w.ownsRow base t 11 v l.length cs) (hr : CoRow w lo G l cs) (hl : lo ≤ base) : CosAt w lo v l := by
  have hlt := h.lt
  obtain ⟨q, c, rfl, hc, hcell0⟩ := Reads.of_own h
  refine ⟨q, c, rfl, hc, fun k e => ⟨Nat.le_trans hl (hlt k e).1, (hlt k e).2⟩, fun hne => ?_⟩
  obtain ⟨g, o, rfl, hcell⟩ := hcell0 (fun e => hne (List.length_eq_zero_iff.1 e))
  refine ⟨g, o, rfl, fun k hk => ?_⟩
  obtain ⟨vm, vc, h1, h2⟩ := hr.at k hk
  refine ⟨vm, vc, fun j x hx => ?_, h1⟩
  have := hcell (11 * k + j) x (h2 j x hx)
  rw [← Nat.add_assoc] at this
  exact this

end Go.Proofs.YtepgoppgblfjbaaGreatDoor

/- The reader's merges. -/
namespace Go.Proofs.YtepgoppgblfjbaaGreatDoor
open Go.RowKit

theorem Tryz.info154 : (Tryz.prog.info? 154).map (fun i => (i.zero, i.size, i.bytes)) = some (some (.agg #[.int .i64 0, .string ⟨#[]⟩]), 2, 24) := by kernel_rfl

/-- How much the reader at block b has still to read. -/
def left (b : Nat) (w : World) : Nat := match w.cell? ⟨b, 0, none⟩ with | some (.string x) => x.size | _ => 0

theorem Rd.left {b : Nat} {s : List UInt8} {bad : Bool} {w : World} (h : Rd b s bad w) : left b w = s.length := by
  unfold YtepgoppgblfjbaaGreatDoor.left; rw [h.c0]; simp [ByteArray.size]

/-- A row of the call's own stays behind what writes the reader's block alone. -/
theorem own_kept {b base : Nat} {e : TypeId} {size : Nat} {v : Value} {n : Nat} {xs : List Value} {w w' : World} (h : w.ownsRow base e size v n xs) (hk : Kx (Only b) w w') (hb : b < base) : w'.ownsRow base e size v n xs := by
  refine ⟨h.1, ?_⟩
  rcases h.2 with hn | ⟨g, cap, cur, rfl, hbg, hgg, rest⟩
  · exact .inl hn
  · refine .inr ⟨g, cap, cur, rfl, hbg, ?_, rest⟩
    rw [hk.block g (Array.getElem?_eq_some_iff.1 hgg).1 (by unfold Only; omega)]
    exact hgg

theorem Rd.grown {b : Nat} {s : List UInt8} {bad : Bool} {w w' : World} {row : Option Nat} (h : Rd b s bad w) (hg : w.grownBy w' row) (hr : ∀ k, row = some k → b < k) : Rd b s bad w' := by
  have hk : Kx (fun k => some k = row) w w' := ⟨hg.os, hg.tape, hg.output, hg.size, fun k hl hx => hg.block k hl hx⟩
  refine h.kept hk ?_ ?_
  · intro e; have := hr 1 e.symm; have := h.pos; omega
  · intro e; have := hr b e.symm; omega

set_option maxHeartbeats 800000 in
set_option maxRecDepth 100000 in
theorem merges_any (b : Nat) (s : List UInt8) (bad : Bool) (w : World) (h : Rd b s bad w) :
    Calls Tryz.prog 225 #[.pointer (some ⟨b, 0, none⟩)] w fun e w' => (∃ v, e = .returned v ∧ w'.ownsRow w.heap.size 154 2 v (Pu.mergesV s.length s bad).length (whsC (Pu.mergesV s.length s bad))) ∧ Rd b (Pu.merges s bad).1 (Pu.merges s bad).2 w' ∧ Kx (Only b) w w' := by
  have hb := h.lt
  have hs := h.short
  obtain ⟨i0, hi, hz0, hz1, hz2⟩ := info_parts Tryz.info154
  go_enter Tryz.func225, Tryz.ntmps225
  go_wp2
  go_loopw [3] (fun v w' => ∃ (n : Nat) (s' : List UInt8) (bad' : Bool) (xs : List Pu.Wh), n = xs.length ∧ n + s'.length ≤ s.length ∧ Rd b s' bad' w' ∧ Kx (Only b) w w' ∧ w'.ownsRow w.heap.size 154 2 v n (whsC xs) ∧ Pu.mergesF s.length s bad 0 = Pu.mergesF s'.length s' bad' n ∧ Pu.mergesV s.length s bad = xs ++ Pu.mergesV s'.length s' bad') (fun _ w' => left b w')
  case atStart => exact ⟨0, s, bad, [], rfl, by omega, h, Kx.refl _ _, World.ownsRow_nil _ _ _ _, rfl, rfl⟩
  case round =>
    obtain ⟨n, s1, bad1, xs, hxs, hn, hr, hk, hown, hE, hV⟩ := hrel
    have HE : Hid (Pu.mergesF s.length s bad 0 = Pu.mergesF s1.length s1 bad1 n) := hE
    have HV : Hid (Pu.mergesV s.length s bad = xs ++ Pu.mergesV s1.length s1 bad1) := hV
    have HX : Hid (n = xs.length) := hxs
    clear hE hV hxs
    have hr0 := hr
    obtain ⟨c0, c1, f0, f1, pos, ⟨m, hm⟩, short⟩ := hr
    have hsz := hk.size
    cases hp : Lib.hasPrefix s1 Pu.sMerge
    · have HE2 : Hid (Pu.mergesF s.length s bad 0 = (n, s1, bad1)) := by
        show _ = _
        rw [HE.out, Pu.mergesF_stop _ _ _ _ hp]
      have HV2 : Hid (Pu.mergesV s.length s bad = xs) := by
        show _ = _
        rw [HV.out, Pu.mergesV_stop _ _ _ hp, List.append_nil]
      have HP : Hid (Lib.hasPrefix s1 Pu.sMerge = false) := hp
      clear hp HE
      obtain ⟨av, nv, cv, hv, hnv⟩ : ∃ av nv cv, u3 = .slice av nv cv ∧ nv = n := by
        rcases hown.2 with ⟨rfl, rfl⟩ | ⟨g, cap, cur, rfl, _⟩
        · exact ⟨_, _, _, rfl, rfl⟩
        · exact ⟨_, _, _, rfl, rfl⟩
      subst hv hnv
      go_wp2_with fail
      refine (hasPrefix_any s1 Pu.sMerge _).mono ?_
      rintro e w1 ⟨rfl, rfl⟩
      rw [HP.out]
      go_wp2_with fail
      refine (need_any b s1 bad1 _ _ hr0).mono ?_
      rintro e w2 ⟨rfl, hr2, hk2⟩
      go_wp2
      go_ret
      refine ⟨⟨_, rfl, by rw [HV2.out, ← HX.out]; exact own_kept hown hk2 hb⟩, ?_, hk.trans hk2⟩
      have e4 : decide ((nv : Int) < 4) = decide (nv < 4) := by congr 1; simp only [eq_iff_iff]; omega
      rw [e4] at hr2
      unfold Pu.merges
      rw [HE2.out]
      exact hr2
    · have HE2 : Hid (Pu.mergesF s.length s bad 0 = Pu.mergesF (Pu.which Pu.sMerge s1 bad1).1.length (Pu.which Pu.sMerge s1 bad1).1 (Pu.which Pu.sMerge s1 bad1).2 (n + 1)) := by
        show _ = _
        rw [HE.out, Pu.mergesF_step _ _ _ hp]
      have HV2 : Hid (Pu.mergesV s.length s bad = (xs ++ [Pu.whichV Pu.sMerge s1 bad1]) ++ Pu.mergesV (Pu.which Pu.sMerge s1 bad1).1.length (Pu.which Pu.sMerge s1 bad1).1 (Pu.which Pu.sMerge s1 bad1).2) := by
        show _ = _
        rw [HV.out, Pu.mergesV_step _ _ hp, List.append_assoc, List.singleton_append]
      have hlt := Pu.which_lt Pu.sMerge s1 bad1 (Pu.hasPrefix_ne hp (by decide))
      have HP : Hid (Lib.hasPrefix s1 Pu.sMerge = true) := hp
      clear hp HE
      go_wp2_with fail
      refine (hasPrefix_any s1 Pu.sMerge _).mono ?_
      rintro e w1 ⟨rfl, rfl⟩
      rw [HP.out]
      go_wp2_with fail
      refine (which_any b s1 bad1 Pu.sMerge _ hr0).mono ?_
      rintro e w2 ⟨rfl, hr2, hk2⟩
      generalize Pu.which Pu.sMerge s1 bad1 = st at *
      generalize Pu.whichV Pu.sMerge s1 bad1 = wv at *
      obtain ⟨s2, bad2⟩ := st
      obtain ⟨q, x⟩ := wv
      have hown2 := own_kept hown hk2 hb
      go_wp2_with (at_builtin; refine wpList_append_own _ rfl (.tmp 9) (.tmp 12) 155 rfl w.heap.size 154 i0 _ 2 24 Tryz.underlying155 hi hz0 hz1 hz2 rfl (by decide) _ _ _ rfl (hown2.alloc _) ⟨w2.heap.size, 0, none⟩ 1 1 [.int .i64 q, .string ⟨x.toArray⟩] rfl rfl ?c1 ?c2 ?c3 ?c4 ?c5 ?_)
      case c1 => exact cells_new _ [_, _] _
      case c2 => simp [Value.oneCell']
      case c3 => unfold maxLen; omega
      case c4 => omega
      case c5 => have := hk2.size; simp; omega
      intro v4 w4 hown4 hgrow4 _
      have hk4 : Kx (Only b) w w4 := ((hk.trans hk2).alloc _).grown hgrow4 (fun k he => (hown2.lt k he).1)
      have hr4 : Rd b s2 bad2 w4 := (hr2.alloc _).grown hgrow4 (fun k he => by have := (hown2.lt k he).1; omega)
      go_wp2
      go_roundw
      case rel => exact ⟨n + 1, s2, bad2, xs ++ [⟨q, x⟩], by rw [HX.out]; simp, by omega, hr4, hk4, by unfold whsC; rw [List.flatMap_append]; exact hown4, HE2.out, HV2.out⟩
      case measure => rw [hr4.left, hr0.left]; exact hlt

end Go.Proofs.YtepgoppgblfjbaaGreatDoor

/- The reader's changes. -/
namespace Go.Proofs.YtepgoppgblfjbaaGreatDoor
open Go.RowKit

theorem Tryz.info332 : (Tryz.prog.info? 332).map (fun i => (i.zero, i.size, i.bytes)) = some (some (.agg #[.string ⟨#[]⟩, .string ⟨#[]⟩, .int .i64 0, .string ⟨#[]⟩, .string ⟨#[]⟩, .string ⟨#[]⟩]), 6, 88) := by kernel_rfl

/-- 1 where a line is not empty. -/
def more (v : Value) : Nat := match v with | .string x => if x.size = 0 then 0 else 1 | _ => 0

theorem more_nil : more (.string ⟨([] : List UInt8).toArray⟩) = 0 := rfl
theorem more_ne (l : List UInt8) (h : l ≠ []) : more (.string ⟨l.toArray⟩) = 1 := by
  unfold more
  have : ¬ (⟨l.toArray⟩ : ByteArray).size = 0 := by
    simp [ByteArray.size]; exact h
  simp only [this, if_false]
theorem more_le (v : Value) : more v ≤ 1 := by
  unfold more; split
  · split <;> omega
  · omega

/-- A round leaves less to do. -/
theorem round_less (l s : List UInt8) (bad : Bool) :
    (Pu.line (Pu.change l s bad).1 (Pu.change l s bad).2).2.1.length + more (.string ⟨(Pu.line (Pu.change l s bad).1 (Pu.change l s bad).2).1.toArray⟩) ≤ s.length := by
  have h1 := Pu.round_lt l s bad
  have h2 := Pu.change_le l s bad
  have h3 := Pu.line_le (Pu.change l s bad).1 (Pu.change l s bad).2
  rcases h1 with e | e
  · rw [e, more_nil]; omega
  · have := more_le (.string ⟨(Pu.line (Pu.change l s bad).1 (Pu.change l s bad).2).1.toArray⟩); omega

set_option maxHeartbeats 800000 in
set_option maxRecDepth 100000 in
theorem changes_any (b : Nat) (s : List UInt8) (bad : Bool) (w : World) (h : Rd b s bad w) :
    Calls Tryz.prog 226 #[.pointer (some ⟨b, 0, none⟩)] w fun e w' => (∃ v, e = .returned v ∧ w'.ownsRow w.heap.size 332 6 v (Pu.changesAll s bad).length (chsC (Pu.changesAll s bad))) ∧ Rd b (Pu.changes s bad).1 (Pu.changes s bad).2 w' ∧ Kx (Only b) w w' := by
  have hb := h.lt
  have hs := h.short
  obtain ⟨i0, hi, hz0, hz1, hz2⟩ := info_parts Tryz.info332
  have HC : Hid (Pu.changes s bad = Pu.need (decide ((Pu.changesF (s.length + 2) (Pu.line s bad).1 (Pu.line s bad).2.1 (Pu.line s bad).2.2 0).1 ≤ 30))
    (Pu.changesF (s.length + 2) (Pu.line s bad).1 (Pu.line s bad).2.1 (Pu.line s bad).2.2 0).2.1 (Pu.changesF (s.length + 2) (Pu.line s bad).1 (Pu.line s bad).2.1 (Pu.line s bad).2.2 0).2.2) := rfl
  have hll := Pu.line_lens s bad
  have hFV := Pu.changesV_fuel (s.length + 2) ((Pu.line s bad).2.1.length + 1) (Pu.line s bad).1 (Pu.line s bad).2.1 (Pu.line s bad).2.2 (by omega) (by omega)
  have HA : Hid (Pu.changesAll s bad = Pu.changesV (s.length + 2) (Pu.line s bad).1 (Pu.line s bad).2.1 (Pu.line s bad).2.2) := rfl
  have hF := Pu.changesF_fuel (s.length + 2) ((Pu.line s bad).2.1.length + 1) (Pu.line s bad).1 (Pu.line s bad).2.1 (Pu.line s bad).2.2 0 (by omega) (by omega)
  go_enter Tryz.func226, Tryz.ntmps226
  go_wp2_with fail
  refine (line_any b s bad _ h).mono ?_
  rintro e w1 ⟨rfl, hr, hk⟩
  generalize Pu.changesF (s.length + 2) (Pu.line s bad).1 (Pu.line s bad).2.1 (Pu.line s bad).2.2 0 = R at *
  generalize Pu.changesV (s.length + 2) (Pu.line s bad).1 (Pu.line s bad).2.1 (Pu.line s bad).2.2 = RV at *
  generalize Pu.line s bad = x at *
  obtain ⟨x0, x1, x2⟩ := x
  have HF : Hid (R = Pu.changesF (x1.length + 1) x0 x1 x2 0) := hF
  have HFV : Hid (RV = Pu.changesV (x1.length + 1) x0 x1 x2) := hFV
  clear hF hFV
  have hml := more_le (.string ⟨x0.toArray⟩)
  go_wp2
  go_loopw [3, 4] (fun v lv w' => ∃ (n : Nat) (l s' : List UInt8) (bad' : Bool) (xs : List Pu.Ch), n = xs.length ∧ lv = .string ⟨l.toArray⟩ ∧ l.length ≤ 8000 ∧ n + s'.length + more (.string ⟨l.toArray⟩) ≤ s.length + 1 ∧ Rd b s' bad' w' ∧ Kx (Only b) w w' ∧ w'.ownsRow w.heap.size 332 6 v n (chsC xs) ∧ R = Pu.changesF (s'.length + 1) l s' bad' n ∧ RV = xs ++ Pu.changesV (s'.length + 1) l s' bad') (fun _ lv w' => left b w' + more lv)
  case atStart => exact ⟨0, x0, x1, x2, [], rfl, rfl, by omega, by omega, hr, hk, World.ownsRow_nil _ _ _ _, HF.out, HFV.out⟩
  case round =>
    clear HF HFV hr hk hml
    obtain ⟨n, l, s1, bad1, xs, hxs, rfl, hl, hn, hr, hk, hown, hE, hV⟩ := hrel
    have HX : Hid (n = xs.length) := hxs
    have HV : Hid (RV = xs ++ Pu.changesV (s1.length + 1) l s1 bad1) := hV
    clear hxs hV
    have HE : Hid (R = Pu.changesF (s1.length + 1) l s1 bad1 n) := hE
    clear hE
    have hsz := hk.size
    by_cases hp : l = []
    · subst hp
      have HE2 : Hid (R = (n, s1, bad1)) := by
        show _ = _
        rw [HE.out, Pu.changesF_nil]
      have HV2 : Hid (RV = xs) := by
        show _ = _
        rw [HV.out, Pu.changesV_nil, List.append_nil]
      clear HE HV
      obtain ⟨av, nv, cv, hv, hnv⟩ : ∃ av nv cv, u3 = .slice av nv cv ∧ nv = n := by
        rcases hown.2 with ⟨rfl, rfl⟩ | ⟨g, cap, cur, rfl, _⟩
        · exact ⟨_, _, _, rfl, rfl⟩
        · exact ⟨_, _, _, rfl, rfl⟩
      subst hv hnv
      go_wp2_with fail
      refine (need_any b s1 bad1 _ _ hr).mono ?_
      rintro e w2 ⟨rfl, hr2, hk2⟩
      go_wp2
      go_ret
      refine ⟨⟨_, rfl, by rw [HA.out, HV2.out, ← HX.out]; exact own_kept hown hk2 hb⟩, ?_, hk.trans hk2⟩
      have e4 : decide ((nv : Int) ≤ 30) = decide (nv ≤ 30) := by congr 1; simp only [eq_iff_iff]; omega
      rw [e4] at hr2
      rw [HC.out, HE2.out]
      exact hr2
    · have hp2 : (l == []) = false := by simpa using hp
      have hm1 := more_ne l hp
      rw [hm1] at hn
      have HM : Hid (more (.string ⟨l.toArray⟩) = 1) := hm1
      have HE2 : Hid (R = Pu.changesF ((Pu.line (Pu.change l s1 bad1).1 (Pu.change l s1 bad1).2).2.1.length + 1) (Pu.line (Pu.change l s1 bad1).1 (Pu.change l s1 bad1).2).1 (Pu.line (Pu.change l s1 bad1).1 (Pu.change l s1 bad1).2).2.1 (Pu.line (Pu.change l s1 bad1).1 (Pu.change l s1 bad1).2).2.2 (n + 1)) := by
        show _ = _
        rw [HE.out, Pu.changesF_step _ _ _ _ hp2]
      have HV2 : Hid (RV = (xs ++ [Pu.changeV l s1 bad1]) ++ Pu.changesV ((Pu.line (Pu.change l s1 bad1).1 (Pu.change l s1 bad1).2).2.1.length + 1) (Pu.line (Pu.change l s1 bad1).1 (Pu.change l s1 bad1).2).1 (Pu.line (Pu.change l s1 bad1).1 (Pu.change l s1 bad1).2).2.1 (Pu.line (Pu.change l s1 bad1).1 (Pu.change l s1 bad1).2).2.2) := by
        show _ = _
        rw [HV.out, Pu.changesV_step _ _ _ hp2, List.append_assoc, List.singleton_append]
      have hless := round_less l s1 bad1
      have hll2 := (Pu.line_lens (Pu.change l s1 bad1).1 (Pu.change l s1 bad1).2).1
      have hcl := Pu.change_le l s1 bad1
      have hsh := hr.short
      clear HE HV hm1 hp
      go_wp2_with fail
      refine (change_any b l s1 bad1 _ hr hl).mono ?_
      rintro e w2 ⟨rfl, hr2, hk2⟩
      generalize Pu.change l s1 bad1 = st at *
      generalize Pu.changeV l s1 bad1 = cv at *
      obtain ⟨s2, bad2⟩ := st
      obtain ⟨q1, q2, q3, q4, q5, q6⟩ := cv
      unfold chC
      have hown2 := own_kept hown hk2 hb
      go_wp2_with (at_builtin; refine wpList_append_own _ rfl (.tmp 11) (.tmp 15) 156 rfl w.heap.size 332 i0 _ 6 88 Tryz.underlying156 hi hz0 hz1 hz2 rfl (by decide) _ _ _ rfl (hown2.alloc _) ⟨w2.heap.size, 0, none⟩ 1 1 [.string ⟨q1.toArray⟩, .string ⟨q2.toArray⟩, .int .i64 q3, .string ⟨q4.toArray⟩, .string ⟨q5.toArray⟩, .string ⟨q6.toArray⟩] rfl rfl ?c1 ?c2 ?c3 ?c4 ?c5 ?_)
      case c1 => exact cells_new _ [_, _, _, _, _, _] _
      case c2 => simp [Value.oneCell']
      case c3 => unfold maxLen; omega
      case c4 => omega
      case c5 => have := hk2.size; simp; omega
      intro v4 w4 hown4 hgrow4 _
      have hk4 : Kx (Only b) w w4 := ((hk.trans hk2).alloc _).grown hgrow4 (fun k he => (hown2.lt k he).1)
      have hr4 : Rd b s2 bad2 w4 := (hr2.alloc _).grown hgrow4 (fun k he => by have := (hown2.lt k he).1; omega)
      go_wp2_with fail
      refine (line_any b s2 bad2 _ hr4).mono ?_
      rintro e w5 ⟨rfl, hr5, hk5⟩
      generalize Pu.line s2 bad2 = y at *
      obtain ⟨y0, y1, y2⟩ := y
      have hown5 := own_kept hown4 hk5 hb
      go_wp2
      go_roundw
      case rel => exact ⟨n + 1, y0, y1, y2, xs ++ [⟨q1, q2, q3, q4, q5, q6⟩], by rw [HX.out]; simp, rfl, by omega, by omega, hr5, hk4.trans hk5, by unfold chsC; rw [List.flatMap_append]; exact hown5, HE2.out, HV2.out⟩
      case measure => rw [hr5.left, hr.left, HM.out]; omega

end Go.Proofs.YtepgoppgblfjbaaGreatDoor

/- A command as cells, and the functions that read one. -/
namespace Go.Proofs.YtepgoppgblfjbaaGreatDoor
open Go.RowKit

/-- The reader's block and the command's. -/
def Two (b k : Nat) : Nat → Prop := fun j => j = b ∨ j = k

theorem Kx.two {b k : Nat} {w w' : World} (h : Kx (Only b) w w') : Kx (Two b k) w w' := h.mono (fun _ _ e => Or.inl e)

theorem Kx.two_set {b k o : Nat} {a w : World} (h : Kx (Two b k) a w) (u : Value) : Kx (Two b k) a (w.setCell ⟨k, o, none⟩ u) :=
  h.setCell (p := ⟨k, o, none⟩) (fun _ => Or.inr rfl) u

/-- The command's block behind the reading. -/
def CoB (k lo : Nat) (c : Pu.Co) (w : World) : Prop := ∃ vm vc, Cb k (coC c vm vc) 158 w ∧ CoS w lo vm vc c

theorem CoB.nil {k lo : Nat} {c : Pu.Co} {w : World} (h : Cb k (coC c (.slice none 0 0) (.slice none 0 0)) 158 w) (hm : c.merges = []) (hc : c.changes = []) : CoB k lo c w :=
  ⟨_, _, h, CoS.nil w lo c hm hc⟩

theorem own_slice0 {w : World} {base : Nat} {e : TypeId} {size : Nat} {v : Value} {n : Nat} {xs : List Value} (h : w.ownsRow base e size v n xs) : ∃ av cv, v = .slice av n cv := by
  rcases h.2 with ⟨rfl, rfl⟩ | ⟨g, cap, cur, rfl, _⟩
  · exact ⟨_, _, rfl⟩
  · exact ⟨_, _, rfl⟩

set_option maxHeartbeats 2000000 in
set_option maxRecDepth 100000 in
theorem readBlob_any (b k : Nat) (x s : List UInt8) (bad : Bool) (w : World) (h : Rd b s bad w) (hbk : b < k) (hC : Cb k (coC (Pu.Co.of x) (.slice none 0 0) (.slice none 0 0)) 158 w) :
    Calls Tryz.prog 164 #[.pointer (some ⟨b, 0, none⟩), .pointer (some ⟨k, 0, none⟩)] w fun e w' => e = .returned (.tuple #[]) ∧ Rd b (Pu.readBlob s bad).1 (Pu.readBlob s bad).2 w' ∧ CoB k w.heap.size (Pu.readBlobV s bad (Pu.Co.of x)) w' ∧ Kx (Two b k) w w' := by
  have hkl := hC.lt
  have HE : Hid (Pu.readBlob s bad = (Pu.data (Pu.rmark (Pu.exactly Pu.sBlob s bad).1 (Pu.exactly Pu.sBlob s bad).2).2.1 (Pu.rmark (Pu.exactly Pu.sBlob s bad).1 (Pu.exactly Pu.sBlob s bad).2).2.2).2) := rfl
  have HV : Hid (Pu.readBlobV s bad (Pu.Co.of x) = ⟨x, [], (Pu.rmark (Pu.exactly Pu.sBlob s bad).1 (Pu.exactly Pu.sBlob s bad).2).1, ⟨[], [], 0⟩, (Pu.data (Pu.rmark (Pu.exactly Pu.sBlob s bad).1 (Pu.exactly Pu.sBlob s bad).2).2.1 (Pu.rmark (Pu.exactly Pu.sBlob s bad).1 (Pu.exactly Pu.sBlob s bad).2).2.2).1, ⟨0, []⟩, [], []⟩) := rfl
  have hx0 : Kx (Two b k) w w := Kx.refl _ _
  have hc0 := hC
  unfold coC Pu.Co.of at hc0
  go_enter Tryz.func164, Tryz.ntmps164
  go_wp2_with fail
  refine (exactly_any b s bad Pu.sBlob _ h).mono ?_
  rintro e w1 ⟨rfl, hr1, hk1⟩
  generalize Pu.exactly Pu.sBlob s bad = st1 at *
  obtain ⟨s1, bad1⟩ := st1
  have hc1 : Cb k #[.string ⟨x.toArray⟩, .string ⟨#[]⟩, .int .i64 0, .string ⟨#[]⟩, .string ⟨#[]⟩, .int .i64 0, .string ⟨#[]⟩, .int .i64 0, .string ⟨#[]⟩, .slice none 0 0, .slice none 0 0] 158 w1 := hc0.only hk1 hbk
  have hx1 : Kx (Two b k) w w1 := hx0.trans hk1.two
  go_wp2_with fail
  refine (rmark_any b s1 bad1 _ hr1).mono ?_
  rintro e w2 ⟨rfl, hr2, hk2⟩
  generalize Pu.rmark s1 bad1 = st2 at *
  obtain ⟨q2, s2, bad2⟩ := st2
  have hc2 : Cb k #[.string ⟨x.toArray⟩, .string ⟨#[]⟩, .int .i64 0, .string ⟨#[]⟩, .string ⟨#[]⟩, .int .i64 0, .string ⟨#[]⟩, .int .i64 0, .string ⟨#[]⟩, .slice none 0 0, .slice none 0 0] 158 w2 := hc1.only hk2 hbk
  have hx2 : Kx (Two b k) w w2 := hx1.trans hk2.two
  have e2_2 : w2.cell? ⟨k, 2, none⟩ = some (.int .i64 0) := hc2.cell 2
  have g2_2 := hc2.frozen 2
  go_wp2_with fail
  refine (data_any b s2 bad2 _ (hr2.setNew hbk _)).mono ?_
  rintro e w3 ⟨rfl, hr3, hk3⟩
  generalize Pu.data s2 bad2 = st3 at *
  obtain ⟨q3, s3, bad3⟩ := st3
  have hc3 : Cb k #[.string ⟨x.toArray⟩, .string ⟨#[]⟩, .int .i64 q2, .string ⟨#[]⟩, .string ⟨#[]⟩, .int .i64 0, .string ⟨#[]⟩, .int .i64 0, .string ⟨#[]⟩, .slice none 0 0, .slice none 0 0] 158 w3 := (hc2.set 2 (.int .i64 q2)).only hk3 hbk
  have hx3 : Kx (Two b k) w w3 := (hx2.two_set _).trans hk3.two
  have e3_6 : w3.cell? ⟨k, 6, none⟩ = some (.string ⟨#[]⟩) := hc3.cell 6
  have g3_6 := hc3.frozen 6
  go_wp2
  go_end0
  refine ⟨rfl, by rw [HE.out]; exact (hr3.setNew hbk _), ?_, (hx3.two_set _)⟩
  rw [HV.out]
  exact CoB.nil ((hc3.set 6 (.string ⟨q3.toArray⟩))) rfl rfl

set_option maxHeartbeats 2000000 in
set_option maxRecDepth 100000 in
theorem readTag_any (b k : Nat) (x s : List UInt8) (bad : Bool) (w : World) (h : Rd b s bad w) (hbk : b < k) (hC : Cb k (coC (Pu.Co.of x) (.slice none 0 0) (.slice none 0 0)) 158 w) :
    Calls Tryz.prog 170 #[.pointer (some ⟨b, 0, none⟩), .pointer (some ⟨k, 0, none⟩)] w fun e w' => e = .returned (.tuple #[]) ∧ Rd b (Pu.readTag s bad).1 (Pu.readTag s bad).2 w' ∧ CoB k w.heap.size (Pu.readTagV s bad (Pu.Co.of x)) w' ∧ Kx (Two b k) w w' := by
  have hkl := hC.lt
  have HE : Hid (Pu.readTag s bad = (Pu.data (Pu.which Pu.sFrom (Pu.ref Pu.sTag1 s bad).2.1 (Pu.ref Pu.sTag1 s bad).2.2).1 (Pu.which Pu.sFrom (Pu.ref Pu.sTag1 s bad).2.1 (Pu.ref Pu.sTag1 s bad).2.2).2).2) := rfl
  have HV : Hid (Pu.readTagV s bad (Pu.Co.of x) = ⟨x, (Pu.ref Pu.sTag1 s bad).1, 0, ⟨[], [], 0⟩, (Pu.data (Pu.which Pu.sFrom (Pu.ref Pu.sTag1 s bad).2.1 (Pu.ref Pu.sTag1 s bad).2.2).1 (Pu.which Pu.sFrom (Pu.ref Pu.sTag1 s bad).2.1 (Pu.ref Pu.sTag1 s bad).2.2).2).1, Pu.whichV Pu.sFrom (Pu.ref Pu.sTag1 s bad).2.1 (Pu.ref Pu.sTag1 s bad).2.2, [], []⟩) := rfl
  have hx0 : Kx (Two b k) w w := Kx.refl _ _
  have hc0 := hC
  unfold coC Pu.Co.of at hc0
  go_enter Tryz.func170, Tryz.ntmps170
  go_wp2_with fail
  refine (ref_any b s bad Pu.sTag1 _ h).mono ?_
  rintro e w1 ⟨rfl, hr1, hk1⟩
  generalize Pu.ref Pu.sTag1 s bad = st1 at *
  obtain ⟨q1, s1, bad1⟩ := st1
  have hc1 : Cb k #[.string ⟨x.toArray⟩, .string ⟨#[]⟩, .int .i64 0, .string ⟨#[]⟩, .string ⟨#[]⟩, .int .i64 0, .string ⟨#[]⟩, .int .i64 0, .string ⟨#[]⟩, .slice none 0 0, .slice none 0 0] 158 w1 := hc0.only hk1 hbk
  have hx1 : Kx (Two b k) w w1 := hx0.trans hk1.two
  have e1_1 : w1.cell? ⟨k, 1, none⟩ = some (.string ⟨#[]⟩) := hc1.cell 1
  have g1_1 := hc1.frozen 1
  go_wp2_with fail
  refine (which_any b s1 bad1 Pu.sFrom _ (hr1.setNew hbk _)).mono ?_
  rintro e w2 ⟨rfl, hr2, hk2⟩
  generalize Pu.which Pu.sFrom s1 bad1 = st2 at *
  generalize Pu.whichV Pu.sFrom s1 bad1 = wv2 at *
  obtain ⟨s2, bad2⟩ := st2
  obtain ⟨q2, p2⟩ := wv2
  have hc2 : Cb k #[.string ⟨x.toArray⟩, .string ⟨q1.toArray⟩, .int .i64 0, .string ⟨#[]⟩, .string ⟨#[]⟩, .int .i64 0, .string ⟨#[]⟩, .int .i64 0, .string ⟨#[]⟩, .slice none 0 0, .slice none 0 0] 158 w2 := (hc1.set 1 (.string ⟨q1.toArray⟩)).only hk2 hbk
  have hx2 : Kx (Two b k) w w2 := (hx1.two_set _).trans hk2.two
  have e2_7 : w2.cell? ⟨k, 7, none⟩ = some (.int .i64 0) := hc2.cell 7
  have g2_7 := hc2.frozen 7
  have e2_8 : w2.cell? ⟨k, 8, none⟩ = some (.string ⟨#[]⟩) := hc2.cell 8
  have g2_8 := hc2.frozen 8
  go_wp2_with fail
  refine (data_any b s2 bad2 _ ((hr2.setNew hbk _).setNew hbk _)).mono ?_
  rintro e w3 ⟨rfl, hr3, hk3⟩
  generalize Pu.data s2 bad2 = st3 at *
  obtain ⟨q3, s3, bad3⟩ := st3
  have hc3 : Cb k #[.string ⟨x.toArray⟩, .string ⟨q1.toArray⟩, .int .i64 0, .string ⟨#[]⟩, .string ⟨#[]⟩, .int .i64 0, .string ⟨#[]⟩, .int .i64 q2, .string ⟨p2.toArray⟩, .slice none 0 0, .slice none 0 0] 158 w3 := ((hc2.set 7 (.int .i64 q2)).set 8 (.string ⟨p2.toArray⟩)).only hk3 hbk
  have hx3 : Kx (Two b k) w w3 := ((hx2.two_set _).two_set _).trans hk3.two
  have e3_6 : w3.cell? ⟨k, 6, none⟩ = some (.string ⟨#[]⟩) := hc3.cell 6
  have g3_6 := hc3.frozen 6
  go_wp2
  go_end0
  refine ⟨rfl, by rw [HE.out]; exact (hr3.setNew hbk _), ?_, (hx3.two_set _)⟩
  rw [HV.out]
  exact CoB.nil ((hc3.set 6 (.string ⟨q3.toArray⟩))) rfl rfl

set_option maxHeartbeats 2000000 in
set_option maxRecDepth 100000 in
theorem readReset_any (b k : Nat) (x s : List UInt8) (bad : Bool) (w : World) (h : Rd b s bad w) (hbk : b < k) (hC : Cb k (coC (Pu.Co.of x) (.slice none 0 0) (.slice none 0 0)) 158 w) :
    Calls Tryz.prog 173 #[.pointer (some ⟨b, 0, none⟩), .pointer (some ⟨k, 0, none⟩)] w fun e w' => e = .returned (.tuple #[]) ∧ Rd b (Pu.readReset s bad).1 (Pu.readReset s bad).2 w' ∧ CoB k w.heap.size (Pu.readResetV s bad (Pu.Co.of x)) w' ∧ Kx (Two b k) w w' := by
  have hkl := hC.lt
  have HE : Hid (Pu.readReset s bad = Pu.exactly [] (Pu.fromOr (Pu.ref Pu.sReset1 s bad).2.1 (Pu.ref Pu.sReset1 s bad).2.2).1 (Pu.fromOr (Pu.ref Pu.sReset1 s bad).2.1 (Pu.ref Pu.sReset1 s bad).2.2).2) := rfl
  have HV : Hid (Pu.readResetV s bad (Pu.Co.of x) = ⟨x, (Pu.ref Pu.sReset1 s bad).1, 0, ⟨[], [], 0⟩, [], Pu.fromOrV (Pu.ref Pu.sReset1 s bad).2.1 (Pu.ref Pu.sReset1 s bad).2.2, [], []⟩) := rfl
  have hx0 : Kx (Two b k) w w := Kx.refl _ _
  have hc0 := hC
  unfold coC Pu.Co.of at hc0
  go_enter Tryz.func173, Tryz.ntmps173
  go_wp2_with fail
  refine (ref_any b s bad Pu.sReset1 _ h).mono ?_
  rintro e w1 ⟨rfl, hr1, hk1⟩
  generalize Pu.ref Pu.sReset1 s bad = st1 at *
  obtain ⟨q1, s1, bad1⟩ := st1
  have hc1 : Cb k #[.string ⟨x.toArray⟩, .string ⟨#[]⟩, .int .i64 0, .string ⟨#[]⟩, .string ⟨#[]⟩, .int .i64 0, .string ⟨#[]⟩, .int .i64 0, .string ⟨#[]⟩, .slice none 0 0, .slice none 0 0] 158 w1 := hc0.only hk1 hbk
  have hx1 : Kx (Two b k) w w1 := hx0.trans hk1.two
  have e1_1 : w1.cell? ⟨k, 1, none⟩ = some (.string ⟨#[]⟩) := hc1.cell 1
  have g1_1 := hc1.frozen 1
  go_wp2_with fail
  refine (fromOr_any b s1 bad1 _ (hr1.setNew hbk _)).mono ?_
  rintro e w2 ⟨rfl, hr2, hk2⟩
  generalize Pu.fromOr s1 bad1 = st2 at *
  generalize Pu.fromOrV s1 bad1 = wv2 at *
  obtain ⟨s2, bad2⟩ := st2
  obtain ⟨q2, p2⟩ := wv2
  have hc2 : Cb k #[.string ⟨x.toArray⟩, .string ⟨q1.toArray⟩, .int .i64 0, .string ⟨#[]⟩, .string ⟨#[]⟩, .int .i64 0, .string ⟨#[]⟩, .int .i64 0, .string ⟨#[]⟩, .slice none 0 0, .slice none 0 0] 158 w2 := (hc1.set 1 (.string ⟨q1.toArray⟩)).only hk2 hbk
  have hx2 : Kx (Two b k) w w2 := (hx1.two_set _).trans hk2.two
  have e2_7 : w2.cell? ⟨k, 7, none⟩ = some (.int .i64 0) := hc2.cell 7
  have g2_7 := hc2.frozen 7
  have e2_8 : w2.cell? ⟨k, 8, none⟩ = some (.string ⟨#[]⟩) := hc2.cell 8
  have g2_8 := hc2.frozen 8
  go_wp2_with fail
  refine (exactly_any b s2 bad2 [] _ ((hr2.setNew hbk _).setNew hbk _)).mono ?_
  rintro e w3 ⟨rfl, hr3, hk3⟩
  generalize Pu.exactly [] s2 bad2 = st3 at *
  obtain ⟨s3, bad3⟩ := st3
  have hc3 : Cb k #[.string ⟨x.toArray⟩, .string ⟨q1.toArray⟩, .int .i64 0, .string ⟨#[]⟩, .string ⟨#[]⟩, .int .i64 0, .string ⟨#[]⟩, .int .i64 q2, .string ⟨p2.toArray⟩, .slice none 0 0, .slice none 0 0] 158 w3 := ((hc2.set 7 (.int .i64 q2)).set 8 (.string ⟨p2.toArray⟩)).only hk3 hbk
  have hx3 : Kx (Two b k) w w3 := ((hx2.two_set _).two_set _).trans hk3.two
  go_wp2
  go_end0
  refine ⟨rfl, by rw [HE.out]; exact hr3, ?_, hx3⟩
  rw [HV.out]
  exact CoB.nil (hc3) rfl rfl

end Go.Proofs.YtepgoppgblfjbaaGreatDoor
