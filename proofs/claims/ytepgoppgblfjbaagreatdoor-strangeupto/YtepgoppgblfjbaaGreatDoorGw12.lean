import Derived.Test.YtepgoppgblfjbaaGreatDoorGw11
namespace Go.Proofs.YtepgoppgblfjbaaGreatDoor
open Go.RowKit Go.Maps Go.WideMaps

theorem Kx.andThen {X Y : Nat → Prop} {a c d : World} (h : Kx X a c) (k : Kx Y c d) (hXY : ∀ j, j < a.heap.size → Y j → X j) : Kx X a d :=
  ⟨k.os.trans h.os, k.tape.trans h.tape, k.output.trans h.output, Nat.le_trans h.size k.size,
   fun i hi hx => (k.block i (Nat.lt_of_lt_of_le hi h.size) (fun y => hx (hXY i hi y))).trans (h.block i hi hx)⟩

def RngS (P : Program) (K : TypeId) (w : World) (b r n : Nat) (f : List UInt8 → Option Value) (left : List UInt8 → Bool) (cnt : Nat) : Prop :=
  ∃ (D : DataW Value) (L : Lit → Bool), w.ranges P K Rv b r n D L cnt ∧ (∀ k zd, D.atKey (.string k) zd = heldOr (f k) zd) ∧ ∀ k, L (.string k) = left k

section
variable {P : Program} {K : TypeId} {w w' : World} {b r n cnt : Nat} {f : List UInt8 → Option Value} {left : List UInt8 → Bool}

theorem RngS.left_eq (h : RngS P K w b r n f left cnt) : w.rangeLeft b r = cnt := by
  obtain ⟨D, L, h, _⟩ := h
  exact h.left_eq
theorem RngS.kept {X : Nat → Prop} (h : RngS P K w b r n f left cnt) (hk : Kx X w w') (hb : ¬ X b) (hr : ¬ X r) : RngS P K w' b r n f left cnt := by
  obtain ⟨D, L, h, ha, hl⟩ := h
  refine ⟨D, L, ?_, ha, hl⟩
  have h1 := h.owns.lt
  have h2 := h.lt
  obtain ⟨es, clock, since, seen, c0, e1, F, hs, hD, e2, rest⟩ := h
  exact ⟨es, clock, since, seen, c0, (hk.block b h1 hb).trans e1, F, hs, hD, (hk.block r h2 hr).trans e2, rest⟩

theorem string_inv (hK : P.underlying K = some .string) {key : Value} {kl : Lit} (h : keyOf P K key = some kl) : ∃ k : List UInt8, key = .string ⟨k.toArray⟩ ∧ kl = .string k ∧ k.length ≤ maxLen := by
  cases key with
  | string s =>
    simp [keyOf, hK, mapKey] at h
    refine ⟨s.data.toList, by simp, ?_, ?_⟩
    · exact h.2.symm
    · have h1 := h.1
      show s.data.toList.length ≤ maxLen
      rw [Array.length_toList]
      exact h1
  | _ => simp [keyOf, hK, mapKey] at h

section
variable {ops : Array Oper} {rest : List Oper} {o : Oper} {a : Act} {Q : Exit → Act → World → Prop}

theorem wpList_rangeS (hg : o.guard = none) (m : Operand) (t : TypeId) (hop : o.op = Op.range t m) (e : TypeId) (hK : P.underlying K = some .string) (ht : P.underlying t = some (.map K e))
    (b n : Nat) (f : List UInt8 → Option Value) (hm : a.eval m = .map (some b)) (h : MapS P K w b n f)
    (hc : ∀ w' cnt, cnt ≤ n → RngS P K w' b w.heap.size n f (fun k => (f k).isSome) cnt → Kx (fun _ => False) w w' → wpList P ops Q rest (a.put o.dst (.pointer (some ⟨w.heap.size, 0, none⟩))) w') : wpList P ops Q (o :: rest) a w := by
  obtain ⟨D, hown, ha⟩ := h
  refine wpList_range_own w hg m t hop K e (string_keyed hK) ht Rv b n D hm hown ?_
  intro w' hr hgr _
  exact hc w' _ hown.size_le ⟨D, _, hr, ha, fun k => has_of_heldOr (ha k)⟩ ((Kx.of_grown hgr).mono (fun j _ e => by cases e))

theorem wpList_nextS (hg : o.guard = none) (it : Operand) (hop : o.op = Op.next it false) (hK : P.underlying K = some .string) (b r n : Nat) (f : List UInt8 → Option Value) (left : List UInt8 → Bool) (cnt : Nat)
    (hit : a.eval it = .pointer (some ⟨r, 0, none⟩)) (h : RngS P K w b r n f left cnt)
    (hDone : (∀ k, left k = false) → wpList P ops Q rest (a.put o.dst (.tuple #[.bool false])) w)
    (hMore : ∀ (k : List UInt8) (v : Value) (w' : World) (cnt' : Nat), k.length ≤ maxLen → left k = true → f k = some v → RngS P K w' b r n f (fun z => left z && !decide (z = k)) cnt' → cnt' < cnt → Kx (Only r) w w' → w'.heap.size = w.heap.size →
      (Instr.entry (.pointer (some ⟨r, 0, none⟩))).run P w' = .ok (.tuple #[.string ⟨k.toArray⟩, v]) w' → wpList P ops Q rest (a.put o.dst (.tuple #[.bool true, .string ⟨k.toArray⟩, v])) w') : wpList P ops Q (o :: rest) a w := by
  obtain ⟨D, L, h, ha, hl⟩ := h
  refine wpList_next_ranges (α := List UInt8) (β := Value) w hg it hop K (string_keyed hK) Rv (fun k => .string ⟨k.toArray⟩) id (fun key kl h => by obtain ⟨k, hk, _⟩ := string_inv hK h; exact ⟨k, hk⟩) (fun v _ _ => ⟨v, rfl⟩) b r n D L cnt hit h ?_ ?_
  · intro _ hf
    exact hDone (fun k => by rw [← hl]; exact hf _)
  · intro k v kl y w' cnt' hkey hlk hv hat hrg hlt hgr hsz hen
    obtain ⟨k', ek, rfl, hlen⟩ := string_inv hK hkey
    obtain rfl : k = k' := by simpa using ek
    refine hMore k v w' cnt' hlen (by rw [← hl]; exact hlk) ?_ ⟨D, _, hrg, ha, fun z => ?_⟩ hlt ((Kx.of_grown hgr).mono (fun j _ e => by unfold Only; exact Option.some.inj e)) hsz hen
    · have h1 := hat (.held (.bool true))
      rw [ha] at h1
      have hy : y.1 = .held v := by
        unfold Rv at hv
        simp at hv
        rw [← hv]
      rw [hy] at h1
      cases hx : f k with
      | some u => rw [hx] at h1; simp [heldOr] at h1; rw [h1]
      | none =>
        have h2 := hat (.held (.bool true))
        have h3 := hat (.held (.bool false))
        rw [ha, hx] at h2 h3
        simp [heldOr] at h2 h3
        rw [← h2] at h3
        simp at h3
    · show (L (.string z) && !(Lit.string z).sameKey (.string k)) = _
      rw [hl]
      have e : (Lit.string z).sameKey (.string k) = decide (z = k) := by
        by_cases h : z = k
        · subst h; simp [Lit.sameKey]
        · simp [Lit.sameKey, h]
      rw [e]
end
end

def orE {α β : Type} (f g : α → Option β) : α → Option β := fun k => match f k with | some v => some v | none => g k

theorem orE_upd {α β : Type} [DecidableEq α] (f g : α → Option β) (k : α) (v : β) : orE (upd f k (some v)) g = upd (orE f g) k (some v) := by
  funext z
  unfold orE upd
  by_cases e : z = k
  · simp [e]
  · simp [e]

def over (f g : List UInt8 → Option Value) (left : List UInt8 → Bool) : List UInt8 → Option Value := fun k => if (f k).isSome && !left k then f k else g k

theorem over_start (f g : List UInt8 → Option Value) : over f g (fun k => (f k).isSome) = g := by
  funext k
  unfold over
  cases h : f k <;> simp [h]

theorem over_end (f g : List UInt8 → Option Value) (left : List UInt8 → Bool) (h : ∀ k, left k = false) : over f g left = orE f g := by
  funext k
  unfold over orE
  rw [h]
  cases f k <;> simp

theorem over_step (f g : List UInt8 → Option Value) (left : List UInt8 → Bool) (k : List UInt8) (v : Value) (h : f k = some v) : upd (over f g left) k (some v) = over f g (fun z => left z && !decide (z = k)) := by
  funext z
  unfold upd over
  by_cases e : z = k
  · subst e
    simp [h]
  · simp [e]

end Go.Proofs.YtepgoppgblfjbaaGreatDoor
namespace Go.Proofs.YtepgoppgblfjbaaGreatDoor
open Go.RowKit

def ptrV (b : Nat) : Value := .pointer (some ⟨b, 0, none⟩)

structure FOk (l : List Fi) : Prop where
  own : Own1 l
  len : l.length ≤ 60
  fine : Fine l

structure GdB (id : List UInt8) (au : Au) (msg : List UInt8) : Prop where
  id : id.length = 64
  name : au.name.length ≤ 1000
  mail : au.mail.length ≤ 1000
  time : 0 ≤ au.time ∧ au.time ≤ 9999999999
  msg : msg.length ≤ 1000

structure Gd1 (M : Nat → Prop) (w : World) (B : Nat → Prop) (b : Nat) : Prop where
  lies : ∃ (x id : List UInt8) (v : Value) (l : List Fi) (ap : Option Addr) (cp : Nat) (ps : List Nat) (au : Au) (msg : List UInt8),
    Cb b #[.int .i64 3, .string ⟨x.toArray⟩, .string ⟨id.toArray⟩, v, .slice ap ps.length cp, .string ⟨au.name.toArray⟩, .string ⟨au.mail.toArray⟩, .int .i64 au.time, .string ⟨msg.toArray⟩] 112 w ∧
    Fs w v l ∧ FOk l ∧ (∀ k, v.ownBlock = some k → ¬ M k ∧ k < w.heap.size) ∧ 
    (ps ≠ [] → ∃ g o, ap = some ⟨g, o, none⟩ ∧ ¬ M g ∧ g < w.heap.size ∧ ∀ k x, (ps.map ptrV)[k]? = some x → w.cell? ⟨g, o + k, none⟩ = some x) ∧ ps.length ≤ 4 ∧ (∀ p ∈ ps, B p) ∧ GdB id au msg
  still : ¬ M b

theorem Gd1.kept {M X B : Nat → Prop} {w w' : World} {b : Nat} (h : Gd1 M w B b) (hk : Kx X w w') (hX : ∀ k, k < w.heap.size → X k → M k) : Gd1 M w' B b := by
  obtain ⟨⟨x, id, v, l, ap, cp, ps, au, msg, h1, h2, h3, h4, h5, h7, h8, h9⟩, hs⟩ := h
  exact ⟨⟨x, id, v, l, ap, cp, ps, au, msg, h1.kept hk (fun e => hs (hX b h1.lt e)), h2.kept hk (fun k e hx => (h4 k e).1 (hX k (h4 k e).2 hx)), h3, fun k e => ⟨(h4 k e).1, Nat.lt_of_lt_of_le (h4 k e).2 hk.size⟩,
    fun hn => (let ⟨g, o, a1, a2, a3, a4⟩ := h5 hn; ⟨g, o, a1, a2, Nat.lt_of_lt_of_le a3 hk.size, fun k x hx => (hk.cell (p := ⟨g, o + k, none⟩) a3 (fun e => a2 (hX g a3 e))).trans (a4 k x hx)⟩), h7, h8, h9⟩, hs⟩

theorem Gd1.mono {M M' B : Nat → Prop} {w : World} {b : Nat} (h : Gd1 M w B b) (hM : ∀ k, k < w.heap.size → M' k → M k) : Gd1 M' w B b := by
  obtain ⟨⟨x, id, v, l, ap, cp, ps, au, msg, h1, h2, h3, h4, h5, h7, h8, h9⟩, hs⟩ := h
  exact ⟨⟨x, id, v, l, ap, cp, ps, au, msg, h1, h2, h3, fun k e => ⟨fun m => (h4 k e).1 (hM k (h4 k e).2 m), (h4 k e).2⟩, fun hn => (let ⟨g, o, a1, a2, a3, a4⟩ := h5 hn; ⟨g, o, a1, fun m => a2 (hM g a3 m), a3, a4⟩), h7, h8, h9⟩, fun m => hs (hM b h1.lt m)⟩

theorem Gd1.more {M B B' : Nat → Prop} {w : World} {b : Nat} (h : Gd1 M w B b) (hB : ∀ k, B k → B' k) : Gd1 M w B' b := by
  obtain ⟨⟨x, id, v, l, ap, cp, ps, au, msg, h1, h2, h3, h4, h5, h7, h8, h9⟩, hs⟩ := h
  exact ⟨⟨x, id, v, l, ap, cp, ps, au, msg, h1, h2, h3, h4, h5, h7, fun p hp => hB p (h8 p hp), h9⟩, hs⟩

def Good (M : Nat → Prop) (w : World) (b : Nat) : Prop := ∃ B : Nat → Prop, B b ∧ ∀ k, B k → Gd1 M w B k

theorem Good.out {M : Nat → Prop} {w : World} {b : Nat} (h : Good M w b) : Gd1 M w (Good M w) b := by
  obtain ⟨B, h1, h2⟩ := h
  exact (h2 b h1).more (fun k e => ⟨B, e, h2⟩)

theorem Good.mk {M : Nat → Prop} {w : World} {b : Nat} (h : Gd1 M w (Good M w) b) : Good M w b := by
  refine ⟨fun k => k = b ∨ Good M w k, .inl rfl, fun k e => ?_⟩
  rcases e with rfl | e
  · exact h.more (fun _ e => .inr e)
  · exact e.out.more (fun _ e => .inr e)

theorem Good.kept {M X : Nat → Prop} {w w' : World} {b : Nat} (h : Good M w b) (hk : Kx X w w') (hX : ∀ k, k < w.heap.size → X k → M k) : Good M w' b := by
  obtain ⟨B, h1, h2⟩ := h
  exact ⟨B, h1, fun k e => (h2 k e).kept hk hX⟩

theorem Good.mono {M M' : Nat → Prop} {w : World} {b : Nat} (h : Good M w b) (hM : ∀ k, k < w.heap.size → M' k → M k) : Good M' w b := by
  obtain ⟨B, h1, h2⟩ := h
  exact ⟨B, h1, fun k e => (h2 k e).mono hM⟩

structure Cmt (M : Nat → Prop) (w : World) (b : Nat) (c : Com) : Prop where
  lies : ∃ (x : List UInt8) (v : Value) (rest : List Value), Cb b (.int .i64 3 :: .string ⟨x.toArray⟩ :: .string ⟨(Sh.hex c.sum).toArray⟩ :: v :: rest).toArray 112 w ∧ Fs w v c.files ∧ ∀ k, v.ownBlock = some k → ¬ M k ∧ k < w.heap.size
  still : ¬ M b
  sum : c.sum.length = 32
  ok : FOk c.files
  good : Good M w b

theorem Cmt.kept {M X : Nat → Prop} {w w' : World} {b : Nat} {c : Com} (h : Cmt M w b c) (hk : Kx X w w') (hX : ∀ k, k < w.heap.size → X k → M k) : Cmt M w' b c := by
  obtain ⟨⟨x, v, rest, h1, h2, h3⟩, h4, h5, h6, h7⟩ := h
  exact ⟨⟨x, v, rest, h1.kept hk (fun e => h4 (hX b h1.lt e)), h2.kept hk (fun k e hx => (h3 k e).1 (hX k (h3 k e).2 hx)), fun k e => ⟨(h3 k e).1, Nat.lt_of_lt_of_le (h3 k e).2 hk.size⟩⟩, h4, h5, h6, h7.kept hk hX⟩

theorem Cmt.lt {M : Nat → Prop} {w : World} {b : Nat} {c : Com} (h : Cmt M w b c) : b < w.heap.size := by
  obtain ⟨x, v, rest, h1, _⟩ := h.lies
  exact h1.lt

theorem Cmt.mono {M M' : Nat → Prop} {w : World} {b : Nat} {c : Com} (h : Cmt M w b c) (hM : ∀ k, k < w.heap.size → M' k → M k) : Cmt M' w b c := by
  have hl := h.lt
  obtain ⟨⟨x, v, rest, h1, h2, h3⟩, h4, h5, h6, h7⟩ := h
  exact ⟨⟨x, v, rest, h1, h2, fun k e => ⟨fun m => (h3 k e).1 (hM k (h3 k e).2 m), (h3 k e).2⟩⟩, fun m => h4 (hM b hl m), h5, h6, h7.mono hM⟩

theorem Cmt.id {M : Nat → Prop} {w : World} {b : Nat} {c : Com} (h : Cmt M w b c) : w.cell? ⟨b, 2, none⟩ = some (.string ⟨(Sh.hex c.sum).toArray⟩) := by
  obtain ⟨x, v, rest, h1, _⟩ := h.lies
  exact Cb.cell h1 2

theorem Cmt.files {M : Nat → Prop} {w : World} {b : Nat} {c : Com} (h : Cmt M w b c) : ∃ v, w.cell? ⟨b, 3, none⟩ = some v ∧ Fs w v c.files ∧ ∀ k, v.ownBlock = some k → ¬ M k ∧ k < w.heap.size := by
  obtain ⟨x, v, rest, h1, h2, h3⟩ := h.lies
  exact ⟨v, Cb.cell h1 3, h2, h3⟩

def CmtL (M : Nat → Prop) (w : World) : List Nat → List Com → Prop
  | [], [] => True
  | p :: ps, c :: cs => Cmt M w p c ∧ CmtL M w ps cs
  | _, _ => False

theorem CmtL.kept {M X : Nat → Prop} {w w' : World} (hk : Kx X w w') (hX : ∀ k, k < w.heap.size → X k → M k) : ∀ {ps : List Nat} {cs : List Com}, CmtL M w ps cs → CmtL M w' ps cs
  | [], [], _ => trivial
  | _ :: _, _ :: _, h => ⟨h.1.kept hk hX, CmtL.kept hk hX h.2⟩
  | [], _ :: _, h => h.elim
  | _ :: _, [], h => h.elim

theorem CmtL.len {M : Nat → Prop} {w : World} : ∀ {ps : List Nat} {cs : List Com}, CmtL M w ps cs → ps.length = cs.length
  | [], [], _ => rfl
  | _ :: _, _ :: _, h => by simp [CmtL.len h.2]
  | [], _ :: _, h => h.elim
  | _ :: _, [], h => h.elim

theorem CmtL.at {M : Nat → Prop} {w : World} : ∀ {ps : List Nat} {cs : List Com}, CmtL M w ps cs → ∀ (k : Nat) (h1 : k < ps.length) (h2 : k < cs.length), Cmt M w ps[k] cs[k]
  | [], _, _, k, h1, _ => absurd h1 (Nat.not_lt_zero _)
  | _ :: _, _ :: _, h, 0, _, _ => h.1
  | _ :: _, _ :: _, h, k + 1, h1, h2 => CmtL.at h.2 k (by simpa using h1) (by simpa using h2)
  | _ :: _, [], h, _, _, _ => h.elim

theorem CmtL.snoc {M : Nat → Prop} {w : World} {p : Nat} {c : Com} (hc : Cmt M w p c) : ∀ {ps : List Nat} {cs : List Com}, CmtL M w ps cs → CmtL M w (ps ++ [p]) (cs ++ [c])
  | [], [], _ => ⟨hc, trivial⟩
  | _ :: _, _ :: _, h => ⟨h.1, CmtL.snoc hc h.2⟩
  | [], _ :: _, h => h.elim
  | _ :: _, [], h => h.elim

theorem CmtL.good {M : Nat → Prop} {w : World} : ∀ {ps : List Nat} {cs : List Com}, CmtL M w ps cs → ∀ p ∈ ps, Good M w p
  | [], [], _, p, hp => by cases hp
  | _ :: _, _ :: _, h, p, hp => by
    rcases List.mem_cons.1 hp with rfl | hp
    · exact h.1.good
    · exact CmtL.good h.2 p hp
  | [], _ :: _, h, _, _ => h.elim
  | _ :: _, [], h, _, _ => h.elim

def none4 : List UInt8 → Option Value := fun _ => none

structure HiNew (w w' : World) (h o c r t : Nat) : Prop where
  hi : Hi w' h o c r t
  fo : MpS w' o 0 none4
  fc : MpS w' c 0 none4
  fr : MpS w' r 0 none4
  ft : MpS w' t 0 none4
  new : w.heap.size ≤ o ∧ o < c ∧ c < r ∧ r < t ∧ t < h
  kx : Kx (fun _ => False) w w'

set_option maxHeartbeats 800000 in
theorem hnew_any (w : World) : Calls Tryz.prog 50 #[] w fun e w' => ∃ h o c r t, e = .returned (.pointer (some ⟨h, 0, none⟩)) ∧ HiNew w w' h o c r t := by
  have h1 := MapS.made (P := Tryz.prog) (K := 9) w
  have k1 := (Kx.refl (fun _ => False) w).alloc (.map #[] 0)
  have h2 := MapS.made (P := Tryz.prog) (K := 9) (w.alloc (.map #[] 0))
  have k2 := (Kx.refl (fun _ => False) (w.alloc (.map #[] 0))).alloc (.map #[] 0)
  have h3 := MapS.made (P := Tryz.prog) (K := 9) ((w.alloc (.map #[] 0)).alloc (.map #[] 0))
  have k3 := (Kx.refl (fun _ => False) ((w.alloc (.map #[] 0)).alloc (.map #[] 0))).alloc (.map #[] 0)
  have h4 := MapS.made (P := Tryz.prog) (K := 9) (((w.alloc (.map #[] 0)).alloc (.map #[] 0)).alloc (.map #[] 0))
  have k4 := (Kx.refl (fun _ => False) (((w.alloc (.map #[] 0)).alloc (.map #[] 0)).alloc (.map #[] 0))).alloc (.map #[] 0)
  have k5 := (Kx.refl (fun _ => False) ((((w.alloc (.map #[] 0)).alloc (.map #[] 0)).alloc (.map #[] 0)).alloc (.map #[] 0))).alloc (.cells #[.map (some w.heap.size), .map (some (w.alloc (.map #[] 0)).heap.size), .map (some ((w.alloc (.map #[] 0)).alloc (.map #[] 0)).heap.size), .map (some (((w.alloc (.map #[] 0)).alloc (.map #[] 0)).alloc (.map #[] 0)).heap.size)] 150)
  have hN : HiNew w _ _ _ _ _ _ := ⟨Cb.new _ _ _, ((((h1.kept k2 id).kept k3 id).kept k4 id).kept k5 id), (((h2.kept k3 id).kept k4 id).kept k5 id), ((h3.kept k4 id).kept k5 id), h4.kept k5 id, ⟨Nat.le_refl _, by simp, by simp, by simp, by simp⟩, (((k1.trans k2).trans k3).trans k4).trans k5⟩
  simp only [World.size_alloc] at hN
  clear h1 h2 h3 h4 k1 k2 k3 k4 k5
  have hmk : ∀ t w, Sem.run Tryz.prog (Instr.makeMap t none) w = .ok (.map (some w.heap.size)) (w.alloc (.map #[] 0)) := fun _ _ => rfl
  go_enter Tryz.func50, Tryz.ntmps50
  go_wp2
  go_ret
  exact ⟨_, _, _, _, _, rfl, hN⟩

theorem draft_any (p : Nat) (w : World) : Calls Tryz.prog 121 #[.pointer (some ⟨p, 0, none⟩)] w fun e w' => ∃ d h o c r t, e = .returned (.pointer (some ⟨d, 0, none⟩)) ∧ Dr w' d p h ∧ h < d ∧ HiNew w w' h o c r t := by
  go_enter Tryz.func121, Tryz.ntmps121
  go_wp2_with (go_at_call 50; refine (hnew_any _).mono ?_; rintro _ w2 ⟨h, o, c, r, t, rfl, hN⟩)
  go_ret
  have k := (Kx.refl (fun _ => False) w2).alloc (.cells #[.pointer (some ⟨p, 0, none⟩), .pointer (some ⟨h, 0, none⟩)] 224)
  exact ⟨_, h, o, c, r, t, rfl, Cb.new _ _ _, Cb.lt hN.hi, hN.hi.kept k id, hN.fo.kept k id, hN.fc.kept k id, hN.fr.kept k id, hN.ft.kept k id, hN.new, hN.kx.trans k⟩

set_option maxHeartbeats 800000 in
theorem addCommit_any (d p m o c r t n n' : Nat) (f g : List UInt8 → Option Value) (b : Nat) (x i : List UInt8) (rest : List Value) (w : World) (hd : Dr w d p m) (hm : Hi w m o c r t) (hf : MpS w o n f) (hg : MpS w c n' g) (hn : n < maxLen) (hn' : n' < maxLen) (hi : i.length ≤ maxLen)
    (hb : Cb b (.int .i64 3 :: .string ⟨x.toArray⟩ :: .string ⟨i.toArray⟩ :: rest).toArray 112 w) (hoc : o ≠ c) (hod : d ≠ o) (hom : m ≠ o) (hob : b ≠ o) :
    Calls Tryz.prog 232 #[.pointer (some ⟨d, 0, none⟩), .pointer (some ⟨b, 0, none⟩)] w fun e w' => e = .returned (.tuple #[]) ∧ MpS w' o (n + 1) (upd f i (some (objV 3 x i))) ∧ MpS w' c (n' + 1) (upd g i (some (.pointer (some ⟨b, 0, none⟩)))) ∧ Kx (fun k => k = o ∨ k = c) w w' := by
  have hb0 : w.cell? ⟨b, 0, none⟩ = some (.int .i64 3) := Cb.cell hb 0
  have hb1 : w.cell? ⟨b, 1, none⟩ = some (.string ⟨x.toArray⟩) := Cb.cell hb 1
  have hb2 : w.cell? ⟨b, 2, none⟩ = some (.string ⟨i.toArray⟩) := Cb.cell hb 2
  have hc := add_any d p m o c r t n f 3 x i w hd hm hf hn hi
  unfold objV at *
  go_enter Tryz.func232, Tryz.ntmps232
  go_wp2_with (go_at_call 300; refine hc.mono ?_; rintro _ w2 ⟨rfl, hf2, hk2⟩)
  have hdW := hd.kept hk2 (by unfold Only; exact hod)
  have hmW := hm.kept hk2 (by unfold Only; exact hom)
  have hbW := hb.kept hk2 (by unfold Only; exact hob)
  have hgW := hg.kept hk2 (by unfold Only; exact Ne.symm hoc)
  clear hc hd hm hb hg hf hb0 hb1 hb2
  refine wp_region_quiet_tail (C := fun w' => Kx (fun _ => False) w2 w') 13 (by kernel_rfl) (by kernel_rfl) (Kx.refl _ _).drew ?_
  refine quiet_val rfl (.pointer (some ⟨d, 0, none⟩)) (fun w' hC => by go_simp) ?_
  refine quiet_val rfl (.pointer (some ⟨d, 0, none⟩)) (fun w' hC => by go_simp) ?_
  refine quiet_val rfl (.pointer (some ⟨d, 1, none⟩)) (fun w' hC => by go_simp) ?_
  refine quiet_val rfl (.pointer (some ⟨m, 0, none⟩)) (fun w' hC => by
    have hcw : w'.cell? ⟨d, 1, none⟩ = some (.pointer (some ⟨m, 0, none⟩)) := Cb.cell (hdW.kept hC id) 1
    go_simp) ?_
  refine quiet_val rfl (.pointer (some ⟨m, 0, none⟩)) (fun w' hC => by go_simp) ?_
  refine quiet_val rfl (.pointer (some ⟨m, 1, none⟩)) (fun w' hC => by go_simp) ?_
  refine quiet_val rfl (.map (some c)) (fun w' hC => by
    have hcw : w'.cell? ⟨m, 1, none⟩ = some (.map (some c)) := Cb.cell (hmW.kept hC id) 1
    go_simp) ?_
  refine quiet_val rfl (.pointer (some ⟨b, 0, none⟩)) (fun w' hC => by go_simp) ?_
  refine quiet_val rfl (.pointer (some ⟨b, 0, none⟩)) (fun w' hC => by go_simp) ?_
  refine quiet_val rfl (.pointer (some ⟨b, 0, none⟩)) (fun w' hC => by go_simp) ?_
  refine quiet_val rfl (.pointer (some ⟨b, 2, none⟩)) (fun w' hC => by go_simp) ?_
  refine quiet_val rfl (.string ⟨i.toArray⟩) (fun w' hC => by
    have hcw : w'.cell? ⟨b, 2, none⟩ = some (.string ⟨i.toArray⟩) := Cb.cell (hbW.kept hC id) 2
    go_simp) ?_
  refine quiet_val rfl (.pointer (some ⟨b, 0, none⟩)) (fun w' hC => by go_simp) ?_
  refine wpQuiet_nil (fun w' hC => ?_)
  simp only [Act.put, sI, sS, sZ, List.drop_succ_cons, List.drop_zero]
  have hg' := hgW.kept hC id
  have hf' := hf2.kept hC id
  have hk' : Kx (fun k => k = o ∨ k = c) w w' := (hk2.mono (fun _ _ h => .inl h)).trans (hC.mono (fun _ _ h => h.elim))
  refine wpList_putS rfl _ _ _ 147 rfl 101 (by kernel_rfl) (by kernel_rfl) c n' g rfl hg' hn' i rfl hi _ rfl ?_
  intro w3 hg3 hk3
  go_wp2
  go_end0
  exact ⟨rfl, hf'.kept hk3 (by unfold Only; exact hoc), hg3, hk'.trans (hk3.mono (fun _ _ h => .inr h))⟩

set_option maxHeartbeats 800000 in
theorem addTag_any (d p m o c r t n n' : Nat) (f g : List UInt8 → Option Value) (b : Nat) (x i name : List UInt8) (rest : List Value) (w : World) (hd : Dr w d p m) (hm : Hi w m o c r t) (hf : MpS w o n f) (hg : MpS w t n' g) (hn : n < maxLen) (hn' : n' < maxLen) (hi : i.length ≤ maxLen) (hname : name.length ≤ maxLen)
    (hb : Cb b (.int .i64 4 :: .string ⟨x.toArray⟩ :: .string ⟨i.toArray⟩ :: .string ⟨name.toArray⟩ :: rest).toArray 187 w) (hoc : o ≠ t) (hod : d ≠ o) (hom : m ≠ o) (hob : b ≠ o) :
    Calls Tryz.prog 240 #[.pointer (some ⟨d, 0, none⟩), .pointer (some ⟨b, 0, none⟩)] w fun e w' => e = .returned (.tuple #[]) ∧ MpS w' o (n + 1) (upd f i (some (objV 4 x i))) ∧ MpS w' t (n' + 1) (upd g name (some (.pointer (some ⟨b, 0, none⟩)))) ∧ Kx (fun k => k = o ∨ k = t) w w' := by
  have hb0 : w.cell? ⟨b, 0, none⟩ = some (.int .i64 4) := Cb.cell hb 0
  have hb1 : w.cell? ⟨b, 1, none⟩ = some (.string ⟨x.toArray⟩) := Cb.cell hb 1
  have hb2 : w.cell? ⟨b, 2, none⟩ = some (.string ⟨i.toArray⟩) := Cb.cell hb 2
  have hc := add_any d p m o c r t n f 4 x i w hd hm hf hn hi
  unfold objV at *
  go_enter Tryz.func240, Tryz.ntmps240
  go_wp2_with (go_at_call 300; refine hc.mono ?_; rintro _ w2 ⟨rfl, hf2, hk2⟩)
  have hdW := hd.kept hk2 (by unfold Only; exact hod)
  have hmW := hm.kept hk2 (by unfold Only; exact hom)
  have hbW := hb.kept hk2 (by unfold Only; exact hob)
  have hgW := hg.kept hk2 (by unfold Only; exact Ne.symm hoc)
  clear hc hd hm hb hg hf hb0 hb1 hb2
  refine wp_region_quiet_tail (C := fun w' => Kx (fun _ => False) w2 w') 12 (by kernel_rfl) (by kernel_rfl) (Kx.refl _ _).drew ?_
  refine quiet_val rfl (.pointer (some ⟨d, 0, none⟩)) (fun w' hC => by go_simp) ?_
  refine quiet_val rfl (.pointer (some ⟨d, 0, none⟩)) (fun w' hC => by go_simp) ?_
  refine quiet_val rfl (.pointer (some ⟨d, 1, none⟩)) (fun w' hC => by go_simp) ?_
  refine quiet_val rfl (.pointer (some ⟨m, 0, none⟩)) (fun w' hC => by
    have hcw : w'.cell? ⟨d, 1, none⟩ = some (.pointer (some ⟨m, 0, none⟩)) := Cb.cell (hdW.kept hC id) 1
    go_simp) ?_
  refine quiet_val rfl (.pointer (some ⟨m, 0, none⟩)) (fun w' hC => by go_simp) ?_
  refine quiet_val rfl (.pointer (some ⟨m, 3, none⟩)) (fun w' hC => by go_simp) ?_
  refine quiet_val rfl (.map (some t)) (fun w' hC => by
    have hcw : w'.cell? ⟨m, 3, none⟩ = some (.map (some t)) := Cb.cell (hmW.kept hC id) 3
    go_simp) ?_
  refine quiet_val rfl (.pointer (some ⟨b, 0, none⟩)) (fun w' hC => by go_simp) ?_
  refine quiet_val rfl (.pointer (some ⟨b, 0, none⟩)) (fun w' hC => by go_simp) ?_
  refine quiet_val rfl (.pointer (some ⟨b, 3, none⟩)) (fun w' hC => by go_simp) ?_
  refine quiet_val rfl (.string ⟨name.toArray⟩) (fun w' hC => by
    have hcw : w'.cell? ⟨b, 3, none⟩ = some (.string ⟨name.toArray⟩) := Cb.cell (hbW.kept hC id) 3
    go_simp) ?_
  refine quiet_val rfl (.pointer (some ⟨b, 0, none⟩)) (fun w' hC => by go_simp) ?_
  refine wpQuiet_nil (fun w' hC => ?_)
  simp only [Act.put, sI, sS, sZ, List.drop_succ_cons, List.drop_zero]
  have hg' := hgW.kept hC id
  have hf' := hf2.kept hC id
  have hk' : Kx (fun k => k = o ∨ k = t) w w' := (hk2.mono (fun _ _ h => .inl h)).trans (hC.mono (fun _ _ h => h.elim))
  refine wpList_putS rfl _ _ _ 148 rfl 185 (by kernel_rfl) (by kernel_rfl) t n' g rfl hg' hn' name rfl hname _ rfl ?_
  intro w3 hg3 hk3
  go_wp2
  go_end0
  exact ⟨rfl, hf'.kept hk3 (by unfold Only; exact hoc), hg3, hk'.trans (hk3.mono (fun _ _ h => .inr h))⟩

theorem info296 : (Tryz.prog.info? 324).map (fun i => (i.zero, i.size, i.bytes)) = some (some (.pointer none), 1, 8) := by kernel_rfl

theorem cutG_any (s sep : List UInt8) (w : World) (hs : s.length ≤ 100000) (h : Gl w) :
    Calls Tryz.prog 136 #[.string ⟨s.toArray⟩, .string ⟨sep.toArray⟩] w fun e w' => e = .returned (.tuple #[.string ⟨(Lib.cut s sep).1.toArray⟩, .string ⟨(Lib.cut s sep).2.1.toArray⟩, .bool (Lib.cut s sep).2.2]) ∧ Kx (fun _ => False) w w' := by
  obtain ⟨m, hm⟩ := h.max
  refine (Tryz.strings_Cut ⟨s.toArray⟩ ⟨sep.toArray⟩ m w (by simp [ByteArray.size]; omega) hm).mono ?_
  rintro e w' ⟨rfl, n, rfl⟩
  exact ⟨rfl, (Kx.refl _ _).drewN n⟩

theorem TI.done {KK : List Int} {w : World} {T b : Nat} {c : List UInt8} {ws : Trs} {g : Option Nat} {vW : Value} {ps bs : List Nat} {w' w'' : World} (h : TI KK w T b c ws g vW ps bs w') (hk : Kx (BdX b g) w' w'') :
    Cb T #[.int .i64 0, .string ⟨#[]⟩, .string ⟨#[]⟩, vW] 391 w'' ∧ PtrRow w'' vW ps ∧ IsTrs KK w'' ws ps bs ∧ Kx (fun _ => False) w w'' := by
  have hnb : ∀ k ∈ bs, ¬ BdX b g k := fun k hk e => by
    obtain ⟨d1, _, d3, _⟩ := h.dis k hk
    rcases e with e | e
    · omega
    · exact d3 e.symm
  refine ⟨h.cb.kept hk ?_, h.row.kept hk ?_, h.trs.kept hk hnb, h.kx.join hk (fun j hj e => ?_)⟩
  · intro e
    rcases e with e | e
    · have := h.tb; omega
    · have := (h.dg T e.symm).1; have := h.tb; omega
  · intro k hk' e
    rcases e with e | e
    · have := h.dv k hk'; omega
    · exact (h.dg k e.symm).2 hk'
  · have := h.tb
    rcases e with e | e
    · omega
    · have := (h.dg j e.symm).1; omega

def TreeGives (KK : List Int) (l : List Fi) (w : World) (e : Ending) (w' : World) : Prop :=
  ∃ p bs, e = .returned (.pointer (some ⟨p, 0, none⟩)) ∧ IsTr KK w' (.mk (Pf.tree KK l).1 (Pf.tree KK l).2) p bs ∧ (∀ k ∈ bs, w.heap.size ≤ k ∧ k < w'.heap.size) ∧ Kx (fun _ => False) w w'

set_option maxHeartbeats 1000000 in
set_option maxRecDepth 100000 in
theorem tree_step (KK : List Int) (hKK : KK.length = 72) (l : List Fi) (v : Value) (mb : Nat) (mt : TypeId) (w : World) (hgl : Gl w) (hK : Cb mb (A32 KK) mt w) (hF : Fs w v l) (hfine : Fine l) (hl60 : l.length ≤ 60)
    (ih : ∀ (l' : List Fi) (v' : Value) (w' : World), Pf.weight l' < Pf.weight l → Gl w' → Cb mb (A32 KK) mt w' → Fs w' v' l' → Fine l' → l'.length ≤ 60 → Calls Tryz.prog 229 #[.pointer (some ⟨mb, 0, none⟩), v'] w' (TreeGives KK l' w')) :
    Calls Tryz.prog 229 #[.pointer (some ⟨mb, 0, none⟩), v] w (TreeGives KK l w) := by
  obtain ⟨i0, hi, hz0, hz1, hz2⟩ := info_parts info296
  have hti : TI KK w w.heap.size (w.heap.size + 1) [] .nil none (.slice none 0 0) [] [] ((w.alloc (.cells #[.int .i64 0, .string ⟨#[]⟩, .string ⟨#[]⟩, .slice none 0 0] 391)).alloc (.cells #[.pointer none, .slice none 0 0] 246)) := by
    refine ⟨⟨Nat.le_refl _, by omega⟩, ?_, (Cb.new _ 391 w).alloc _, .inl ⟨rfl, rfl⟩, rfl, by simp, by simp, by simp [Value.ownBlock], ((Kx.refl _ _).alloc _).alloc _⟩
    have h := Bd.new (w.alloc (.cells #[.int .i64 0, .string ⟨#[]⟩, .string ⟨#[]⟩, .slice none 0 0] 391))
    rw [World.size_alloc] at h
    exact h
  have IH : Hid (∀ (l' : List Fi) (v' : Value) (w' : World), Pf.weight l' < Pf.weight l → Gl w' → Cb mb (A32 KK) mt w' → Fs w' v' l' → Fine l' → l'.length ≤ 60 → Calls Tryz.prog 229 #[.pointer (some ⟨mb, 0, none⟩), v'] w' (TreeGives KK l' w')) := ih
  clear ih
  go_enter Tryz.func229, Tryz.ntmps229
  go_wp2
  revert hti
  generalize (w.alloc (.cells #[.int .i64 0, .string ⟨#[]⟩, .string ⟨#[]⟩, .slice none 0 0] 391)).alloc (.cells #[.pointer none, .slice none 0 0] 246) = w1
  intro hti
  obtain ⟨T, hT⟩ : ∃ T, w.heap.size = T := ⟨_, rfl⟩
  have HT : Hid (w.heap.size = T) := hT
  rw [hT] at hti ⊢
  clear hT
  have htl := tree_len KK l hfine
  go_loopw [1] (fun v1 w' => ∃ (l' : List Fi) (c : List UInt8) (ws : Trs) (g : Option Nat) (vW : Value) (ps bs : List Nat), TI KK w T (T + 1) c ws g vW ps bs w' ∧ Fs w v1 l' ∧ Fine l' ∧ l'.length ≤ l.length ∧ Pf.weight l' ≤ Pf.weight l ∧ c.length + 300 * l'.length ≤ 300 * l.length ∧ ps.length + l'.length ≤ l.length ∧ Pf.tree KK l = (c ++ (Pf.tree KK l').1, ws.app (Pf.tree KK l').2)) (fun v1 _ => vlen v1)
  case atStart => exact ⟨l, [], .nil, none, _, [], [], hti, hF, hfine, Nat.le_refl _, Nat.le_refl _, by simp, by simp, rfl⟩
  case round =>
    obtain ⟨l', c, ws, g, vW, ps, bs, hI, hF1, hfi, hll, hwl, hcl, hpl, hE⟩ := hrel
    have HE : Hid (Pf.tree KK l = (c ++ (Pf.tree KK l').1, ws.app (Pf.tree KK l').2)) := hE
    clear hE
    obtain ⟨q, cap, hv1, hcap, _⟩ := id hF1
    subst hv1
    cases l' with
    | nil =>
      have hn0 : ([] : List Fi).length = 0 := rfl
      rw [hn0]
      go_wp2_with fail
      refine (string_any (T + 1) c g _ hI.bd).mono ?_
      rintro _ w2 ⟨rfl, hk2⟩
      obtain ⟨hcb2, hrow2, htrs2, hkx2⟩ := hI.done hk2
      have hgl2 := hgl.kept hkx2 (fun _ _ => id)
      have hK2 := hK.kept hkx2 id
      have hTE : Pf.tree KK l = (c, ws) := by rw [HE.out, tree_nil, List.append_nil, Trs.app_nil]
      have HTE : Hid (Pf.tree KK l = (c, ws)) := hTE
      clear hTE HE
      go_wp2_with fail
      refine (object_any KK hKK mb mt 2 c _ hgl2 hK2 (by omega) (by omega)).mono ?_
      rintro _ w3 ⟨rfl, hk3⟩
      have hcb3 := hcb2.kept hk3 id
      have hrow3 := hrow2.kept hk3 (fun _ _ => id)
      have htrs3 := htrs2.kept hk3 (fun _ _ => id)
      have hkx3 := hkx2.trans hk3
      have c0 : w3.cell? ⟨T, 0, none⟩ = some (.int .i64 0) := hcb3.cell 0
      have c1 : w3.cell? ⟨T, 1, none⟩ = some (.string ⟨#[]⟩) := hcb3.cell 1
      have c2 : w3.cell? ⟨T, 2, none⟩ = some (.string ⟨#[]⟩) := hcb3.cell 2
      have f0 : w3.frozen? ⟨T, 0, none⟩ = false := hcb3.frozen 0
      have f1 : w3.frozen? ⟨T, 1, none⟩ = false := hcb3.frozen 1
      have f2 : w3.frozen? ⟨T, 2, none⟩ = false := hcb3.frozen 2
      have hTl := hcb3.lt
      obtain ⟨idv, hidv⟩ : ∃ x, Sh.idK KK 2 c = x := ⟨_, rfl⟩
      have HID : Hid (Sh.idK KK 2 c = idv) := hidv
      rw [hidv]
      clear hidv
      have h4 := ((hcb3.set 0 (.int .i64 2)).set 1 (.string ⟨c.toArray⟩)).set 2 (.string ⟨idv.toArray⟩)
      have hk4 : Kx (Only T) w3 (((w3.setCell ⟨T, 0, none⟩ (.int .i64 2)).setCell ⟨T, 1, none⟩ (.string ⟨c.toArray⟩)).setCell ⟨T, 2, none⟩ (.string ⟨idv.toArray⟩)) := (((Kx.refl _ _).only_set _).only_set _).only_set _
      go_wp2
      go_ret
      refine ⟨T, T :: (bs ++ (vW.ownBlock.toList)), rfl, ?_, ?_, ?_⟩
      · rw [HTE.out]
        unfold IsTr
        refine ⟨vW, ps, by rw [HID.out]; exact h4, hrow3.kept hk4 ?_, (htrs3.kept hk4 ?_).mono ?_, by simp, ?_⟩
        · intro k hk e; have := hI.dv k hk; unfold Only at e; omega
        · intro k hk e; have := (hI.dis k hk).1; unfold Only at e; omega
        · intro k hk; simp [hk]
        · intro k hk; simp [hk]
      · intro k hk
        have hsz : w3.heap.size = (((w3.setCell ⟨T, 0, none⟩ (.int .i64 2)).setCell ⟨T, 1, none⟩ (.string ⟨c.toArray⟩)).setCell ⟨T, 2, none⟩ (.string ⟨idv.toArray⟩)).heap.size := by simp
        have hw23 : wr.heap.size ≤ w3.heap.size := Nat.le_trans hk2.size hk3.size
        have hTT := HT.out
        rw [← hsz]
        rcases List.mem_cons.1 hk with rfl | hk
        · exact ⟨by omega, hTl⟩
        · rcases List.mem_append.1 hk with hk | hk
          · have := hI.dis k hk; exact ⟨by omega, by omega⟩
          · have hk' : vW.ownBlock = some k := by simpa using hk
            have h1 := hI.dv k hk'
            have h2 := (OwnB.lt hI.row k hk').2
            exact ⟨by omega, by omega⟩
      · exact hkx3.join hk4 (fun j hj e => by have := HT.out; unfold Only at e; omega)
    | cons f r =>
      have hlen : (f :: r).length = r.length + 1 := rfl
      have hff := hfi f (by simp)
      have hFr := hF1.kept hI.kx (fun _ _ => id)
      obtain ⟨g0, o, cap', he, p0, p1, p2⟩ := hFr.file 0 (by simp)
      cases he
      have hglr := hgl.kept hI.kx (fun _ _ => id)
      have hKr := hK.kept hI.kx id
      simp only [List.getElem_cons_zero, Nat.mul_zero, Nat.add_zero] at p0 p1 p2
      have hd1 : ∀ k, k ≤ (f :: r).length → Fs w (.slice (if cap = k then some ⟨g0, o, none⟩ else some ⟨g0, o + 3 * k, none⟩) ((f :: r).length - k) (cap - k)) ((f :: r).drop k) := fun k hk => hF1.drop hk
      have HD : Hid (∀ k, k ≤ (f :: r).length → Fs w (.slice (if cap = k then some ⟨g0, o, none⟩ else some ⟨g0, o + 3 * k, none⟩) ((f :: r).length - k) (cap - k)) ((f :: r).drop k)) := hd1
      clear hd1
      have hpos : 0 < (f :: r).length := by simp
      have HNF := fun h => tree_file KK f r h
      have HND := fun inside h hi => tree_dir KK f r inside h hi
      have HNF' : Hid ((Lib.cut f.path [47]).2.2 = false → Pf.tree KK (f :: r) = (Pf.entry f.mode (Lib.cut f.path [47]).1 f.sum ++ (Pf.tree KK r).1, (Pf.tree KK r).2)) := HNF
      clear HNF
      have hFb := Cb.new #[.string ⟨f.path.toArray⟩, .string ⟨f.mode.toArray⟩, .string ⟨(Sh.hex f.sum).toArray⟩] 114 wr
      have hkA : Kx (fun _ => False) wr (wr.alloc (.cells #[.string ⟨f.path.toArray⟩, .string ⟨f.mode.toArray⟩, .string ⟨(Sh.hex f.sum).toArray⟩] 114)) := (Kx.refl _ _).alloc _
      go_wp2_with fail
      refine (cutG_any f.path [47] _ (by omega) (hglr.kept hkA (fun _ _ => id))).mono ?_
      rintro _ w2 ⟨rfl, hk2⟩
      have hFb2 := hFb.kept hk2 id
      have hk2' := hkA.trans hk2
      have hI2 := hI.keep hk2'
      have hgl2 := hglr.kept hk2' (fun _ _ => id)
      have hK2 := hKr.kept hk2' id
      clear hFb hkA hk2 hglr hKr hFr p0 p1 p2
      have hcl2 := cut_len f.path
      have hl2 : (Lib.cut f.path [47]).1.length ≤ 200 := by omega
      obtain ⟨Fb, hFB⟩ : ∃ x, wr.heap.size = x := ⟨_, rfl⟩
      have HFB : Hid (wr.heap.size = Fb) := hFB
      rw [hFB] at hFb2 ⊢
      clear hFB
      have d1 : w2.cell? ⟨Fb, 1, none⟩ = some (.string ⟨f.mode.toArray⟩) := hFb2.cell 1
      have d2 : w2.cell? ⟨Fb, 2, none⟩ = some (.string ⟨(Sh.hex f.sum).toArray⟩) := hFb2.cell 2
      cases hct : (Lib.cut f.path [47]).2.2
      · have hEE := HNF'.out hct
        have HEE : Hid (Pf.tree KK l = (c ++ (Pf.entry f.mode (Lib.cut f.path [47]).1 f.sum ++ (Pf.tree KK r).1), ws.app (Pf.tree KK r).2)) := by show _ = _; rw [HE.out, hEE]
        clear hEE HNF' HND hct HE
        generalize (Lib.cut f.path [47]).1 = nm at *
        generalize (Lib.cut f.path [47]).2.1 = nm2 at *
        go_wp2_with fail
        refine (writeEntry_any (T + 1) c f.mode nm f.sum g _ hI2.bd hff.1 (by omega) (by omega) (by omega)).mono ?_
        rintro _ w3 ⟨rfl, g3, hb3, hg3, hk3⟩
        have hI3 := hI2.write hb3 hg3 hk3
        have hd := HD.out 1 (by simp)
        have hd' : Fs w (.slice (if cap = 1 then some ⟨g0, o, none⟩ else some ⟨g0, o + 3, none⟩) r.length (cap - 1)) r := hd
        have HDD : Hid (Fs w (.slice (if cap = 1 then some ⟨g0, o, none⟩ else some ⟨g0, o + 3, none⟩) r.length (cap - 1)) r) := hd'
        have hwr : Pf.weight r ≤ Pf.weight (f :: r) := by simp [Pf.weight]
        have hcc : (c ++ (f.mode ++ 32 :: (nm ++ [0])) ++ f.sum).length + 300 * r.length ≤ 300 * l.length := by
          simp only [List.length_append, List.length_cons, List.length_nil] at hcl ⊢; omega
        have HCC : Hid ((c ++ (f.mode ++ 32 :: (nm ++ [0])) ++ f.sum).length + 300 * r.length ≤ 300 * l.length) := hcc
        have HX : Hid (Pf.tree KK l = (c ++ (f.mode ++ 32 :: (nm ++ [0])) ++ f.sum ++ (Pf.tree KK r).1, ws.app (Pf.tree KK r).2)) := by
          show _ = _
          rw [HEE.out]; unfold Pf.entry; simp only [List.append_assoc]
        clear hd hd' hcc HEE
        go_wp2
        go_roundw
        case rel => exact ⟨r, _, ws, g3, vW, ps, bs, hI3, HDD.out, fun x hx => hfi x (List.mem_cons_of_mem _ hx), by omega, Nat.le_trans hwr hwl, HCC.out, by omega, HX.out⟩
        case measure => exact Nat.lt_succ_self _
      · have hbc := below_cons f r hct
        have hbw := below_weight ((Lib.cut f.path [47]).1 ++ [47]) (by simp) (f :: r)
        have hbl := below_le ((Lib.cut f.path [47]).1 ++ [47]) (f :: r)
        have hfb : Fine (Pf.below ((Lib.cut f.path [47]).1 ++ [47]) (f :: r)) := hfi.below
        have hdw := drop_weight (f :: r) _ hbc (by simp)
        have hEE := HND _ hct rfl
        have HEE : Hid (Pf.tree KK l = (c ++ (Pf.entry [52, 48, 48, 48, 48] (Lib.cut f.path [47]).1 (Sh.ofK KK (Sh.text 2 (Pf.tree KK (Pf.below ((Lib.cut f.path [47]).1 ++ [47]) (f :: r))).1)) ++ (Pf.tree KK ((f :: r).drop (Pf.below ((Lib.cut f.path [47]).1 ++ [47]) (f :: r)).length)).1), ws.app (.cons (.mk (Pf.tree KK (Pf.below ((Lib.cut f.path [47]).1 ++ [47]) (f :: r))).1 (Pf.tree KK (Pf.below ((Lib.cut f.path [47]).1 ++ [47]) (f :: r))).2) (Pf.tree KK ((f :: r).drop (Pf.below ((Lib.cut f.path [47]).1 ++ [47]) (f :: r)).length)).2))) := by
          show _ = _
          rw [HE.out, hEE]
        have hF2 := hF1.kept hI2.kx (fun _ _ => id)
        have hcat : ∀ a b : List UInt8, (⟨a.toArray⟩ : ByteArray) ++ ⟨b.toArray⟩ = ⟨(a ++ b).toArray⟩ := fun a b => by
          apply ByteArray.ext; simp
        have hbel := fun w hF => below_any (f :: r) ((Lib.cut f.path [47]).1 ++ [47]) (.slice (some ⟨g0, o, none⟩) (f :: r).length cap) w hF (by omega)
        have HBEL : Hid (∀ w, Fs w (.slice (some ⟨g0, o, none⟩) (f :: r).length cap) (f :: r) → Calls Tryz.prog 298 #[.slice (some ⟨g0, o, none⟩) (f :: r).length cap, .string ⟨((Lib.cut f.path [47]).1 ++ [47]).toArray⟩] w fun e w' => (∃ v', e = .returned v' ∧ w'.ownsRow w.heap.size 114 3 v' (Pf.below ((Lib.cut f.path [47]).1 ++ [47]) (f :: r)).length (cellsF (Pf.below ((Lib.cut f.path [47]).1 ++ [47]) (f :: r)))) ∧ Kx (fun _ => False) w w') := hbel
        clear hEE HNF' HND hct HE d1 d2 hbel
        generalize Pf.below ((Lib.cut f.path [47]).1 ++ [47]) (f :: r) = ins at *
        generalize (Lib.cut f.path [47]).1 = nm at *
        generalize (Lib.cut f.path [47]).2.1 = nm2 at *
        go_wp2_with fail
        refine (HBEL.out _ hF2).mono ?_
        rintro _ w3 ⟨⟨vI, rfl, hownI⟩, hk3⟩
        have hI3 := hI2.keep hk3
        have hgl3 := hgl2.kept hk3 (fun _ _ => id)
        have hK3 := hK2.kept hk3 id
        have hFI := Fs.of_own hownI
        obtain ⟨aI, cI, hvI⟩ : ∃ aI cI, vI = .slice aI ins.length cI := by
          obtain ⟨q, c, e, _⟩ := hFI
          exact ⟨q, c, e⟩
        subst hvI
        clear HBEL hcat
        go_wp2_with fail
        refine (IH.out ins _ w3 (by omega) hgl3 hK3 hFI hfb (by omega)).mono ?_
        rintro _ w4 ⟨p, bs', rfl, hTr, hbs', hk4⟩
        have hI4 := hI3.keep hk4
        obtain ⟨vc, pc, hcbp, _⟩ : ∃ v ps, Cb p #[.int .i64 2, .string ⟨(Pf.tree KK ins).1.toArray⟩, .string ⟨(Sh.idK KK 2 (Pf.tree KK ins).1).toArray⟩, v] 391 w4 ∧ True := by
          have h := hTr
          unfold IsTr at h
          obtain ⟨v, ps, h1, _⟩ := h
          exact ⟨v, ps, h1, trivial⟩
        have hid : Sh.idK KK 2 (Pf.tree KK ins).1 = Sh.hex (Sh.ofK KK (Sh.text 2 (Pf.tree KK ins).1)) := rfl
        rw [hid] at hcbp
        clear hid
        have hdl := ofK_len KK (Sh.text 2 (Pf.tree KK ins).1)
        generalize Sh.ofK KK (Sh.text 2 (Pf.tree KK ins).1) = dd at *
        have e2 : w4.cell? ⟨p, 2, none⟩ = some (.string ⟨(Sh.hex dd).toArray⟩) := hcbp.cell 2
        go_wp2_with fail
        refine (writeEntry_any (T + 1) c [52, 48, 48, 48, 48] nm dd g _ hI4.bd hdl (by simp) (by omega) (by omega)).mono ?_
        rintro _ w5 ⟨rfl, g5, hb5, hg5, hk5⟩
        have hI5 := hI4.write hb5 hg5 hk5
        have hw23 : w2.heap.size ≤ w3.heap.size := hk3.size
        have hbd5 : ∀ k ∈ bs', T + 1 < k ∧ k < w5.heap.size ∧ g5 ≠ some k ∧ vW.ownBlock ≠ some k := fun k hk => by
          obtain ⟨a1, a2⟩ := hbs' k hk
          have hB3 := hI3.bd.lt
          refine ⟨by omega, Nat.lt_of_lt_of_le a2 hk5.size, ?_, ?_⟩
          · rcases hg5 with e | ⟨j, e, hj⟩
            · rw [e]; intro e2; have := hI3.bd.rowLt k e2; omega
            · rw [e]; intro e2; have := Option.some.inj e2; omega
          · intro e; have := (OwnB.lt hI3.row k e).2; omega
        have hTr5 := hTr.kept hk5 (fun k hk e => by
          obtain ⟨a1, a2⟩ := hbs' k hk
          have hB3 := hI3.bd.lt
          rcases e with e | e
          · omega
          · have := hI3.bd.rowLt k e.symm; omega)
        have c3 : w5.cell? ⟨T, 3, none⟩ = some vW := hI5.cb.cell 3
        have hT5 := hI5.cb.lt
        have hpm : (ps.map fun p => Value.pointer (some ⟨p, 0, none⟩)).length = ps.length := by simp
        clear e2 hcbp hTr hI hI2 hI3 hI4
        go_wp2_with (at_builtin; refine wpList_append_B _ rfl (.tmp 56) (.tmp 58) 389 rfl 0 324 i0 _ 8 Tryz.underlying389 hi hz0 hz1 hz2 rfl _ (ps.map fun p => Value.pointer (some ⟨p, 0, none⟩)) rfl ?c0 ⟨w5.heap.size, 0, none⟩ 1 1 [.pointer (some ⟨p, 0, none⟩)] rfl rfl (by omega) ?c1 ?c2 ?c3 ?c4 ?c5 ?_)
        case c0 => exact OwnB.alloc hI5.row _
        case c1 => exact cells_new _ [_] _
        case c2 => simp [Value.oneCell']
        case c3 => rw [hpm]; unfold maxLen; omega
        case c4 => rw [hpm]; omega
        case c5 => omega
        intro v6 w6 hown6 hgr6 hor6
        have hI5a := hI5.keep ((Kx.refl (fun _ => False) w5).alloc (.cells #[.pointer (some ⟨p, 0, none⟩)] 324))
        have hTr5a := hTr5.kept ((Kx.refl (fun _ => False) w5).alloc (.cells #[.pointer (some ⟨p, 0, none⟩)] 324)) (fun _ _ => id)
        have hI6 := hI5a.add hTr5a (fun k hk => by obtain ⟨a1, a2, a3, a4⟩ := hbd5 k hk; exact ⟨a1, by simp; omega, a3, a4⟩) (by simpa using hown6) hgr6 (by rw [World.size_alloc]; exact hor6)
        have hcbT6 : Cb T #[.int .i64 0, .string ⟨#[]⟩, .string ⟨#[]⟩, vW] 391 w6 := by
          show w6.heap[T]? = _
          rw [hgr6.block T (by simp; omega) (fun e => by have := hI5.dv T e.symm; omega)]
          exact hI5a.cb
        have c36 : w6.cell? ⟨T, 3, none⟩ = some vW := hcbT6.cell 3
        have f36 : w6.frozen? ⟨T, 3, none⟩ = false := hcbT6.frozen 3
        obtain ⟨a6, c6, hv6⟩ : ∃ a6 c6, v6 = .slice a6 (ps.length + 1) c6 := by
          obtain ⟨a6, c6, e⟩ := hown6.slice
          exact ⟨a6, c6, by rw [e]; simp⟩
        have hdr := HD.out ins.length hbl
        rw [hlen, Nat.mul_comm 3 ins.length] at hdr
        have HDR : Hid (Fs w (.slice (if cap = ins.length then some ⟨g0, o, none⟩ else some ⟨g0, o + ins.length * 3, none⟩) (r.length + 1 - ins.length) (cap - ins.length)) ((f :: r).drop ins.length)) := hdr
        have hdl2 : ((f :: r).drop ins.length).length = (f :: r).length - ins.length := List.length_drop
        have HCC : Hid ((c ++ ([52, 48, 48, 48, 48] ++ 32 :: (nm ++ [0])) ++ dd).length + 300 * ((f :: r).drop ins.length).length ≤ 300 * l.length) := by
          show _ ≤ _
          simp only [List.length_append, List.length_cons, List.length_nil, hdl2, hdl] at hcl ⊢; omega
        have HX : Hid (Pf.tree KK l = (c ++ ([52, 48, 48, 48, 48] ++ 32 :: (nm ++ [0])) ++ dd ++ (Pf.tree KK ((f :: r).drop ins.length)).1, (ws.app (.cons (.mk (Pf.tree KK ins).1 (Pf.tree KK ins).2) .nil)).app (Pf.tree KK ((f :: r).drop ins.length)).2)) := by
          show _ = _
          rw [HEE.out, Trs.app_assoc]; unfold Pf.entry; simp only [List.append_assoc]; rfl
        have hfd : Fine ((f :: r).drop ins.length) := hfi.drop _
        have HFD : Hid (Fine ((f :: r).drop ins.length)) := hfd
        have hnum : ((f :: r).drop ins.length).length ≤ l.length ∧ (ps ++ [p]).length + ((f :: r).drop ins.length).length ≤ l.length ∧ Pf.weight ((f :: r).drop ins.length) ≤ Pf.weight l := by
          rw [hdl2, List.length_append, List.length_singleton]; omega
        have HNUM : Hid (((f :: r).drop ins.length).length ≤ l.length ∧ (ps ++ [p]).length + ((f :: r).drop ins.length).length ≤ l.length ∧ Pf.weight ((f :: r).drop ins.length) ≤ Pf.weight l) := hnum
        have hme : r.length + 1 - ins.length < (f :: r).length := by omega
        have HME : Hid (r.length + 1 - ins.length < (f :: r).length) := hme
        clear hnum hme hfd hdl2 HEE
        clear hgr6 hor6 hown6 hI5 hI5a hTr5 hTr5a hcbT6 hb5 hdr HD hbd5
        have hb1 : (ins.length : Int) ≤ (((f :: r).length : Nat) : Int) := by omega
        have hb2 : (ins.length : Int) ≤ (cap : Int) := by omega
        have hb3 : (((f :: r).length : Nat) : Int) ≤ (cap : Int) := by omega
        subst hv6
        go_wp2
        go_roundw
        case rel => exact ⟨(f :: r).drop ins.length, _, _, g5, _, ps ++ [p], _, hI6, HDR.out, HFD.out, HNUM.out.1, HNUM.out.2.2, HCC.out, HNUM.out.2.1, HX.out⟩
        case measure => exact HME.out

theorem tree_any (KK : List Int) (hKK : KK.length = 72) (mb : Nat) (mt : TypeId) : ∀ (n : Nat) (l : List Fi) (v : Value) (w : World), Pf.weight l < n → Gl w → Cb mb (A32 KK) mt w → Fs w v l → Fine l → l.length ≤ 60 →
    Calls Tryz.prog 229 #[.pointer (some ⟨mb, 0, none⟩), v] w (TreeGives KK l w)
  | 0, _, _, _, h, _, _, _, _, _ => absurd h (Nat.not_lt_zero _)
  | n + 1, l, v, w, h, hgl, hK, hF, hfi, hl => tree_step KK hKK l v mb mt w hgl hK hF hfi hl (fun l' v' w' h' hgl' hK' hF' hfi' hl' => tree_any KK hKK mb mt n l' v' w' (by omega) hgl' hK' hF' hfi' hl')

end Go.Proofs.YtepgoppgblfjbaaGreatDoor
