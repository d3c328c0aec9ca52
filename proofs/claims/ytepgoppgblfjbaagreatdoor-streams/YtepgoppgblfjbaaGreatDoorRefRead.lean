/- The document's reader: line, next, after, must. -/
import Derived.Test.YtepgoppgblfjbaaGreatDoorRefAuthor
namespace Go.Proofs.YtepgoppgblfjbaaGreatDoor
open Go.RowKit
namespace Rf

/-- The document's reader at block b: the text, how far it was read, is it wrong? -/
structure Rr (b : Nat) (s : List UInt8) (at_ : Nat) (bad : Bool) (w : World) : Prop where
  c0 : w.cell? ⟨b, 0, none⟩ = some (.string ⟨s.toArray⟩)
  c1 : w.cell? ⟨b, 1, none⟩ = some (.int .i64 at_)
  c2 : w.cell? ⟨b, 2, none⟩ = some (.bool bad)
  f0 : w.frozen? ⟨b, 0, none⟩ = false
  f1 : w.frozen? ⟨b, 1, none⟩ = false
  f2 : w.frozen? ⟨b, 2, none⟩ = false
  le : at_ ≤ s.length
  short : s.length ≤ 8000

theorem Rr.lt {b : Nat} {s : List UInt8} {at_ : Nat} {bad : Bool} {w : World} (h : Rr b s at_ bad w) : b < w.heap.size := lt_of_cell h.c0

theorem Rr.kept {b : Nat} {s : List UInt8} {at_ : Nat} {bad : Bool} {X : Nat → Prop} {w w' : World} (h : Rr b s at_ bad w) (k : Kx X w w') (hb : ¬ X b) : Rr b s at_ bad w' := by
  have hl := h.lt
  refine ⟨?_, ?_, ?_, ?_, ?_, ?_, h.le, h.short⟩
  · rw [k.cell (p := ⟨b, 0, none⟩) hl hb]; exact h.c0
  · rw [k.cell (p := ⟨b, 1, none⟩) hl hb]; exact h.c1
  · rw [k.cell (p := ⟨b, 2, none⟩) hl hb]; exact h.c2
  · rw [k.frozen (p := ⟨b, 0, none⟩) hl hb]; exact h.f0
  · rw [k.frozen (p := ⟨b, 1, none⟩) hl hb]; exact h.f1
  · rw [k.frozen (p := ⟨b, 2, none⟩) hl hb]; exact h.f2

theorem Rr.alloc {b : Nat} {s : List UInt8} {at_ : Nat} {bad : Bool} {w : World} (h : Rr b s at_ bad w) (o : Obj) : Rr b s at_ bad (w.alloc o) :=
  h.kept (X := fun _ => False) ((Kx.refl _ _).alloc o) id
theorem Rr.drewN {b : Nat} {s : List UInt8} {at_ : Nat} {bad : Bool} {w : World} (h : Rr b s at_ bad w) (n : Nat) : Rr b s at_ bad (w.drewN n) :=
  h.kept (X := fun _ => False) ((Kx.refl _ _).drewN n) id
theorem Rr.setAt {b : Nat} {s : List UInt8} {at_ : Nat} {bad : Bool} {w : World} (h : Rr b s at_ bad w) (k : Nat) (hk : k ≤ s.length) : Rr b s k bad (w.setCell ⟨b, 1, none⟩ (.int .i64 k)) := by
  obtain ⟨c0, c1, c2, f0, f1, f2, le, short⟩ := h
  refine ⟨?_, World.cell?_setCell_same _ _ _ c1, ?_, by simpa using f0, by simpa using f1, by simpa using f2, hk, short⟩
  · rw [World.cell?_setCell_other _ _ _ _ (by simp)]; exact c0
  · rw [World.cell?_setCell_other _ _ _ _ (by simp)]; exact c2
theorem Rr.setBad {b : Nat} {s : List UInt8} {at_ : Nat} {bad : Bool} {w : World} (h : Rr b s at_ bad w) (x : Bool) : Rr b s at_ x (w.setCell ⟨b, 2, none⟩ (.bool x)) := by
  obtain ⟨c0, c1, c2, f0, f1, f2, le, short⟩ := h
  refine ⟨?_, ?_, World.cell?_setCell_same _ _ _ c2, by simpa using f0, by simpa using f1, by simpa using f2, le, short⟩
  · rw [World.cell?_setCell_other _ _ _ _ (by simp)]; exact c0
  · rw [World.cell?_setCell_other _ _ _ _ (by simp)]; exact c1
theorem Rr.setNew {b n o : Nat} {s : List UInt8} {at_ : Nat} {bad : Bool} {w : World} (h : Rr b s at_ bad w) (hn : n ≠ b) (u : Value) : Rr b s at_ bad (w.setCell ⟨n, o, none⟩ u) :=
  h.kept (X := Only n) ((Kx.refl (Only n) w).setCell (p := ⟨n, o, none⟩) (fun _ => by simp [Only]) u) (fun e => hn e.symm)

/-- What is left to be read, where nothing was wrong. -/
def Rs (b : Nat) (s rest : List UInt8) (bad : Bool) (w : World) : Prop := ∃ at_, Rr b s at_ bad w ∧ (bad = false → s.drop at_ = rest)

theorem Rs.lt {b : Nat} {s rest : List UInt8} {bad : Bool} {w : World} (h : Rs b s rest bad w) : b < w.heap.size := by
  obtain ⟨a, h, _⟩ := h; exact h.lt
theorem Rs.kept {b : Nat} {s rest : List UInt8} {bad : Bool} {X : Nat → Prop} {w w' : World} (h : Rs b s rest bad w) (k : Kx X w w') (hb : ¬ X b) : Rs b s rest bad w' := by
  obtain ⟨a, h, e⟩ := h; exact ⟨a, h.kept k hb, e⟩
theorem Rs.alloc {b : Nat} {s rest : List UInt8} {bad : Bool} {w : World} (h : Rs b s rest bad w) (o : Obj) : Rs b s rest bad (w.alloc o) := by
  obtain ⟨a, h, e⟩ := h; exact ⟨a, h.alloc o, e⟩
theorem Rs.drewN {b : Nat} {s rest : List UInt8} {bad : Bool} {w : World} (h : Rs b s rest bad w) (n : Nat) : Rs b s rest bad (w.drewN n) := by
  obtain ⟨a, h, e⟩ := h; exact ⟨a, h.drewN n, e⟩
theorem Rs.setNew {b n o : Nat} {s rest : List UInt8} {bad : Bool} {w : World} (h : Rs b s rest bad w) (hn : n ≠ b) (u : Value) : Rs b s rest bad (w.setCell ⟨n, o, none⟩ u) := by
  obtain ⟨a, h, e⟩ := h; exact ⟨a, h.setNew hn u, e⟩
theorem Rs.bad {b : Nat} {s rest : List UInt8} {w : World} (h : Rs b s rest true w) (rest' : List UInt8) : Rs b s rest' true w := by
  obtain ⟨a, h, _⟩ := h; exact ⟨a, h, fun e => by cases e⟩
theorem Rs.short {b : Nat} {s rest : List UInt8} {w : World} (h : Rs b s rest false w) : rest.length ≤ 8000 := by
  obtain ⟨a, h, e⟩ := h
  rw [← e rfl]
  have := h.short
  simp; omega

theorem line_at (s : List UInt8) (a k : Nat) (ha : a ≤ k) (hk : k < s.length) (hc : s[k] = 10) (hno : ¬ 10 ∈ (s.drop a).take (k - a)) : Pu.line (s.drop a) false = ((s.drop a).take (k - a), s.drop (k + 1), false) := by
  have hk2 : k - a < (s.drop a).length := by simp; omega
  have h1 : (s.drop a)[k - a] = 10 := by
    rw [List.getElem_drop]
    have : a + (k - a) = k := by omega
    simp only [this]; exact hc
  have c := cut_here (s.drop a) 10 (k - a) hk2 h1 hno
  have e3 : (s.drop a).drop (k - a + 1) = s.drop (k + 1) := by rw [List.drop_drop]; congr 1; omega
  unfold Pu.line
  rw [c, e3]
  rfl

theorem line_none (r : List UInt8) (bad : Bool) (hno : ¬ 10 ∈ r) : Pu.line r bad = ([], [], true) := by
  have c := cut_nowhere r 10 hno
  unfold Pu.line; rw [c]; rfl

set_option maxHeartbeats 2000000 in
set_option maxRecDepth 100000 in
theorem line_any (b : Nat) (s rest : List UInt8) (bad : Bool) (w : World) (h : Rs b s rest bad w) :
    Calls Tryz.prog 194 #[.pointer (some ⟨b, 0, none⟩)] w fun e w' => (∃ v, e = .returned (.string ⟨v.toArray⟩) ∧ v.length ≤ 8000 ∧ ((Pu.line rest bad).2.2 = false → v = (Pu.line rest bad).1)) ∧ Rs b s (Pu.line rest bad).2.1 (Pu.line rest bad).2.2 w' ∧ Kx (Only b) w w' := by
  obtain ⟨a, h, he⟩ := h
  have h' := h
  obtain ⟨c0, c1, c2, f0, f1, f2, le, short⟩ := h
  have HE : Hid (bad = false → s.drop a = rest) := he
  clear he
  have hext := ext_mid s
  go_enter Tryz.func194, Tryz.ntmps194
  go_wp2
  go_loop [3] (fun iv => ∃ k : Nat, a ≤ k ∧ k ≤ s.length ∧ iv = .int .i64 k ∧ ¬ 10 ∈ (s.drop a).take (k - a)) (fun iv => s.length - (intOf iv).toNat)
  case atStart => exact ⟨a, by omega, by omega, rfl, by simp⟩
  case round =>
    obtain ⟨k, hak, hk, rfl, hno⟩ := hrel
    have HNO : Hid (¬ 10 ∈ (s.drop a).take (k - a)) := hno
    clear hno
    by_cases hlt : k < s.length
    · by_cases hc : s[k] = 10
      · have b1 : (((⟨s.toArray⟩ : ByteArray)[k].toNat : Int) != 10) = false := by
          show ((s[k].toNat : Int) != 10) = false; rw [hc]; rfl
        have b2 : ((k : Int) == (s.length : Int)) = false := beq_eq_false_iff_ne.2 (by omega)
        cases bad
        · have HL : Hid (Pu.line rest false = ((s.drop a).take (k - a), s.drop (k + 1), false)) := by
            show _ = _
            rw [← HE.out rfl]; exact line_at s a k hak hlt hc HNO.out
          clear hc
          have hak2 : (a : Int) ≤ (k : Int) := by omega
          go_wp2
          go_quiet (fail)
          go_wp2
          go_ret
          refine ⟨⟨(s.drop a).take (k - a), rfl, by simp; omega, fun _ => by rw [HL.out]⟩, ?_, ?_⟩
          · rw [HL.out]
            exact ⟨k + 1, (h'.drewN _).setAt (k + 1) (by omega), fun _ => rfl⟩
          · exact ((Kx.refl _ w).drewN _).setCell (p := ⟨b, 1, none⟩) (fun _ => by simp [Only]) _
        · have HL : Hid ((Pu.line rest true).2.2 = true) := Pu.line_bad rest
          clear hc
          go_wp2
          go_ret
          refine ⟨⟨[], rfl, by simp, fun e => by rw [HL.out] at e; cases e⟩, ?_, ?_⟩
          · rw [HL.out]
            exact ⟨a, h'.setBad true, fun e => by cases e⟩
          · exact (Kx.refl _ w).setCell (p := ⟨b, 2, none⟩) (fun _ => by simp [Only]) _
      · have b1 : (((⟨s.toArray⟩ : ByteArray)[k].toNat : Int) != 10) = true := by
          have h2 : ((s[k].toNat : Int) == ((10 : UInt8).toNat : Int)) = false := by rw [u8_int_eq]; simpa using hc
          show (!((s[k].toNat : Int) == ((10 : UInt8).toNat : Int))) = true; rw [h2]; rfl
        have HN2 : Hid (¬ 10 ∈ (s.drop a).take (k + 1 - a)) := miss_step s 10 a k hak hlt hc HNO.out
        clear hc
        go_wp2
        go_round
        case rel => exact ⟨k + 1, by omega, by omega, by go_num, HN2.out⟩
        case measure => simp [intOf]; omega
    · have hkl : k = s.length := by omega
      subst hkl
      have b2 : ((s.length : Int) == (s.length : Int)) = true := by simp
      have HL : Hid ((Pu.line rest bad).2.2 = true) := by
        cases bad
        · have hr : ¬ 10 ∈ rest := by
            rw [← HE.out rfl]
            have h3 := HNO.out
            rw [List.take_of_length_le (by simp)] at h3
            exact h3
          show _ = _
          rw [line_none rest false hr]
        · exact Pu.line_bad rest
      cases bad
      all_goals
        go_wp2
        go_ret
        refine ⟨⟨[], rfl, by simp, fun e => by rw [HL.out] at e; cases e⟩, ?_, ?_⟩
        · rw [HL.out]
          exact ⟨a, h'.setBad true, fun e => by cases e⟩
        · exact (Kx.refl _ w).setCell (p := ⟨b, 2, none⟩) (fun _ => by simp [Only]) _

set_option maxHeartbeats 1000000 in
theorem next_any (b : Nat) (s rest : List UInt8) (bad : Bool) (t : List UInt8) (w : World) (h : Rs b s rest bad w) :
    Calls Tryz.prog 147 #[.pointer (some ⟨b, 0, none⟩), .string ⟨t.toArray⟩] w fun e w' => e = .returned (.bool (!bad && Lib.hasPrefix rest t)) ∧ ∃ q, w' = w.drewN q := by
  obtain ⟨a, h, he⟩ := h
  obtain ⟨c0, c1, c2, f0, f1, f2, le, short⟩ := h
  have hext := ext_mid s
  have hle : (a : Int) ≤ (s.length : Int) := by omega
  cases bad
  · have HR : Hid ((s.drop a).take (s.length - a) = rest) := by show _ = _; rw [← he rfl]; exact List.take_of_length_le (by simp)
    clear he
    go_enter Tryz.func147, Tryz.ntmps147
    go_wp2
    go_quiet ((go_at_call 193; exact Calls.quiet_of_same (begins_any _ _ _)))
    go_wp2
    go_ret
    exact ⟨ret_bool (by rw [← HR.out]; rfl), _, rfl⟩
  · clear he
    go_enter Tryz.func147, Tryz.ntmps147
    go_wp2
    go_quiet (fail)
    go_wp2
    go_ret
    exact ⟨rfl, _, rfl⟩

set_option maxHeartbeats 400000 in
theorem must_any (b : Nat) (s rest : List UInt8) (bad ok : Bool) (w : World) (h : Rs b s rest bad w) :
    Calls Tryz.prog 201 #[.pointer (some ⟨b, 0, none⟩), .bool ok] w fun e w' => e = .returned (.tuple #[]) ∧ Rs b s (Pu.need ok rest bad).1 (Pu.need ok rest bad).2 w' ∧ Kx (Only b) w w' := by
  obtain ⟨a, h, he⟩ := h
  have h' := h
  obtain ⟨c0, c1, c2, f0, f1, f2, le, short⟩ := h
  have HE : Hid (bad = false → s.drop a = rest) := he
  clear he
  cases bad <;> cases ok
  all_goals
    go_enter Tryz.func201, Tryz.ntmps201
    go_wp2
    go_end0
  · exact ⟨rfl, ⟨a, h'.setBad true, fun e => by cases e⟩, (Kx.refl _ w).setCell (p := ⟨b, 2, none⟩) (fun _ => by simp [Only]) _⟩
  · exact ⟨rfl, ⟨a, h'.setBad false, fun _ => by first | exact HE.out rfl | exact HE.out trivial⟩, (Kx.refl _ w).setCell (p := ⟨b, 2, none⟩) (fun _ => by simp [Only]) _⟩
  · exact ⟨rfl, ⟨a, h'.setBad true, fun e => by cases e⟩, (Kx.refl _ w).setCell (p := ⟨b, 2, none⟩) (fun _ => by simp [Only]) _⟩
  · exact ⟨rfl, ⟨a, h'.setBad true, fun e => by cases e⟩, (Kx.refl _ w).setCell (p := ⟨b, 2, none⟩) (fun _ => by simp [Only]) _⟩

set_option maxHeartbeats 1000000 in
theorem after_any (b : Nat) (s rest : List UInt8) (bad : Bool) (t : List UInt8) (w : World) (h : Rs b s rest bad w) :
    Calls Tryz.prog 200 #[.pointer (some ⟨b, 0, none⟩), .string ⟨t.toArray⟩] w fun e w' => (∃ v, e = .returned (.string ⟨v.toArray⟩) ∧ v.length ≤ 8000 ∧ ((Pu.after t rest bad).2.2 = false → v = (Pu.after t rest bad).1)) ∧ Rs b s (Pu.after t rest bad).2.1 (Pu.after t rest bad).2.2 w' ∧ Kx (Only b) w w' := by
  have HA : Hid (Pu.after t rest bad = (Lib.trimPrefix (Pu.line rest bad).1 t, Pu.need (Lib.hasPrefix (Pu.line rest bad).1 t) (Pu.line rest bad).2.1 (Pu.line rest bad).2.2)) := rfl
  go_enter Tryz.func200, Tryz.ntmps200
  go_wp2_with fail
  refine (line_any b s rest bad _ h).mono ?_
  rintro e w1 ⟨⟨v, rfl, hv, hvl⟩, hr, hk⟩
  have HV : Hid ((Pu.line rest bad).2.2 = false → v = (Pu.line rest bad).1) := hvl
  clear hvl
  generalize Pu.line rest bad = x at *
  obtain ⟨x0, x1, x2⟩ := x
  obtain ⟨a, hrr, he⟩ := id hr
  obtain ⟨c0, c1, c2, f0, f1, f2, le, short⟩ := id hrr
  have HE : Hid (x2 = false → s.drop a = x1) := he
  clear he
  have hext := ext_mid v
  go_wp2_with fail
  refine (begins_any v t _).mono ?_
  rintro e w2 ⟨rfl, rfl⟩
  cases hp : Lib.hasPrefix v t
  · have HB : Hid ((Pu.after t rest bad).2.2 = true) := by
      show _ = _
      rw [HA.out]
      cases x2
      · have e1 := HV.out rfl
        simp only
        rw [← e1, hp]; rfl
      · exact Pu.need_bad _ _
    clear hp
    go_wp2
    go_ret
    refine ⟨⟨[], rfl, by simp, fun e => by rw [HB.out] at e; cases e⟩, ?_, hk.setCell (p := ⟨b, 2, none⟩) (fun _ => by simp [Only]) _⟩
    rw [HB.out]
    exact ⟨a, hrr.setBad true, fun e => by cases e⟩
  · have hpl : t.length ≤ v.length := by
      have h1 := Lib.hasPrefix_of_take v t
      rw [hp] at h1
      simp at h1; exact h1.1
    have hpl2 : (t.length : Int) ≤ (v.length : Int) := by omega
    have HT : Hid (Lib.trimPrefix v t = v.drop t.length) := by show _ = _; unfold Lib.trimPrefix; rw [if_pos hp]
    have HP : Hid (Lib.hasPrefix v t = true) := hp
    clear hp
    go_wp2
    go_ret
    have e9 : (v.drop t.length).take (v.length - t.length) = v.drop t.length := List.take_of_length_le (by simp)
    refine ⟨⟨(v.drop t.length).take (v.length - t.length), rfl, by simp; omega, ?_⟩, ?_, hk⟩
    · intro hg
      cases x2
      · have e1 := HV.out rfl
        rw [HA.out]
        simp only
        rw [e9, ← HT.out, e1]
      · rw [HA.out] at hg
        have := Pu.need_bad (Lib.hasPrefix x0 t) x1
        simp only at hg
        rw [this] at hg; cases hg
    · rw [HA.out]
      cases x2
      · have e1 := HV.out rfl
        simp only
        rw [← e1, HP.out]
        exact hr
      · simp only
        rw [Pu.need_bad]
        exact hr.bad _

end Rf
end Go.Proofs.YtepgoppgblfjbaaGreatDoor
