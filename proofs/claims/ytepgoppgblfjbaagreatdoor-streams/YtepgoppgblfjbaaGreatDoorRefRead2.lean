/- The document's reader: mark, data, ref, which, author. -/
import Derived.Test.YtepgoppgblfjbaaGreatDoorRefRead
namespace Go.Proofs.YtepgoppgblfjbaaGreatDoor
open Go.RowKit
namespace Rf

def sMarkC : List UInt8 := [109, 97, 114, 107, 32, 58]

theorem prefix_snoc (x p : List UInt8) (c : UInt8) : Lib.hasPrefix x (p ++ [c]) = (Lib.hasPrefix x p && Lib.hasPrefix (x.drop p.length) [c]) := by
  unfold Lib.hasPrefix
  induction p generalizing x with
  | nil => simp
  | cons a p ih =>
    cases x with
    | nil => simp [List.isPrefixOf]
    | cons b x =>
      simp only [List.cons_append, List.isPrefixOf, List.length_cons, List.drop_succ_cons]
      rw [ih, Bool.and_assoc]

theorem number_one (s : List UInt8) : (Pu.number s 1 999).2 = decide (0 < Pu.n10 s 999) := by
  rw [Pu.number_n10 s 1 999 (by omega)]
  by_cases h : 0 < Pu.n10 s 999
  · rw [if_neg (by omega), decide_eq_true h]
  · rw [if_pos (by omega), decide_eq_false h]

theorem need_true_bad (ok : Bool) : Pu.need ok [] true = ([], true) := by cases ok <;> rfl

theorem rmark_eq (rest : List UInt8) (bad : Bool) :
    (Pu.rmark rest bad).2 = Pu.need (decide (0 < Pu.n10 (Pu.after sMarkC rest bad).1 999)) (Pu.after sMarkC rest bad).2.1 (Pu.after sMarkC rest bad).2.2 ∨ ((Pu.rmark rest bad).2.2 = true ∧ (Pu.after sMarkC rest bad).2.2 = true) := by
  unfold Pu.rmark Pu.after
  simp only
  generalize Pu.line rest bad = x
  obtain ⟨x0, x1, x2⟩ := x
  simp only
  have hp := prefix_snoc x0 Pu.sMark 58
  have e0 : Pu.sMark ++ [58] = sMarkC := rfl
  rw [e0] at hp
  cases h1 : Lib.hasPrefix x0 Pu.sMark with
  | false =>
    right
    rw [h1, Bool.false_and] at hp
    rw [hp]
    refine ⟨?_, rfl⟩
    exact Pu.need_bad _ _
  | true =>
    rw [h1, Bool.true_and] at hp
    have t1 : Lib.trimPrefix x0 Pu.sMark = x0.drop Pu.sMark.length := by unfold Lib.trimPrefix; rw [if_pos h1]
    rw [t1]
    cases h2 : Lib.hasPrefix (x0.drop Pu.sMark.length) [58] with
    | false =>
      right
      rw [h2] at hp
      rw [hp]
      refine ⟨?_, rfl⟩
      unfold Pu.mark
      rw [h2]
      rfl
    | true =>
      left
      rw [h2] at hp
      rw [hp]
      have t2 : Lib.trimPrefix x0 sMarkC = (x0.drop Pu.sMark.length).drop 1 := by
        unfold Lib.trimPrefix; rw [if_pos hp, List.drop_drop]; rfl
      rw [t2]
      unfold Pu.mark
      rw [h2]
      simp only [if_true]
      have t3 : Lib.trimPrefix (x0.drop Pu.sMark.length) [58] = (x0.drop Pu.sMark.length).drop 1 := by
        unfold Lib.trimPrefix; rw [if_pos h2]; rfl
      rw [t3, number_one]

def whichB (v : List UInt8) : Bool := if Lib.hasPrefix v [58] then decide (0 < Pu.n10 (v.drop 1) 999) else Pu.isRef v

theorem colon_ref (v : List UInt8) (h : Lib.hasPrefix v [58] = true) : Pu.isRef v = false := by
  cases v with
  | nil => rfl
  | cons a l =>
    have ha : (58 : UInt8) = a := by
      unfold Lib.hasPrefix at h; simpa [List.isPrefixOf] using h
    unfold Pu.isRef
    have : Pu.madeOf (a :: l) Pu.refSet 20 = false := by
      cases hm : Pu.madeOf (a :: l) Pu.refSet 20 with
      | false => rfl
      | true =>
        have := Pu.madeOf_not (x := 58) hm (by kernel_rfl)
        rw [ha] at this
        exact absurd (List.mem_cons_self ..) this
    rw [this]; rfl

theorem which_eq (hd rest : List UInt8) (bad : Bool) : Pu.which hd rest bad = Pu.need (whichB (Pu.after hd rest bad).1) (Pu.after hd rest bad).2.1 (Pu.after hd rest bad).2.2 := by
  unfold Pu.which whichB
  generalize Pu.after hd rest bad = x
  obtain ⟨v, r, bb⟩ := x
  simp only
  cases h : Lib.hasPrefix v [58] with
  | false =>
    have hm : (Pu.mark v).2 = false := by unfold Pu.mark; rw [h]; rfl
    rw [hm]; simp
  | true =>
    have hm : (Pu.mark v).2 = decide (0 < Pu.n10 (v.drop 1) 999) := by
      unfold Pu.mark; rw [h]
      simp only [if_true]
      have t3 : Lib.trimPrefix v [58] = v.drop 1 := by unfold Lib.trimPrefix; rw [if_pos h]; rfl
      rw [t3, number_one]
    rw [hm, colon_ref v h]
    cases decide (0 < Pu.n10 (v.drop 1) 999) <;> simp [Pu.need]

set_option maxHeartbeats 400000 in
theorem mark_any (b : Nat) (s rest : List UInt8) (bad : Bool) (w : World) (h : Rs b s rest bad w) :
    Calls Tryz.prog 195 #[.pointer (some ⟨b, 0, none⟩)] w fun e w' => (∃ n, e = .returned (.int .i64 n)) ∧ Rs b s (Pu.rmark rest bad).2.1 (Pu.rmark rest bad).2.2 w' ∧ Kx (Only b) w w' := by
  have HQ : Hid ((Pu.rmark rest bad).2 = Pu.need (decide (0 < Pu.n10 (Pu.after sMarkC rest bad).1 999)) (Pu.after sMarkC rest bad).2.1 (Pu.after sMarkC rest bad).2.2 ∨ ((Pu.rmark rest bad).2.2 = true ∧ (Pu.after sMarkC rest bad).2.2 = true)) := rmark_eq rest bad
  go_enter Tryz.func195, Tryz.ntmps195
  go_wp2_with fail
  refine (after_any b s rest bad sMarkC _ h).mono ?_
  rintro e w1 ⟨⟨v, rfl, hv, hvl⟩, hr, hk⟩
  have HV : Hid ((Pu.after sMarkC rest bad).2.2 = false → v = (Pu.after sMarkC rest bad).1) := hvl
  clear hvl
  generalize Pu.after sMarkC rest bad = x at *
  obtain ⟨x0, x1, x2⟩ := x
  go_wp2_with fail
  refine (number10_any v 999 _ hv).mono ?_
  rintro e w2 ⟨rfl, rfl⟩
  go_wp2_with fail
  refine (must_any b s x1 x2 _ _ hr).mono ?_
  rintro e w3 ⟨rfl, hr3, hk3⟩
  go_wp2
  go_ret
  refine ⟨⟨_, rfl⟩, ?_, hk.trans hk3⟩
  cases x2
  · have e1 : v = x0 := HV.out rfl
    subst e1
    rcases HQ.out with hq | ⟨_, hq⟩
    · rw [hq]; exact hr3
    · cases hq
  · rcases HQ.out with hq | ⟨hq, _⟩
    · rw [hq, Pu.need_bad]
      rw [Pu.need_bad] at hr3
      exact hr3.bad _
    · rw [hq]
      rw [Pu.need_bad] at hr3
      exact hr3.bad _

set_option maxHeartbeats 400000 in
theorem ref_any (b : Nat) (s rest : List UInt8) (bad : Bool) (v : List UInt8) (w : World) (h : Rs b s rest bad w) (hv : v.length ≤ 8000) :
    Calls Tryz.prog 197 #[.pointer (some ⟨b, 0, none⟩), .string ⟨v.toArray⟩] w fun e w' => (∃ x, e = .returned (.string x)) ∧ Rs b s (Pu.need (Pu.isRef v) rest bad).1 (Pu.need (Pu.isRef v) rest bad).2 w' ∧ Kx (Only b) w w' := by
  go_enter Tryz.func197, Tryz.ntmps197
  go_wp2_with fail
  refine (isRef_any v _ hv).mono ?_
  rintro e w2 ⟨rfl, rfl⟩
  go_wp2_with fail
  refine (must_any b s rest bad _ _ h).mono ?_
  rintro e w3 ⟨rfl, hr3, hk3⟩
  go_wp2
  go_ret
  exact ⟨⟨_, rfl⟩, hr3, hk3⟩

set_option maxHeartbeats 1000000 in
theorem which_any (b : Nat) (s rest : List UInt8) (bad : Bool) (v : List UInt8) (w : World) (h : Rs b s rest bad w) (hv : v.length ≤ 8000) :
    Calls Tryz.prog 199 #[.pointer (some ⟨b, 0, none⟩), .string ⟨v.toArray⟩] w fun e w' => (∃ n x, e = .returned (.agg #[.int .i64 n, .string x])) ∧ Rs b s (Pu.need (whichB v) rest bad).1 (Pu.need (whichB v) rest bad).2 w' ∧ Kx (Only b) w w' := by
  have hb := h.lt
  have hext := ext_mid v
  have fin : ∀ {w3 : World} (hk : Kx (Only b) (w.alloc (.cells #[.int .i64 0, .string ⟨#[]⟩] 302)) w3), Kx (Only b) w w3 := fun hk => ((Kx.refl _ w).alloc _).trans hk
  have hne : w.heap.size ≠ b := by omega
  cases hp : Lib.hasPrefix v [58]
  · have HW : Hid (whichB v = Pu.isRef v) := by show _ = _; unfold whichB; rw [hp]; rfl
    rw [HW.out]
    have hcase : v = [] ∨ (¬ v = [] ∧ ∃ h0 : 0 < v.length, v[0] ≠ 58) := by
      cases v with
      | nil => left; rfl
      | cons a l =>
        right
        refine ⟨by simp, by simp, ?_⟩
        intro e
        simp at e
        subst e
        unfold Lib.hasPrefix at hp; simp [List.isPrefixOf] at hp
    clear hp
    have tail : ∀ (hx : True), True := fun _ => trivial
    clear tail
    rcases hcase with h0 | ⟨h0, hl, h58⟩
    · subst h0
      go_enter Tryz.func199, Tryz.ntmps199
      go_wp2_with fail
      refine (isRef_any [] _ hv).mono ?_
      rintro e w2 ⟨rfl, rfl⟩
      go_wp2_with fail
      refine (must_any b s rest bad _ _ (h.alloc _)).mono ?_
      rintro e w3 ⟨rfl, hr3, hk3⟩
      obtain ⟨n0, g0⟩ := new_cell hk3 hb 0
      obtain ⟨n1, g1⟩ := new_cell hk3 hb 1
      go_wp2
      refine bodyPost_ret (v := .agg #[.int .i64 0, .string ⟨#[]⟩]) (by simp [results, Tryz.results199, go_sem, n0, n1]) rfl ⟨⟨_, _, rfl⟩, ?_, ?_⟩
      · exact (hr3.setNew hne _).setNew hne _
      · exact ((fin hk3).setNew (by simp) _).setNew (by simp) _
    · have b0 : (v == ([] : List UInt8)) = false := by simpa using h0
      have b0' : v.isEmpty = false := by simpa using h0
      have hz : (0 : Int) < (v.length : Int) := by omega
      have b1 : (((⟨v.toArray⟩ : ByteArray)[0].toNat : Int) == 58) = false := by
        have h2 : ((v[0].toNat : Int) == ((58 : UInt8).toNat : Int)) = false := by rw [u8_int_eq]; simpa using h58
        exact h2
      go_enter Tryz.func199, Tryz.ntmps199
      go_wp2_with fail
      refine (isRef_any v _ hv).mono ?_
      rintro e w2 ⟨rfl, rfl⟩
      go_wp2_with fail
      refine (must_any b s rest bad _ _ (h.alloc _)).mono ?_
      rintro e w3 ⟨rfl, hr3, hk3⟩
      obtain ⟨n0, g0⟩ := new_cell hk3 hb 0
      obtain ⟨n1, g1⟩ := new_cell hk3 hb 1
      go_wp2
      refine bodyPost_ret (v := .agg #[.int .i64 0, .string ⟨v.toArray⟩]) (by simp [results, Tryz.results199, go_sem, n0, n1]) rfl ⟨⟨_, _, rfl⟩, ?_, ?_⟩
      · exact (hr3.setNew hne _).setNew hne _
      · exact ((fin hk3).setNew (by simp) _).setNew (by simp) _
  · have HW : Hid (whichB v = decide (0 < Pu.n10 (v.drop 1) 999)) := by show _ = _; unfold whichB; rw [hp]; rfl
    rw [HW.out]
    obtain ⟨l, rfl⟩ : ∃ l, v = 58 :: l := by
      cases v with
      | nil => unfold Lib.hasPrefix at hp; simp [List.isPrefixOf] at hp
      | cons a l =>
        have ha : (58 : UInt8) = a := by unfold Lib.hasPrefix at hp; simpa [List.isPrefixOf] using hp
        subst ha; exact ⟨l, rfl⟩
    have hll : l.length ≤ 8000 := by simp at hv; omega
    clear hp
    go_enter Tryz.func199, Tryz.ntmps199
    go_wp2_with fail
    refine (number10_any l 999 _ hll).mono ?_
    rintro e w2 ⟨rfl, rfl⟩
    have HD : Hid ((58 :: l).drop 1 = l) := rfl
    go_wp2_with fail
    refine (must_any b s rest bad _ _ (h.alloc _)).mono ?_
    rintro e w3 ⟨rfl, hr3, hk3⟩
    obtain ⟨n0, g0⟩ := new_cell hk3 hb 0
    obtain ⟨n1, g1⟩ := new_cell hk3 hb 1
    go_wp2
    refine bodyPost_ret (v := .agg #[.int .i64 (Pu.n10 l 999), .string ⟨#[]⟩]) (by simp [results, Tryz.results199, go_sem, n0, n1]) rfl ⟨⟨_, _, rfl⟩, ?_, ?_⟩
    · rw [HD.out]
      exact (hr3.setNew hne _).setNew hne _
    · exact ((fin hk3).setNew (by simp) _).setNew (by simp) _

set_option maxHeartbeats 1000000 in
theorem author_any (b : Nat) (s rest : List UInt8) (bad : Bool) (w : World) (h : Rs b s rest bad w) :
    Calls Tryz.prog 275 #[.pointer (some ⟨b, 0, none⟩)] w fun e w' => (∃ x, e = .returned (.string x)) ∧ Rs b s (Pu.author rest bad).1 (Pu.author rest bad).2 w' ∧ Kx (Only b) w w' := by
  have HQ : Hid (Pu.author rest bad = Pu.need (Pu.isAuthor (Pu.after Pu.sAuthor rest bad).1) (Pu.after Pu.sAuthor rest bad).2.1 (Pu.after Pu.sAuthor rest bad).2.2) := rfl
  go_enter Tryz.func275, Tryz.ntmps275
  go_wp2_with fail
  refine (after_any b s rest bad Pu.sAuthor _ h).mono ?_
  rintro e w1 ⟨⟨v, rfl, hv, hvl⟩, hr, hk⟩
  have HV : Hid ((Pu.after Pu.sAuthor rest bad).2.2 = false → v = (Pu.after Pu.sAuthor rest bad).1) := hvl
  clear hvl
  generalize Pu.after Pu.sAuthor rest bad = x at *
  obtain ⟨x0, x1, x2⟩ := x
  go_wp2_with fail
  refine (split_any v _ hv).mono ?_
  rintro e w2 ⟨⟨nm, ml, tm, rfl, hok⟩, q, rfl⟩
  obtain ⟨l1, l2, hso⟩ := hok
  have HSO : Hid ((Pu.isName nm && Pu.isMail ml && decide (0 ≤ tm)) = Pu.refAuthor v) := hso
  clear hso
  go_wp2_with fail
  refine (isName_any nm _ l1).mono ?_
  rintro e w2 ⟨rfl, rfl⟩
  go_wp2_with fail
  refine (isMail_any ml _ l2).mono ?_
  rintro e w2 ⟨rfl, rfl⟩
  generalize Pu.isName nm = bn at *
  generalize Pu.isMail ml = bm at *
  have fin : ∀ {w3 : World}, Rs b s (Pu.need (Pu.refAuthor v) x1 x2).1 (Pu.need (Pu.refAuthor v) x1 x2).2 w3 → Rs b s (Pu.author rest bad).1 (Pu.author rest bad).2 w3 := by
    intro w3 hr3
    rw [HQ.out]
    cases x2
    · have e1 : v = x0 := HV.out rfl
      subst e1
      rw [← Pu.author_eq]; exact hr3
    · rw [Pu.need_bad] at hr3 ⊢
      exact hr3.bad _
  cases bn
  · have HF : Hid (Pu.refAuthor v = false) := by show _ = _; rw [← HSO.out]; rfl
    go_wp2_with fail
    refine (must_any b s x1 x2 _ _ (by first | exact hr.drewN _ | exact hr)).mono ?_
    rintro e w3 ⟨rfl, hr3, hk3⟩
    go_wp2
    go_ret
    exact ⟨⟨_, rfl⟩, fin (by rw [HF.out]; exact hr3), (hk.drewN _).trans hk3⟩
  · cases bm
    · have HF : Hid (Pu.refAuthor v = false) := by show _ = _; rw [← HSO.out]; rfl
      go_wp2_with fail
      refine (must_any b s x1 x2 _ _ (by first | exact hr.drewN _ | exact hr)).mono ?_
      rintro e w3 ⟨rfl, hr3, hk3⟩
      go_wp2
      go_ret
      exact ⟨⟨_, rfl⟩, fin (by rw [HF.out]; exact hr3), (hk.drewN _).trans hk3⟩
    · have HF : Hid (decide (0 ≤ tm) = Pu.refAuthor v) := by show _ = _; rw [← HSO.out]; rfl
      go_wp2_with fail
      refine (must_any b s x1 x2 _ _ (by first | exact hr.drewN _ | exact hr)).mono ?_
      rintro e w3 ⟨rfl, hr3, hk3⟩
      go_wp2
      go_ret
      exact ⟨⟨_, rfl⟩, fin (by rw [← HF.out]; exact hr3), (hk.drewN _).trans hk3⟩

theorem data_neg (a1 r : List UInt8) (bb : Bool) (h : Pu.n10 a1 200 < 0) : (Pu.bytes (Pu.number a1 0 200).1 (Pu.need (Pu.number a1 0 200).2 r bb).1 (Pu.need (Pu.number a1 0 200).2 r bb).2).2.2 = true := by
  rw [Pu.number_n10 a1 0 200 (by omega), if_pos (Or.inl h)]
  rfl

theorem data_pos (a1 r : List UInt8) (h : 0 ≤ Pu.n10 a1 200) : Pu.bytes (Pu.number a1 0 200).1 (Pu.need (Pu.number a1 0 200).2 r false).1 (Pu.need (Pu.number a1 0 200).2 r false).2 = Pu.bytes (Pu.n10 a1 200) r false := by
  rw [Pu.number_n10 a1 0 200 (by omega), if_neg (by omega)]
  rfl

theorem n10_le (a1 : List UInt8) : Pu.n10 a1 200 ≤ 200 := by
  unfold Pu.n10
  split
  · omega
  · split <;> omega

set_option maxHeartbeats 2000000 in
set_option maxRecDepth 100000 in
theorem data_any (b : Nat) (s rest : List UInt8) (bad : Bool) (w : World) (h : Rs b s rest bad w) :
    Calls Tryz.prog 196 #[.pointer (some ⟨b, 0, none⟩)] w fun e w' => (∃ x, e = .returned (.string x)) ∧ Rs b s (Pu.data rest bad).2.1 (Pu.data rest bad).2.2 w' ∧ Kx (Only b) w w' := by
  have HQ : Hid (Pu.data rest bad = Pu.bytes (Pu.number (Pu.after Pu.sData rest bad).1 0 200).1
    (Pu.need (Pu.number (Pu.after Pu.sData rest bad).1 0 200).2 (Pu.after Pu.sData rest bad).2.1 (Pu.after Pu.sData rest bad).2.2).1
    (Pu.need (Pu.number (Pu.after Pu.sData rest bad).1 0 200).2 (Pu.after Pu.sData rest bad).2.1 (Pu.after Pu.sData rest bad).2.2).2) := rfl
  go_enter Tryz.func196, Tryz.ntmps196
  go_wp2_with fail
  refine (after_any b s rest bad Pu.sData _ h).mono ?_
  rintro e w1 ⟨⟨v, rfl, hv, hvl⟩, hr, hk⟩
  have HV : Hid ((Pu.after Pu.sData rest bad).2.2 = false → v = (Pu.after Pu.sData rest bad).1) := hvl
  clear hvl
  generalize Pu.after Pu.sData rest bad = x at *
  obtain ⟨x0, x1, x2⟩ := x
  have hn200 := n10_le v
  go_wp2_with fail
  refine (number10_any v 200 _ hv).mono ?_
  rintro e w2 ⟨rfl, rfl⟩
  obtain ⟨a, hrr, he⟩ := id hr
  obtain ⟨c0, c1, c2, f0, f1, f2, le, short⟩ := id hrr
  have HE : Hid (x2 = false → s.drop a = x1) := he
  clear he
  have hext := ext_mid s
  obtain ⟨n, hn⟩ : ∃ n, Pu.n10 v 200 = n := ⟨_, rfl⟩
  have HN : Hid (Pu.n10 v 200 = n) := hn
  rw [hn] at hn200 ⊢
  clear hn
  have badend : ∀ {q : Nat} (hb : (Pu.data rest bad).2.2 = true), Rs b s (Pu.data rest bad).2.1 (Pu.data rest bad).2.2 ((w2.drewN q).setCell ⟨b, 2, none⟩ (.bool true)) := by
    intro q hb
    rw [hb]; exact ⟨a, (hrr.drewN q).setBad true, fun e => by cases e⟩
  have kend : ∀ (q : Nat), Kx (Only b) w ((w2.drewN q).setCell ⟨b, 2, none⟩ (.bool true)) := fun q => (hk.drewN q).setCell (p := ⟨b, 2, none⟩) (fun _ => by simp [Only]) _
  cases x2
  · have e1 : v = x0 := HV.out rfl
    subst e1
    by_cases hneg : n < 0
    · have HB : Hid ((Pu.data rest bad).2.2 = true) := by
        show _ = _
        rw [HQ.out]; exact data_neg v x1 false (by rw [HN.out]; exact hneg)
      have hd : decide (n < 0) = true := by simpa using hneg
      clear HQ
      go_wp2_with fail
      go_quiet (fail)
      go_wp2
      go_ret
      exact ⟨⟨_, rfl⟩, badend HB.out, kend _⟩
    · have hd : decide (n < 0) = false := by simpa using hneg
      obtain ⟨k, rfl⟩ := Int.eq_ofNat_of_zero_le (show 0 ≤ n by omega)
      have HB : Hid (Pu.data rest bad = Pu.bytes (k : Int) x1 false) := by
        show _ = _
        rw [HQ.out, data_pos v x1 (by rw [HN.out]; omega), HN.out]
      clear HQ
      by_cases hl : a + k < s.length
      · have hl2 : decide ((s.length : Int) ≤ (a : Int) + (k : Int)) = false := by simp; omega
        have hidx : x1[k]? = some s[a + k] := by
          rw [← HE.out rfl, List.getElem?_drop, List.getElem?_eq_getElem hl]
        by_cases h10 : s[a + k] = 10
        · have b1 : (((⟨s.toArray⟩ : ByteArray)[a + k].toNat : Int) != 10) = false := by
            show ((s[a + k].toNat : Int) != 10) = false; rw [h10]; rfl
          have HB2 : Hid (Pu.data rest bad = (x1.take k, x1.drop (k + 1), false)) := by
            show _ = _
            rw [HB.out]; unfold Pu.bytes; rw [Int.toNat_natCast, hidx, h10]; simp
          have HE7 : Hid (s.drop (a + k + 1) = x1.drop (k + 1)) := by show _ = _; rw [← HE.out rfl, List.drop_drop]; congr 1
          have hq1 : (0 : Int) ≤ (a : Int) + (k : Int) := by omega
          have hq2 : (a : Int) + (k : Int) < (s.length : Int) := by omega
          have hq3 : (a : Int) ≤ (a : Int) + (k : Int) := by omega
          have hq4 : (a : Int) + (k : Int) ≤ (s.length : Int) := by omega
          clear HB hidx h10
          go_wp2_with fail
          go_quiet (fail)
          go_wp2
          go_quiet (fail)
          go_wp2
          go_ret
          refine ⟨⟨_, rfl⟩, ?_, ?_⟩
          · rw [HB2.out]
            refine ⟨a + k + 1, ?_, fun _ => HE7.out⟩
            have hs3 := fun q => (hrr.drewN q).setAt (a + k + 1) (by omega)
            have ecast : ((a + k + 1 : Nat) : Int) = (a : Int) + (k : Int) + 1 := by omega
            rw [ecast] at hs3
            exact hs3 _
          · exact (hk.drewN _).setCell (p := ⟨b, 1, none⟩) (fun _ => by simp [Only]) _
        · have b1 : (((⟨s.toArray⟩ : ByteArray)[a + k].toNat : Int) != 10) = true := by
            have h2 : ((s[a + k].toNat : Int) == ((10 : UInt8).toNat : Int)) = false := by rw [u8_int_eq]; simpa using h10
            show (!((s[a + k].toNat : Int) == ((10 : UInt8).toNat : Int))) = true; rw [h2]; rfl
          have HB2 : Hid ((Pu.data rest bad).2.2 = true) := by
            show _ = _
            rw [HB.out]; unfold Pu.bytes; rw [Int.toNat_natCast, hidx, if_neg (by simpa using h10)]
          have hq1 : (0 : Int) ≤ (a : Int) + (k : Int) := by omega
          have hq2 : (a : Int) + (k : Int) < (s.length : Int) := by omega
          clear HB hidx h10
          go_wp2_with fail
          go_quiet (fail)
          go_wp2
          go_ret
          exact ⟨⟨_, rfl⟩, badend HB2.out, kend _⟩
      · have hl2 : decide ((s.length : Int) ≤ (a : Int) + (k : Int)) = true := by simp; omega
        have HB2 : Hid ((Pu.data rest bad).2.2 = true) := by
          show _ = _
          rw [HB.out]; unfold Pu.bytes
          rw [Int.toNat_natCast, ← HE.out rfl, List.getElem?_drop, List.getElem?_eq_none (by omega)]; simp
        clear HB
        go_wp2_with fail
        go_quiet (fail)
        go_wp2
        go_ret
        exact ⟨⟨_, rfl⟩, badend HB2.out, kend _⟩
  · have HB2 : Hid ((Pu.data rest bad).2.2 = true) := by
      show _ = _
      rw [HQ.out, Pu.need_bad]; exact Pu.bytes_bad _ _
    clear HQ
    go_wp2_with fail
    go_quiet (fail)
    go_wp2
    go_ret
    exact ⟨⟨_, rfl⟩, badend HB2.out, kend _⟩

end Rf
end Go.Proofs.YtepgoppgblfjbaaGreatDoor
