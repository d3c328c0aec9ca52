import Derived.Test.YtepgoppgblfjbaaGreatDoorGw01
import Derived.Test.YtepgoppgblfjbaaGreatDoorGw06
namespace Go.Proofs.YtepgoppgblfjbaaGreatDoor
open Go.RowKit

theorem Rd.set {b : Nat} {s : List UInt8} {bad : Bool} {w : World} (h : Rd b s bad w) (s' : List UInt8) (hs : s'.length ≤ 8000) : Rd b s' bad (w.setCell ⟨b, 0, none⟩ (.string ⟨s'.toArray⟩)) := by
  obtain ⟨c0, c1, f0, f1, pos, ⟨m, hm⟩, short⟩ := h
  refine ⟨World.cell?_setCell_same _ _ _ c0, ?_, by simpa using f0, by simpa using f1, pos, ⟨m, ?_⟩, hs⟩
  · rw [World.cell?_setCell_other _ _ _ _ (by simp)]; exact c1
  · rw [World.cell?_setCell_other _ _ _ _ (by simp only [ne_eq, Addr.mk.injEq, not_and]; omega)]; exact hm

theorem Rd.setBad {b : Nat} {s : List UInt8} {bad : Bool} {w : World} (h : Rd b s bad w) (bad' : Bool) : Rd b s bad' (w.setCell ⟨b, 1, none⟩ (.bool bad')) := by
  obtain ⟨c0, c1, f0, f1, pos, ⟨m, hm⟩, short⟩ := h
  refine ⟨?_, World.cell?_setCell_same _ _ _ c1, by simpa using f0, by simpa using f1, pos, ⟨m, ?_⟩, short⟩
  · rw [World.cell?_setCell_other _ _ _ _ (by simp)]; exact c0
  · rw [World.cell?_setCell_other _ _ _ _ (by simp only [ne_eq, Addr.mk.injEq, not_and]; omega)]; exact hm

set_option maxHeartbeats 400000 in
theorem fail_any (b : Nat) (s : List UInt8) (bad : Bool) (w : World) (h : Rd b s bad w) :
    Calls Tryz.prog 163 #[.pointer (some ⟨b, 0, none⟩)] w fun e w' => e = .returned (.tuple #[]) ∧ Rd b [] true w' ∧ Kx (Only b) w w' := by
  have h' := h
  obtain ⟨c0, c1, f0, f1, pos, ⟨m, hm⟩, short⟩ := h
  go_enter Tryz.func163, Tryz.ntmps163
  go_wp2
  go_end0
  exact ⟨rfl, (h'.setBad true).set [] (by simp), ((Kx.refl _ _).only_set _).only_set _⟩

set_option maxHeartbeats 400000 in
theorem need_any (b : Nat) (s : List UInt8) (bad : Bool) (ok : Bool) (w : World) (h : Rd b s bad w) :
    Calls Tryz.prog 161 #[.pointer (some ⟨b, 0, none⟩), .bool ok] w fun e w' => e = .returned (.tuple #[]) ∧ Rd b (Pu.need ok s bad).1 (Pu.need ok s bad).2 w' ∧ Kx (Only b) w w' := by
  cases ok
  · go_enter Tryz.func161, Tryz.ntmps161
    go_wp2_with (go_at_call 163; refine (fail_any b s bad _ h).mono ?_; rintro e w' ⟨rfl, hr, hk⟩)
    go_end0
    exact ⟨rfl, hr, hk⟩
  · go_enter Tryz.func161, Tryz.ntmps161
    go_wp2
    go_end0
    exact ⟨rfl, h, Kx.refl _ _⟩

theorem cut_any (s sep : List UInt8) (m : Int) (w : World) (hs : s.length ≤ 8000) (hm : w.cell? ⟨1, 0, none⟩ = some (.int .i64 m)) :
    Calls Tryz.prog 136 #[.string ⟨s.toArray⟩, .string ⟨sep.toArray⟩] w fun e w' => e = .returned (.tuple #[.string ⟨(Lib.cut s sep).1.toArray⟩, .string ⟨(Lib.cut s sep).2.1.toArray⟩, .bool (Lib.cut s sep).2.2]) ∧ ∃ n, w' = w.drewN n :=
  Tryz.strings_Cut _ _ m w (by simp [ByteArray.size]; omega) hm

set_option maxHeartbeats 400000 in
theorem line_any (b : Nat) (s : List UInt8) (bad : Bool) (w : World) (h : Rd b s bad w) :
    Calls Tryz.prog 162 #[.pointer (some ⟨b, 0, none⟩)] w fun e w' => e = .returned (.string ⟨(Pu.line s bad).1.toArray⟩) ∧ Rd b (Pu.line s bad).2.1 (Pu.line s bad).2.2 w' ∧ Kx (Only b) w w' := by
  have h' := h
  obtain ⟨c0, c1, f0, f1, pos, ⟨m, hm⟩, short⟩ := h
  have hl := (Pu.cut_lens s [10]).2
  go_enter Tryz.func162, Tryz.ntmps162
  go_wp2_with fail
  refine (cut_any s [10] m _ short hm).mono ?_
  rintro e w1 ⟨rfl, n, rfl⟩
  cases hc : (Lib.cut s [10]).2.2
  · have HL : Hid (Pu.line s bad = ([], [], true)) := by show _ = _; simp [Pu.line, hc]
    clear hc
    go_wp2_with (go_at_call 163; refine (fail_any b s bad _ (h'.drewN n)).mono ?_; rintro e w' ⟨rfl, hr, hk⟩)
    go_ret
    exact ⟨by rw [HL.out]; rfl, by rw [HL.out]; exact hr, ((Kx.refl _ _).drewN n).trans hk⟩
  · have HL : Hid (Pu.line s bad = ((Lib.cut s [10]).1, (Lib.cut s [10]).2.1, bad)) := by show _ = _; simp [Pu.line, hc]
    clear hc
    go_wp2
    go_ret
    exact ⟨by rw [HL.out]; rfl, by rw [HL.out]; exact (h'.drewN n).set _ (by show (Lib.cut s [10]).2.1.length ≤ 8000; omega), ((Kx.refl _ _).drewN n).only_set _⟩

set_option maxHeartbeats 400000 in
theorem exactly_any (b : Nat) (s : List UInt8) (bad : Bool) (l : List UInt8) (w : World) (h : Rd b s bad w) :
    Calls Tryz.prog 119 #[.pointer (some ⟨b, 0, none⟩), .string ⟨l.toArray⟩] w fun e w' => e = .returned (.tuple #[]) ∧ Rd b (Pu.exactly l s bad).1 (Pu.exactly l s bad).2 w' ∧ Kx (Only b) w w' := by
  go_enter Tryz.func119, Tryz.ntmps119
  go_wp2_with fail
  refine (line_any b s bad _ h).mono ?_
  rintro e w1 ⟨rfl, hr, hk⟩
  have HE : Hid (Pu.exactly l s bad = Pu.need ((Pu.line s bad).1 == l) (Pu.line s bad).2.1 (Pu.line s bad).2.2) := rfl
  generalize Pu.line s bad = x at *
  obtain ⟨x0, x1, x2⟩ := x
  go_wp2_with fail
  refine (need_any b _ _ _ _ hr).mono ?_
  rintro e w2 ⟨rfl, hr2, hk2⟩
  go_wp2
  go_end0
  exact ⟨rfl, by rw [HE.out]; exact hr2, hk.trans hk2⟩

set_option maxHeartbeats 400000 in
theorem after_any (b : Nat) (s : List UInt8) (bad : Bool) (l : List UInt8) (w : World) (h : Rd b s bad w) :
    Calls Tryz.prog 288 #[.pointer (some ⟨b, 0, none⟩), .string ⟨l.toArray⟩] w fun e w' => e = .returned (.string ⟨(Pu.after l s bad).1.toArray⟩) ∧ Rd b (Pu.after l s bad).2.1 (Pu.after l s bad).2.2 w' ∧ Kx (Only b) w w' := by
  go_enter Tryz.func288, Tryz.ntmps288
  go_wp2_with fail
  refine (line_any b s bad _ h).mono ?_
  rintro e w1 ⟨rfl, hr, hk⟩
  have HE : Hid (Pu.after l s bad = (Lib.trimPrefix (Pu.line s bad).1 l, Pu.need (Lib.hasPrefix (Pu.line s bad).1 l) (Pu.line s bad).2.1 (Pu.line s bad).2.2)) := rfl
  generalize Pu.line s bad = x at *
  obtain ⟨x0, x1, x2⟩ := x
  go_wp2_with fail
  refine (Tryz.strings_CutPrefix ⟨x0.toArray⟩ ⟨l.toArray⟩ _).mono ?_
  rintro e w2 ⟨rfl, rfl⟩
  go_wp2_with fail
  refine (need_any b _ _ _ _ hr).mono ?_
  rintro e w2 ⟨rfl, hr2, hk2⟩
  go_wp2
  go_ret
  exact ⟨by rw [HE.out]; rfl, by rw [HE.out]; exact hr2, hk.trans hk2⟩

theorem ret_bool {a b : Bool} (h : a = b) : Ending.returned (.bool a) = .returned (.bool b) := by rw [h]

theorem take_all_succ (t : List UInt8) (p : UInt8 → Bool) (k : Nat) (h : k < t.length) : (t.take (k + 1)).all p = ((t.take k).all p && p t[k]) := by
  rw [List.take_succ_eq_append_getElem h]; simp only [List.all_append, List.all_cons, List.all_nil, Bool.and_true]

set_option maxHeartbeats 400000 in
theorem madeOf_any (t set : List UInt8) (most : Int) (w : World) (ht : t.length ≤ 8000) :
    Calls Tryz.prog 186 #[.string ⟨t.toArray⟩, .string ⟨set.toArray⟩, .int .i64 most] w fun e w' => e = .returned (.bool (Pu.madeOf t set most)) ∧ w' = w := by
  by_cases h0 : t = []
  · subst h0
    go_enter Tryz.func186, Tryz.ntmps186
    go_wp2
    go_ret
    exact ⟨rfl, rfl⟩
  have hne : (t == ([] : List UInt8)) = false := by simpa using h0
  have hem : t.isEmpty = false := by simpa using h0
  by_cases h1 : most < (t.length : Int)
  · have HM : Hid (Pu.madeOf t set most = false) := Pu.madeOf_long t set most h1
    go_enter Tryz.func186, Tryz.ntmps186
    go_wp2
    go_ret
    exact ⟨by rw [HM.out]; rfl, rfl⟩
  · have HM : Hid (Pu.madeOf t set most = t.all (fun c => decide (0 ≤ Lib.indexByte set c))) := by
      show _ = _
      unfold Pu.madeOf; rw [hem, decide_eq_true (by omega)]; simp
    go_enter Tryz.func186, Tryz.ntmps186
    go_wp2
    go_loop [18] (fun i => ∃ k : Nat, k ≤ t.length ∧ i = .int .i64 k ∧ (t.take k).all (fun c => decide (0 ≤ Lib.indexByte set c)) = true) (fun i => t.length - (intOf i).toNat)
    case atStart => exact ⟨0, Nat.zero_le _, rfl, rfl⟩
    case round =>
      obtain ⟨k, hk, rfl, ha⟩ := hrel
      have HA : Hid ((t.take k).all (fun c => decide (0 ≤ Lib.indexByte set c)) = true) := ha
      clear ha
      by_cases hlt : k < t.length
      · have hsn := take_all_succ t (fun c => decide (0 ≤ Lib.indexByte set c)) k hlt
        by_cases hx : Lib.indexByte set t[k] < 0
        · have HF : Hid (t.all (fun c => decide (0 ≤ Lib.indexByte set c)) = false) := by
            show _ = _
            rw [List.all_eq_false]; exact ⟨t[k], List.getElem_mem hlt, by simp; omega⟩
          clear hsn
          go_wp2_with fail
          refine (indexByte_any set t[k] _).mono ?_
          rintro e w1 ⟨rfl, rfl⟩
          go_wp2
          go_ret
          exact ⟨by rw [HM.out, HF.out]; rfl, rfl⟩
        · have HS : Hid ((t.take (k + 1)).all (fun c => decide (0 ≤ Lib.indexByte set c)) = true) := by
            show _ = _
            rw [hsn, HA.out]; simp; omega
          clear hsn
          go_wp2_with fail
          refine (indexByte_any set t[k] _).mono ?_
          rintro e w1 ⟨rfl, rfl⟩
          go_wp2
          go_round
          case rel => exact ⟨k + 1, by omega, by go_num, HS.out⟩
          case measure => simp [intOf]; omega
      · go_wp2
        go_ret
        refine ⟨ret_bool ?_, rfl⟩
        rw [HM.out, ← HA.out, List.take_of_length_le (by omega)]

theorem u8_int_eq (a b : UInt8) : ((a.toNat : Int) == (b.toNat : Int)) = (a == b) := by
  rw [Bool.eq_iff_iff]; simp [← UInt8.toNat_inj]; omega

set_option maxHeartbeats 400000 in
theorem hasAtEnds_any (t : List UInt8) (c : Int) (u : UInt8) (hc : (u.toNat : Int) = c) (w : World) (h0 : 0 < t.length) (ht : t.length ≤ 8000) :
    Calls Tryz.prog 263 #[.string ⟨t.toArray⟩, .int .u8 c] w fun e w' => e = .returned (.bool (Pu.hasAtEnds t u)) ∧ w' = w := by
  subst hc
  have HE : Hid (Pu.hasAtEnds t u = (t[0] == u || t[t.length - 1] == u)) := by
    show _ = _
    unfold Pu.hasAtEnds
    rw [List.head?_eq_getElem?, List.getLast?_eq_getElem?, List.getElem?_eq_getElem h0, List.getElem?_eq_getElem (by omega)]
    rfl
  have hz : (0 : Int) < (t.length : Int) := by omega
  go_enter Tryz.func263, Tryz.ntmps263
  go_wp2
  · rename_i h1
    go_ret
    refine ⟨ret_bool ?_, rfl⟩
    have h2 : t[0] = u := UInt8.toNat_inj.1 (Int.ofNat_inj.1 h1)
    rw [HE.out, h2]; simp
  · go_ret
    refine ⟨ret_bool ?_, rfl⟩
    rw [HE.out, ← u8_int_eq, ← u8_int_eq]; rfl

theorem madeOf_pos {t set : List UInt8} {most : Int} (h : Pu.madeOf t set most = true) : 0 < t.length ∧ (t.length : Int) ≤ most := by
  unfold Pu.madeOf at h
  simp only [Bool.and_eq_true, Bool.not_eq_true', decide_eq_true_eq] at h
  refine ⟨?_, h.1.2⟩
  cases t with
  | nil => simp at h
  | cons a r => simp

theorem contains_any (t : List UInt8) (sub : List UInt8) (m : Int) (w : World) (hs : t.length ≤ 8000) (hm : w.cell? ⟨1, 0, none⟩ = some (.int .i64 m)) :
    Calls Tryz.prog 337 #[.string ⟨t.toArray⟩, .string ⟨sub.toArray⟩] w fun e w' => e = .returned (.bool (Lib.contains t sub)) ∧ w' = w :=
  Tryz.strings_Contains _ _ m w (by simp [ByteArray.size]; omega) hm

set_option maxHeartbeats 400000 in
theorem isRef_any (t : List UInt8) (m : Int) (w : World) (ht : t.length ≤ 8000) (hm : w.cell? ⟨1, 0, none⟩ = some (.int .i64 m)) :
    Calls Tryz.prog 292 #[.string ⟨t.toArray⟩] w fun e w' => e = .returned (.bool (Pu.isRef t)) ∧ w' = w := by
  go_enter Tryz.func292, Tryz.ntmps292
  go_wp2_with fail
  refine (madeOf_any t Pu.refSet 20 _ ht).mono ?_
  rintro e w1 ⟨rfl, rfl⟩
  cases hc : Pu.madeOf t Pu.refSet 20
  · have HE : Hid (Pu.isRef t = false) := by show _ = _; simp [Pu.isRef, hc]
    clear hc
    go_wp2
    go_ret
    exact ⟨by rw [HE.out]; rfl, rfl⟩
  · have hl := (madeOf_pos hc).1
    have HE : Hid (Pu.isRef t = (!Pu.hasAtEnds t 47 && !Lib.contains t [47, 47])) := by show _ = _; simp [Pu.isRef, hc]
    clear hc
    go_wp2_with fail
    refine (hasAtEnds_any t 47 47 rfl _ hl ht).mono ?_
    rintro e w1 ⟨rfl, rfl⟩
    generalize Pu.hasAtEnds t 47 = x at *
    cases x
    · go_wp2_with fail
      refine (contains_any t [47, 47] m _ ht hm).mono ?_
      rintro e w1 ⟨rfl, rfl⟩
      go_wp2
      go_ret
      exact ⟨ret_bool (by rw [HE.out]; simp), rfl⟩
    · go_wp2
      go_ret
      exact ⟨by rw [HE.out]; rfl, rfl⟩

set_option maxHeartbeats 400000 in
theorem isName_any (t : List UInt8) (w : World) (ht : t.length ≤ 8000) :
    Calls Tryz.prog 189 #[.string ⟨t.toArray⟩] w fun e w' => e = .returned (.bool (Pu.isName t)) ∧ w' = w := by
  go_enter Tryz.func189, Tryz.ntmps189
  go_wp2_with fail
  refine (madeOf_any t Pu.nameSet 20 _ ht).mono ?_
  rintro e w1 ⟨rfl, rfl⟩
  cases hc : Pu.madeOf t Pu.nameSet 20
  · have HE : Hid (Pu.isName t = false) := by show _ = _; simp [Pu.isName, hc]
    clear hc
    go_wp2
    go_ret
    exact ⟨by rw [HE.out]; rfl, rfl⟩
  · have hl := (madeOf_pos hc).1
    have HE : Hid (Pu.isName t = !Pu.hasAtEnds t 32) := by show _ = _; simp [Pu.isName, hc]
    clear hc
    go_wp2_with fail
    refine (hasAtEnds_any t 32 32 rfl _ hl ht).mono ?_
    rintro e w1 ⟨rfl, rfl⟩
    go_wp2
    go_ret
    exact ⟨ret_bool (by rw [HE.out]), rfl⟩

set_option maxHeartbeats 400000 in
theorem isMail_any (t : List UInt8) (w : World) (ht : t.length ≤ 8000) :
    Calls Tryz.prog 188 #[.string ⟨t.toArray⟩] w fun e w' => e = .returned (.bool (Pu.isMail t)) ∧ w' = w := by
  go_enter Tryz.func188, Tryz.ntmps188
  go_wp2_with fail
  refine (madeOf_any t Pu.mailSet 20 _ ht).mono ?_
  rintro e w1 ⟨rfl, rfl⟩
  go_wp2
  go_ret
  exact ⟨rfl, rfl⟩

set_option maxHeartbeats 400000 in
theorem isPart_any (t : List UInt8) (w : World) (ht : t.length ≤ 8000) :
    Calls Tryz.prog 262 #[.string ⟨t.toArray⟩] w fun e w' => e = .returned (.bool (Pu.isPart t)) ∧ w' = w := by
  go_enter Tryz.func262, Tryz.ntmps262
  go_wp2_with fail
  refine (madeOf_any t Pu.partSet 12 _ ht).mono ?_
  rintro e w1 ⟨rfl, rfl⟩
  have HE : Hid (Pu.isPart t = (Pu.madeOf t Pu.partSet 12 && t != [46] && t != [46, 46])) := rfl
  generalize Pu.madeOf t Pu.partSet 12 = x at *
  cases x
  · go_wp2
    go_ret
    exact ⟨by rw [HE.out]; rfl, rfl⟩
  · go_wp2
    · rename_i h1
      go_ret
      exact ⟨ret_bool (by rw [HE.out, h1]; rfl), rfl⟩
    · go_ret
      exact ⟨ret_bool (by rw [HE.out]; rfl), rfl⟩

set_option maxHeartbeats 1000000 in
theorem number_any (t : List UInt8) (lo hi : Int) (w : World) (ht : t.length ≤ 8000) :
    Calls Tryz.prog 137 #[.string ⟨t.toArray⟩, .int .i64 lo, .int .i64 hi] w fun e w' => e = .returned (.tuple #[.int .i64 (Pu.number t lo hi).1, .bool (Pu.number t lo hi).2]) ∧ w' = w := by
  go_enter Tryz.func137, Tryz.ntmps137
  go_wp2_with fail
  refine (madeOf_any t Pu.digitSet 18 _ ht).mono ?_
  rintro e w1 ⟨rfl, rfl⟩
  cases hc : Pu.madeOf t Pu.digitSet 18
  · have HE : Hid (Pu.number t lo hi = (0, false)) := by show _ = _; simp [Pu.number, hc]
    clear hc
    go_wp2
    go_ret2
    exact ⟨by rw [HE.out]; rfl, rfl⟩
  · have hl := madeOf_pos hc
    have hd : ∀ k (hk : k < t.length), 48 ≤ t[k].toNat ∧ t[k].toNat ≤ 57 := fun k hk => Pu.digit_of (Pu.madeOf_at hc k hk)
    have HV := Pu.val_take t hd
    have HE : Hid (Pu.number t lo hi = if t.head? == some 48 && decide (1 < t.length) then (0, false) else if Pu.val t < lo ∨ hi < Pu.val t then (0, false) else (Pu.val t, true)) := by show _ = _; simp [Pu.number, hc]
    clear hc
    obtain ⟨hl1, hl2⟩ := hl
    have hz : (0 : Int) < (t.length : Int) := by omega
    have hhd : t.head? = some t[0] := by rw [List.head?_eq_getElem?, List.getElem?_eq_getElem hl1]
    rw [hhd] at HE
    clear hhd
    by_cases h48 : t[0] = 48 ∧ 1 < t.length
    · obtain ⟨h1, h2⟩ := h48
      have HE2 : Hid (Pu.number t lo hi = (0, false)) := by show _ = _; rw [HE.out, h1]; simp [h2]
      have hb : (((⟨t.toArray⟩ : ByteArray)[0].toNat : Int) == 48) = true := by
        show ((t[0].toNat : Int) == 48) = true; rw [h1]; rfl
      have h3 : (1 : Int) < (t.length : Int) := by omega
      clear HE HV h1
      go_wp2
      go_ret2
      exact ⟨by rw [HE2.out]; rfl, rfl⟩
    · have HE2 : Hid (Pu.number t lo hi = if Pu.val t < lo ∨ hi < Pu.val t then (0, false) else (Pu.val t, true)) := by
        show _ = _
        rw [HE.out, if_neg]
        simp only [Bool.and_eq_true, beq_iff_eq, Option.some.injEq, decide_eq_true_eq]; exact h48
      clear HE
      have hcase : ((((⟨t.toArray⟩ : ByteArray)[0].toNat : Int) == 48) = true ∧ ¬ (1 : Int) < (t.length : Int)) ∨ (((⟨t.toArray⟩ : ByteArray)[0].toNat : Int) == 48) = false := by
        by_cases h1 : t[0] = 48
        · left
          refine ⟨?_, fun h => h48 ⟨h1, by omega⟩⟩
          show ((t[0].toNat : Int) == 48) = true; rw [h1]; rfl
        · right
          show ((t[0].toNat : Int) == 48) = false
          have h2 : ((t[0].toNat : Int) == ((48 : UInt8).toNat : Int)) = false := by rw [u8_int_eq]; simpa using h1
          exact h2
      clear h48
      rcases hcase with ⟨hb, h3⟩ | hb
      all_goals
        go_wp2
        go_loop [8, 25] (fun n i => ∃ k : Nat, k ≤ t.length ∧ i = .int .i64 k ∧ n = .int .i64 (Pu.val (t.take k))) (fun _ i => t.length - (intOf i).toNat)
        case atStart => exact ⟨0, Nat.zero_le _, rfl, rfl⟩
        case round =>
          obtain ⟨k, hk, rfl, rfl⟩ := hrel
          by_cases hlt : k < t.length
          · have hv := HV k hk
            have hp := Pu.pow_le k (by omega)
            have hdk := hd k hlt
            have hsn := Pu.val_snoc (t.take k) t[k]
            rw [← List.take_succ_eq_append_getElem hlt] at hsn
            have hv1 : 0 ≤ Pu.val (t.take k) := hv.1
            have hv2 : Pu.val (t.take k) ≤ 100000000000000000 := by omega
            have hd1 : (48 : Int) ≤ ((⟨t.toArray⟩ : ByteArray)[k].toNat : Int) := by show (48 : Int) ≤ (t[k].toNat : Int); omega
            have hd2 : ((⟨t.toArray⟩ : ByteArray)[k].toNat : Int) ≤ 57 := by show (t[k].toNat : Int) ≤ 57; omega
            have HS : Hid (Pu.val (t.take (k + 1)) = Pu.val (t.take k) * 10 + (((⟨t.toArray⟩ : ByteArray)[k].toNat : Int) - 48)) := hsn
            clear hsn hv hp hdk HV hd hb
            generalize Pu.val (t.take k) = v at *
            go_wp2
            go_round
            case rel => exact ⟨k + 1, by omega, by go_num, by rw [HS.out]⟩
            case measure => simp [intOf]; omega
          · have hkl : k = t.length := by omega
            subst hkl
            rw [List.take_length]
            clear HV hd
            generalize Pu.val t = v at *
            by_cases hlo : v < lo
            · have HE3 : Hid (Pu.number t lo hi = (0, false)) := by show _ = _; rw [HE2.out, if_pos (Or.inl hlo)]
              clear HE2
              go_wp2
              go_ret2
              exact ⟨by rw [HE3.out]; rfl, rfl⟩
            · by_cases hhi : hi < v
              · have HE3 : Hid (Pu.number t lo hi = (0, false)) := by show _ = _; rw [HE2.out, if_pos (Or.inr hhi)]
                clear HE2
                go_wp2
                go_ret2
                exact ⟨by rw [HE3.out]; rfl, rfl⟩
              · have HE3 : Hid (Pu.number t lo hi = (v, true)) := by show _ = _; rw [HE2.out, if_neg (by omega)]
                clear HE2
                go_wp2
                go_ret2
                exact ⟨by rw [HE3.out]; rfl, rfl⟩

theorem trim_len (t p : List UInt8) : (Lib.trimPrefix t p).length ≤ t.length := by
  unfold Lib.trimPrefix; split <;> simp

theorem hasPrefix_any (s p : List UInt8) (w : World) :
    Calls Tryz.prog 293 #[.string ⟨s.toArray⟩, .string ⟨p.toArray⟩] w fun e w' => e = .returned (.bool (Lib.hasPrefix s p)) ∧ w' = w :=
  Tryz.strings_HasPrefix _ _ w

theorem split_any (s : List UInt8) (c : UInt8) (m : Int) (w : World) (hs : s.length ≤ 8000) (hm : w.cell? ⟨1, 0, none⟩ = some (.int .i64 m)) :
    Calls Tryz.prog 261 #[.string ⟨s.toArray⟩, .string ⟨#[c]⟩] w fun e w' =>
      e = .returned (.slice (some ⟨w.heap.size, 0, none⟩) (Lib.split s [c]).length (Lib.split s [c]).length) ∧ w' = w.alloc (.cells ((Lib.split s [c]).map (fun x => Value.string ⟨x.toArray⟩)).toArray 9) := by
  have h := Tryz.strings_Split ⟨s.toArray⟩ ⟨#[c]⟩ m w (by simp [ByteArray.size]; omega) hm (by simp [ByteArray.size])
  have h1 := Lib.splitB_data ⟨#[c]⟩ 0 (Lib.countB ⟨s.toArray⟩ ⟨#[c]⟩) ⟨s.toArray⟩
  have h2 := Lib.splitB_all ⟨#[c]⟩ (by simp [ByteArray.size]) 0 (Lib.countB ⟨s.toArray⟩ ⟨#[c]⟩) ⟨s.toArray⟩ rfl
  have e1 : Lib.split s [c] = (Lib.splitB ⟨#[c]⟩ 0 (Lib.countB ⟨s.toArray⟩ ⟨#[c]⟩) ⟨s.toArray⟩).map (·.data.toList) := by rw [h1]; rfl
  rw [e1, List.length_map, h2, List.map_map]
  exact h

set_option maxHeartbeats 400000 in
theorem mark_any (t : List UInt8) (w : World) (ht : t.length ≤ 8000) :
    Calls Tryz.prog 287 #[.string ⟨t.toArray⟩] w fun e w' => e = .returned (.tuple #[.int .i64 (Pu.mark t).1, .bool (Pu.mark t).2]) ∧ w' = w := by
  have hl := trim_len t [58]
  go_enter Tryz.func287, Tryz.ntmps287
  go_wp2_with fail
  refine (cutPrefix_any t [58] _).mono ?_
  rintro e w1 ⟨rfl, rfl⟩
  have HE : Hid (Pu.mark t = if Lib.hasPrefix t [58] then Pu.number (Lib.trimPrefix t [58]) 1 999 else (0, false)) := rfl
  generalize Lib.hasPrefix t [58] = f at *
  generalize Lib.trimPrefix t [58] = x at *
  cases f
  · go_wp2
    go_ret2
    exact ⟨by rw [HE.out]; rfl, rfl⟩
  · go_wp2_with fail
    refine (number_any x 1 999 _ (by omega)).mono ?_
    rintro e w2 ⟨rfl, rfl⟩
    go_wp2
    go_ret2
    exact ⟨by rw [HE.out]; rfl, rfl⟩

theorem take_all_succ' {α : Type} (t : List α) (p : α → Bool) (k : Nat) (h : k < t.length) : (t.take (k + 1)).all p = ((t.take k).all p && p t[k]) := by
  rw [List.take_succ_eq_append_getElem h]; simp only [List.all_append, List.all_cons, List.all_nil, Bool.and_true]

theorem cell_strs (w : World) (L : List (List UInt8)) (t : TypeId) (k : Nat) (hk : k < L.length) :
    (w.alloc (.cells (L.map (fun x => Value.string ⟨x.toArray⟩)).toArray t)).cell? ⟨w.heap.size, k, none⟩ = some (.string ⟨L[k].toArray⟩) := by
  have h : (w.alloc (.cells (L.map (fun x => Value.string ⟨x.toArray⟩)).toArray t)).heap[w.heap.size]? = some (.cells (L.map (fun x => Value.string ⟨x.toArray⟩)).toArray t) := by
    show (w.heap.push _)[w.heap.size]? = _
    simp
  unfold World.cell?
  rw [h]
  simp [hk]

theorem split_len (s : List UInt8) (c : UInt8) : (Lib.split s [c]).length ≤ s.length + 1 := by
  have h1 := Lib.splitB_data ⟨#[c]⟩ 0 (Lib.countB ⟨s.toArray⟩ ⟨#[c]⟩) ⟨s.toArray⟩
  have e1 : Lib.split s [c] = (Lib.splitB ⟨#[c]⟩ 0 (Lib.countB ⟨s.toArray⟩ ⟨#[c]⟩) ⟨s.toArray⟩).map (·.data.toList) := by rw [h1]; rfl
  have h2 := Lib.splitB_length_le ⟨#[c]⟩ 0 (Lib.countB ⟨s.toArray⟩ ⟨#[c]⟩) ⟨s.toArray⟩
  have h3 := Lib.countB_le ⟨#[c]⟩ (by simp [ByteArray.size]) s.length ⟨s.toArray⟩ (by simp [ByteArray.size])
  have e2 : (⟨s.toArray⟩ : ByteArray).size = s.length := by simp [ByteArray.size]
  rw [e1, List.length_map]
  omega

theorem splitK_lens (sep : List UInt8) : ∀ (k : Nat) (s : List UInt8), ∀ x ∈ Lib.splitK sep 0 k s, x.length ≤ s.length := by
  intro k
  induction k with
  | zero => intro s x hx; unfold Lib.splitK at hx; simp at hx; subst hx; exact Nat.le_refl _
  | succ k ih =>
    intro s x hx
    unfold Lib.splitK at hx
    split at hx
    · simp at hx; subst hx; exact Nat.le_refl _
    · simp only [List.mem_cons] at hx
      rcases hx with rfl | hx
      · simp; omega
      · have := ih _ x hx
        simp at this; omega

theorem split_lens (s sep : List UInt8) : ∀ x ∈ Lib.split s sep, x.length ≤ s.length := splitK_lens sep _ s

set_option maxHeartbeats 400000 in
theorem isPath_any (t : List UInt8) (m : Int) (w : World) (ht : t.length ≤ 8000) (hm : w.cell? ⟨1, 0, none⟩ = some (.int .i64 m)) :
    Calls Tryz.prog 187 #[.string ⟨t.toArray⟩] w fun e w' => e = .returned (.bool (Pu.isPath t)) ∧ Kx (fun _ => False) w w' := by
  by_cases h60 : 60 < (t.length : Int)
  · have HE : Hid (Pu.isPath t = false) := by show _ = _; unfold Pu.isPath; rw [decide_eq_false (by omega)]; simp
    go_enter Tryz.func187, Tryz.ntmps187
    go_wp2
    go_ret
    exact ⟨by rw [HE.out]; rfl, Kx.refl _ _⟩
  · have HE : Hid (Pu.isPath t = ((Lib.split t [47]).all Pu.isPart && decide ((Lib.split t [47]).length ≤ 6))) := by show _ = _; unfold Pu.isPath; rw [decide_eq_true (by omega)]; simp
    have hlens := split_lens t [47]
    have hll := split_len t 47
    have hc := cell_strs w (Lib.split t [47]) 9
    have HK := (Kx.refl (fun _ => False) w).alloc (.cells ((Lib.split t [47]).map (fun x => Value.string ⟨x.toArray⟩)).toArray 9)
    have hz : w.heap.size < (w.alloc (.cells ((Lib.split t [47]).map (fun x => Value.string ⟨x.toArray⟩)).toArray 9)).heap.size := by simp
    go_enter Tryz.func187, Tryz.ntmps187
    go_wp2_with fail
    refine (split_any t 47 m _ ht hm).mono ?_
    rintro e w1 ⟨rfl, rfl⟩
    generalize w.alloc (.cells ((Lib.split t [47]).map (fun x => Value.string ⟨x.toArray⟩)).toArray 9) = W at *
    generalize Lib.split t [47] = L at *
    go_wp2
    go_loop [13] (fun i => ∃ k : Nat, k ≤ L.length ∧ i = .int .i64 k ∧ (L.take k).all Pu.isPart = true) (fun i => L.length - (intOf i).toNat)
    case atStart => exact ⟨0, Nat.zero_le _, rfl, rfl⟩
    case round =>
      obtain ⟨k, hk, rfl, ha⟩ := hrel
      have HA : Hid ((L.take k).all Pu.isPart = true) := ha
      clear ha
      by_cases hlt : k < L.length
      · have hsn := take_all_succ' L Pu.isPart k hlt
        have hck := hc k hlt
        have hxl := hlens L[k] (List.getElem_mem hlt)
        cases hx : Pu.isPart L[k]
        · have HF : Hid (L.all Pu.isPart = false) := by
            show _ = _
            rw [List.all_eq_false]; exact ⟨L[k], List.getElem_mem hlt, by simp [hx]⟩
          have HX : Hid (Pu.isPart L[k] = false) := hx
          clear hsn hx hc hlens
          go_wp2_with fail
          refine (isPart_any L[k] _ (by omega)).mono ?_
          rintro e w1 ⟨rfl, rfl⟩
          rw [HX.out]
          go_wp2
          go_ret
          exact ⟨by rw [HE.out, HF.out]; rfl, HK⟩
        · have HS : Hid ((L.take (k + 1)).all Pu.isPart = true) := by
            show _ = _
            rw [hsn, HA.out, hx]; rfl
          have HX : Hid (Pu.isPart L[k] = true) := hx
          clear hsn hx hc hlens
          go_wp2_with fail
          refine (isPart_any L[k] _ (by omega)).mono ?_
          rintro e w1 ⟨rfl, rfl⟩
          rw [HX.out]
          go_wp2
          go_round
          case rel => exact ⟨k + 1, by omega, by go_num, HS.out⟩
          case measure => simp [intOf]; omega
      · have HA2 : Hid (L.all Pu.isPart = true) := by
          show _ = _
          rw [← HA.out, List.take_of_length_le (by omega)]
        clear hc hlens
        go_wp2
        go_ret
        refine ⟨ret_bool ?_, HK⟩
        rw [HE.out, HA2.out, Bool.true_and]
        simp; omega

set_option maxHeartbeats 400000 in
theorem ref_any (b : Nat) (s : List UInt8) (bad : Bool) (head : List UInt8) (w : World) (h : Rd b s bad w) :
    Calls Tryz.prog 222 #[.pointer (some ⟨b, 0, none⟩), .string ⟨head.toArray⟩] w fun e w' => e = .returned (.string ⟨(Pu.ref head s bad).1.toArray⟩) ∧ Rd b (Pu.ref head s bad).2.1 (Pu.ref head s bad).2.2 w' ∧ Kx (Only b) w w' := by
  have hl := Pu.after_len head s bad
  have hs := h.short
  go_enter Tryz.func222, Tryz.ntmps222
  go_wp2_with fail
  refine (after_any b s bad head _ h).mono ?_
  rintro e w1 ⟨rfl, hr, hk⟩
  have HE : Hid (Pu.ref head s bad = ((Pu.after head s bad).1, Pu.need (Pu.isRef (Pu.after head s bad).1) (Pu.after head s bad).2.1 (Pu.after head s bad).2.2)) := rfl
  generalize Pu.after head s bad = x at *
  obtain ⟨x0, x1, x2⟩ := x
  obtain ⟨m, hm⟩ := hr.max
  go_wp2_with fail
  refine (isRef_any x0 m _ (by omega) hm).mono ?_
  rintro e w2 ⟨rfl, rfl⟩
  go_wp2_with fail
  refine (need_any b _ _ _ _ hr).mono ?_
  rintro e w3 ⟨rfl, hr2, hk2⟩
  go_wp2
  go_ret
  exact ⟨by rw [HE.out]; rfl, by rw [HE.out]; exact hr2, hk.trans hk2⟩

set_option maxHeartbeats 400000 in
theorem rmark_any (b : Nat) (s : List UInt8) (bad : Bool) (w : World) (h : Rd b s bad w) :
    Calls Tryz.prog 216 #[.pointer (some ⟨b, 0, none⟩)] w fun e w' => e = .returned (.int .i64 (Pu.rmark s bad).1) ∧ Rd b (Pu.rmark s bad).2.1 (Pu.rmark s bad).2.2 w' ∧ Kx (Only b) w w' := by
  have hl := Pu.after_len Pu.sMark s bad
  have hs := h.short
  go_enter Tryz.func216, Tryz.ntmps216
  go_wp2_with fail
  refine (after_any b s bad Pu.sMark _ h).mono ?_
  rintro e w1 ⟨rfl, hr, hk⟩
  have HE : Hid (Pu.rmark s bad = ((Pu.mark (Pu.after Pu.sMark s bad).1).1, Pu.need (Pu.mark (Pu.after Pu.sMark s bad).1).2 (Pu.after Pu.sMark s bad).2.1 (Pu.after Pu.sMark s bad).2.2)) := rfl
  generalize Pu.after Pu.sMark s bad = x at *
  obtain ⟨x0, x1, x2⟩ := x
  go_wp2_with fail
  refine (mark_any x0 _ (by omega)).mono ?_
  rintro e w2 ⟨rfl, rfl⟩
  go_wp2_with fail
  refine (need_any b _ _ _ _ hr).mono ?_
  rintro e w3 ⟨rfl, hr2, hk2⟩
  go_wp2
  go_ret
  exact ⟨by rw [HE.out]; rfl, by rw [HE.out]; exact hr2, hk.trans hk2⟩

set_option maxHeartbeats 400000 in
theorem which_any (b : Nat) (s : List UInt8) (bad : Bool) (head : List UInt8) (w : World) (h : Rd b s bad w) :
    Calls Tryz.prog 238 #[.pointer (some ⟨b, 0, none⟩), .string ⟨head.toArray⟩] w fun e w' => e = .returned (.agg #[.int .i64 (Pu.whichV head s bad).mark, .string ⟨(Pu.whichV head s bad).ref.toArray⟩]) ∧ Rd b (Pu.which head s bad).1 (Pu.which head s bad).2 w' ∧ Kx (Only b) w w' := by
  have hl := Pu.after_len head s bad
  have hs := h.short
  have hb := h.lt
  go_enter Tryz.func238, Tryz.ntmps238
  go_wp2_with fail
  refine (after_any b s bad head _ (h.alloc _)).mono ?_
  rintro e w1 ⟨rfl, hr, hk⟩
  have HV : Hid (Pu.whichV head s bad = if (Pu.mark (Pu.after head s bad).1).2 then ⟨(Pu.mark (Pu.after head s bad).1).1, []⟩ else ⟨0, (Pu.after head s bad).1⟩) := rfl
  have HE : Hid (Pu.which head s bad = if (Pu.mark (Pu.after head s bad).1).2 then (Pu.after head s bad).2 else Pu.need (Pu.isRef (Pu.after head s bad).1) (Pu.after head s bad).2.1 (Pu.after head s bad).2.2) := rfl
  generalize Pu.after head s bad = x at *
  obtain ⟨x0, x1, x2⟩ := x
  obtain ⟨m, hm⟩ := hr.max
  obtain ⟨n0, g0⟩ := new_cell hk hb 0
  obtain ⟨n1, g1⟩ := new_cell hk hb 1
  go_wp2_with fail
  refine (mark_any x0 _ (by omega)).mono ?_
  rintro e w2 ⟨rfl, rfl⟩
  generalize Pu.mark x0 = y at *
  obtain ⟨y0, y1⟩ := y
  cases y1
  · go_wp2_with fail
    refine (isRef_any x0 m _ (by omega) hm).mono ?_
    rintro e w2 ⟨rfl, rfl⟩
    go_wp2_with fail
    refine (need_any b _ _ _ _ hr).mono ?_
    rintro e w3 ⟨rfl, hr2, hk2⟩
    clear n0 n1 g0 g1
    obtain ⟨n0, g0⟩ := new_cell (hk.trans hk2) hb 0
    obtain ⟨n1, g1⟩ := new_cell (hk.trans hk2) hb 1
    go_wp2
    refine bodyPost_ret (v := .agg #[.int .i64 0, .string ⟨x0.toArray⟩]) (by simp [results, Tryz.results238, go_sem, n0, n1]) rfl ⟨by rw [HV.out]; rfl, ?_, ?_⟩
    · rw [HE.out]
      exact (hr2.setNew hb _).setNew hb _
    · exact ((((Kx.refl _ w).alloc _).trans (hk.trans hk2)).setNew (by simp) _).setNew (by simp) _
  · go_wp2
    refine bodyPost_ret (v := .agg #[.int .i64 y0, .string ⟨#[]⟩]) (by simp [results, Tryz.results238, go_sem, n0, n1]) rfl ⟨by rw [HV.out]; rfl, ?_, ?_⟩
    · rw [HE.out]
      exact (hr.setNew hb _).setNew hb _
    · exact ((((Kx.refl _ w).alloc _).trans hk).setNew (by simp) _).setNew (by simp) _

set_option maxHeartbeats 400000 in
theorem fromOr_any (b : Nat) (s : List UInt8) (bad : Bool) (w : World) (h : Rd b s bad w) :
    Calls Tryz.prog 224 #[.pointer (some ⟨b, 0, none⟩)] w fun e w' => e = .returned (.agg #[.int .i64 (Pu.fromOrV s bad).mark, .string ⟨(Pu.fromOrV s bad).ref.toArray⟩]) ∧ Rd b (Pu.fromOr s bad).1 (Pu.fromOr s bad).2 w' ∧ Kx (Only b) w w' := by
  have hb := h.lt
  have h' := h
  obtain ⟨c0, c1, f0, f1, pos, ⟨m, hm⟩, short⟩ := h
  have HV : Hid (Pu.fromOrV s bad = if Lib.hasPrefix s Pu.sFrom then Pu.whichV Pu.sFrom s bad else ⟨0, []⟩) := rfl
  have HE : Hid (Pu.fromOr s bad = if Lib.hasPrefix s Pu.sFrom then Pu.which Pu.sFrom s bad else (s, bad)) := rfl
  go_enter Tryz.func224, Tryz.ntmps224
  go_wp2_with fail
  refine (hasPrefix_any s Pu.sFrom _).mono ?_
  rintro e w1 ⟨rfl, rfl⟩
  generalize Lib.hasPrefix s Pu.sFrom = f at *
  cases f
  · go_wp2
    refine bodyPost_ret (v := .agg #[.int .i64 0, .string ⟨#[]⟩]) (by simp [results, Tryz.results224, go_sem]) rfl ⟨by rw [HV.out]; rfl, ?_, ?_⟩
    · rw [HE.out]
      exact h'.alloc _
    · exact (Kx.refl _ w).alloc _
  · go_wp2_with fail
    refine (which_any b s bad Pu.sFrom _ (h'.alloc _)).mono ?_
    rintro e w1 ⟨rfl, hr, hk⟩
    generalize Pu.whichV Pu.sFrom s bad = wv at *
    obtain ⟨n, x⟩ := wv
    obtain ⟨n0, g0⟩ := new_cell hk hb 0
    obtain ⟨n1, g1⟩ := new_cell hk hb 1
    go_wp2
    refine bodyPost_ret (v := .agg #[.int .i64 n, .string ⟨x.toArray⟩]) (by simp [results, Tryz.results224, go_sem, n0, n1]) rfl ⟨by rw [HV.out]; rfl, ?_, ?_⟩
    · rw [HE.out]
      exact (hr.setNew hb _).setNew hb _
    · exact ((((Kx.refl _ w).alloc _).trans hk).setNew (by simp) _).setNew (by simp) _

set_option maxHeartbeats 400000 in
theorem author_any (b : Nat) (s : List UInt8) (bad : Bool) (w : World) (h : Rd b s bad w) :
    Calls Tryz.prog 223 #[.pointer (some ⟨b, 0, none⟩)] w fun e w' => e = .returned (.agg #[.string ⟨(Pu.authorV s bad).name.toArray⟩, .string ⟨(Pu.authorV s bad).mail.toArray⟩, .int .i64 (Pu.authorV s bad).time]) ∧ Rd b (Pu.author s bad).1 (Pu.author s bad).2 w' ∧ Kx (Only b) w w' := by
  have hl := (Pu.after_len Pu.sAuthor s bad).1
  have hs := h.short
  have hb := h.lt
  go_enter Tryz.func223, Tryz.ntmps223
  go_wp2_with fail
  refine (after_any b s bad Pu.sAuthor _ (h.alloc _)).mono ?_
  rintro e w1 ⟨rfl, hr, hk⟩
  have HV : Hid (Pu.authorV s bad = ⟨(Lib.cut (Pu.after Pu.sAuthor s bad).1 [32, 60]).1, (Lib.cut (Lib.cut (Pu.after Pu.sAuthor s bad).1 [32, 60]).2.1 [62, 32]).1, (Pu.number (Lib.cut (Lib.cut (Pu.after Pu.sAuthor s bad).1 [32, 60]).2.1 [62, 32]).2.1 0 9999999999).1⟩) := rfl
  have HE : Hid (Pu.author s bad = Pu.need (Pu.isAuthor (Pu.after Pu.sAuthor s bad).1) (Pu.after Pu.sAuthor s bad).2.1 (Pu.after Pu.sAuthor s bad).2.2) := rfl
  generalize Pu.after Pu.sAuthor s bad = x at *
  obtain ⟨x0, x1, x2⟩ := x
  obtain ⟨m, hm⟩ := hr.max
  have hl2 := Pu.cut_lens x0 [32, 60]
  have HA : Hid (Pu.isAuthor x0 = ((Lib.cut x0 [32, 60]).2.2 && (Lib.cut (Lib.cut x0 [32, 60]).2.1 [62, 32]).2.2 && (Pu.number (Lib.cut (Lib.cut x0 [32, 60]).2.1 [62, 32]).2.1 0 9999999999).2
    && Pu.isName (Lib.cut x0 [32, 60]).1 && Pu.isMail (Lib.cut (Lib.cut x0 [32, 60]).2.1 [62, 32]).1)) := rfl
  go_wp2_with fail
  refine (cut_any x0 [32, 60] m _ (by omega) hm).mono ?_
  rintro e w2 ⟨rfl, q1, rfl⟩
  generalize Lib.cut x0 [32, 60] = y at *
  obtain ⟨y0, y1, y2⟩ := y
  have hl3 := Pu.cut_lens y1 [62, 32]
  go_wp2_with fail
  refine (cut_any y1 [62, 32] m _ (by omega) (by exact hm)).mono ?_
  rintro e w2 ⟨rfl, q2, rfl⟩
  generalize Lib.cut y1 [62, 32] = z at *
  obtain ⟨z0, z1, z2⟩ := z
  go_wp2_with fail
  refine (number_any z1 0 9999999999 _ (by omega)).mono ?_
  rintro e w2 ⟨rfl, rfl⟩
  generalize Pu.number z1 0 9999999999 = v at *
  obtain ⟨v0, v1⟩ := v
  cases y2
  · go_wp2_with fail
    refine (need_any b x1 x2 _ _ (hr.drewN _)).mono ?_
    rintro e w3 ⟨rfl, hr2, hk2⟩
    have hk3 := (hk.drewN _).trans hk2
    obtain ⟨n0, g0⟩ := new_cell hk3 hb 0
    obtain ⟨n1, g1⟩ := new_cell hk3 hb 1
    obtain ⟨n2, g2⟩ := new_cell hk3 hb 2
    go_wp2
    refine bodyPost_ret (v := .agg #[.string ⟨y0.toArray⟩, .string ⟨z0.toArray⟩, .int .i64 v0]) (by simp [results, Tryz.results223, go_sem, n0, n1, n2]) rfl ⟨by rw [HV.out], ?_, ?_⟩
    · rw [HE.out, HA.out]
      simp only [Bool.false_and]
      exact ((hr2.setNew hb _).setNew hb _).setNew hb _
    · exact (((((Kx.refl _ w).alloc _).trans hk3).setNew (by simp) _).setNew (by simp) _).setNew (by simp) _
  cases z2
  · go_wp2_with fail
    refine (need_any b x1 x2 _ _ (hr.drewN _)).mono ?_
    rintro e w3 ⟨rfl, hr2, hk2⟩
    have hk3 := (hk.drewN _).trans hk2
    obtain ⟨n0, g0⟩ := new_cell hk3 hb 0
    obtain ⟨n1, g1⟩ := new_cell hk3 hb 1
    obtain ⟨n2, g2⟩ := new_cell hk3 hb 2
    go_wp2
    refine bodyPost_ret (v := .agg #[.string ⟨y0.toArray⟩, .string ⟨z0.toArray⟩, .int .i64 v0]) (by simp [results, Tryz.results223, go_sem, n0, n1, n2]) rfl ⟨by rw [HV.out], ?_, ?_⟩
    · rw [HE.out, HA.out]
      simp only [Bool.false_and, Bool.and_false]
      exact ((hr2.setNew hb _).setNew hb _).setNew hb _
    · exact (((((Kx.refl _ w).alloc _).trans hk3).setNew (by simp) _).setNew (by simp) _).setNew (by simp) _
  cases v1
  · go_wp2_with fail
    refine (need_any b x1 x2 _ _ (hr.drewN _)).mono ?_
    rintro e w3 ⟨rfl, hr2, hk2⟩
    have hk3 := (hk.drewN _).trans hk2
    obtain ⟨n0, g0⟩ := new_cell hk3 hb 0
    obtain ⟨n1, g1⟩ := new_cell hk3 hb 1
    obtain ⟨n2, g2⟩ := new_cell hk3 hb 2
    go_wp2
    refine bodyPost_ret (v := .agg #[.string ⟨y0.toArray⟩, .string ⟨z0.toArray⟩, .int .i64 v0]) (by simp [results, Tryz.results223, go_sem, n0, n1, n2]) rfl ⟨by rw [HV.out], ?_, ?_⟩
    · rw [HE.out, HA.out]
      simp only [Bool.false_and, Bool.and_false]
      exact ((hr2.setNew hb _).setNew hb _).setNew hb _
    · exact (((((Kx.refl _ w).alloc _).trans hk3).setNew (by simp) _).setNew (by simp) _).setNew (by simp) _
  go_wp2_with fail
  refine (isName_any y0 _ (by omega)).mono ?_
  rintro e w2 ⟨rfl, rfl⟩
  generalize Pu.isName y0 = nm at *
  cases nm
  · go_wp2_with fail
    refine (need_any b x1 x2 _ _ (hr.drewN _)).mono ?_
    rintro e w3 ⟨rfl, hr2, hk2⟩
    have hk3 := (hk.drewN _).trans hk2
    obtain ⟨n0, g0⟩ := new_cell hk3 hb 0
    obtain ⟨n1, g1⟩ := new_cell hk3 hb 1
    obtain ⟨n2, g2⟩ := new_cell hk3 hb 2
    go_wp2
    refine bodyPost_ret (v := .agg #[.string ⟨y0.toArray⟩, .string ⟨z0.toArray⟩, .int .i64 v0]) (by simp [results, Tryz.results223, go_sem, n0, n1, n2]) rfl ⟨by rw [HV.out], ?_, ?_⟩
    · rw [HE.out, HA.out]
      simp only [Bool.false_and, Bool.and_false]
      exact ((hr2.setNew hb _).setNew hb _).setNew hb _
    · exact (((((Kx.refl _ w).alloc _).trans hk3).setNew (by simp) _).setNew (by simp) _).setNew (by simp) _
  go_wp2_with fail
  refine (isMail_any z0 _ (by omega)).mono ?_
  rintro e w2 ⟨rfl, rfl⟩
  generalize Pu.isMail z0 = ml at *
  go_wp2_with fail
  refine (need_any b x1 x2 _ _ (hr.drewN _)).mono ?_
  rintro e w3 ⟨rfl, hr2, hk2⟩
  have hk3 := (hk.drewN _).trans hk2
  obtain ⟨n0, g0⟩ := new_cell hk3 hb 0
  obtain ⟨n1, g1⟩ := new_cell hk3 hb 1
  obtain ⟨n2, g2⟩ := new_cell hk3 hb 2
  go_wp2
  refine bodyPost_ret (v := .agg #[.string ⟨y0.toArray⟩, .string ⟨z0.toArray⟩, .int .i64 v0]) (by simp [results, Tryz.results223, go_sem, n0, n1, n2]) rfl ⟨by rw [HV.out], ?_, ?_⟩
  · rw [HE.out, HA.out]
    simp only [Bool.true_and]
    exact ((hr2.setNew hb _).setNew hb _).setNew hb _
  · exact (((((Kx.refl _ w).alloc _).trans hk3).setNew (by simp) _).setNew (by simp) _).setNew (by simp) _

theorem ext_drop (t : List UInt8) (k : Nat) : (⟨t.toArray⟩ : ByteArray).extract k t.length = ⟨(t.drop k).toArray⟩ := by
  have h : ((⟨t.toArray⟩ : ByteArray).extract k t.length).data = (t.drop k).toArray := by
    rw [ByteArray.data_extract]; simp [List.take_of_length_le]
  exact congrArg ByteArray.mk h

theorem ext_take (t : List UInt8) (k : Nat) : (⟨t.toArray⟩ : ByteArray).extract 0 k = ⟨(t.take k).toArray⟩ := by
  have h : ((⟨t.toArray⟩ : ByteArray).extract 0 k).data = (t.take k).toArray := by
    rw [ByteArray.data_extract]; simp
  exact congrArg ByteArray.mk h

theorem get_opt (t : List UInt8) (k : Nat) (h : k < t.length) : t[k]? = some t[k] := List.getElem?_eq_getElem h

set_option maxHeartbeats 600000 in
theorem data_any (b : Nat) (s : List UInt8) (bad : Bool) (w : World) (h : Rd b s bad w) :
    Calls Tryz.prog 217 #[.pointer (some ⟨b, 0, none⟩)] w fun e w' => e = .returned (.string ⟨(Pu.data s bad).1.toArray⟩) ∧ Rd b (Pu.data s bad).2.1 (Pu.data s bad).2.2 w' ∧ Kx (Only b) w w' := by
  have hl := (Pu.after_len Pu.sData s bad).1
  have hs := h.short
  go_enter Tryz.func217, Tryz.ntmps217
  go_wp2_with fail
  refine (after_any b s bad Pu.sData _ h).mono ?_
  rintro e w1 ⟨rfl, hr, hk⟩
  have HE : Hid (Pu.data s bad = Pu.bytes (Pu.number (Pu.after Pu.sData s bad).1 0 200).1
    (Pu.need (Pu.number (Pu.after Pu.sData s bad).1 0 200).2 (Pu.after Pu.sData s bad).2.1 (Pu.after Pu.sData s bad).2.2).1
    (Pu.need (Pu.number (Pu.after Pu.sData s bad).1 0 200).2 (Pu.after Pu.sData s bad).2.1 (Pu.after Pu.sData s bad).2.2).2) := rfl
  generalize Pu.after Pu.sData s bad = x at *
  obtain ⟨x0, x1, x2⟩ := x
  have hnb := Pu.number_bounds x0
  go_wp2_with fail
  refine (number_any x0 0 200 _ (by omega)).mono ?_
  rintro e w2 ⟨rfl, rfl⟩
  generalize Pu.number x0 0 200 = v at *
  obtain ⟨v0, v1⟩ := v
  go_wp2_with fail
  refine (need_any b x1 x2 _ _ hr).mono ?_
  rintro e w3 ⟨rfl, hr2, hk2⟩
  generalize Pu.need v1 x1 x2 = y at *
  obtain ⟨y0, y1⟩ := y
  have hr3 := hr2
  obtain ⟨c0, c1, f0, f1, pos, ⟨m, hm⟩, short⟩ := hr2
  obtain ⟨b1, b2⟩ := hnb
  by_cases hlen : (y0.length : Int) ≤ v0
  · have HB : Hid (Pu.bytes v0 y0 y1 = ([], [], true)) := by
      show _ = _
      unfold Pu.bytes; rw [if_neg]; rw [List.getElem?_eq_none (by omega)]; simp
    go_wp2_with fail
    refine (fail_any b y0 y1 _ hr3).mono ?_
    rintro e w4 ⟨rfl, hr4, hk4⟩
    go_wp2
    go_ret
    exact ⟨by rw [HE.out, HB.out]; rfl, by rw [HE.out, HB.out]; exact hr4, (hk.trans hk2).trans hk4⟩
  · obtain ⟨k, rfl⟩ := Int.eq_ofNat_of_zero_le b1
    have hk0 : k < y0.length := by omega
    have hgo := get_opt y0 k hk0
    by_cases h10 : y0[k] = 10
    · have HB : Hid (Pu.bytes (k : Int) y0 y1 = (y0.take k, y0.drop (k + 1), y1)) := by
        show _ = _
        unfold Pu.bytes; rw [Int.toNat_natCast, hgo, h10]; simp
      have hb10 : (((⟨y0.toArray⟩ : ByteArray)[k].toNat : Int) != 10) = false := by
        show ((y0[k].toNat : Int) != 10) = false; rw [h10]; rfl
      clear hgo h10
      go_wp2
      go_ret
      refine ⟨by rw [HE.out, HB.out]; exact congrArg (fun x => Ending.returned (.string x)) (ext_take y0 k), ?_, ?_⟩
      · rw [HE.out, HB.out, ext_drop]
        exact hr3.set _ (by simp; omega)
      · exact (hk.trans hk2).only_set _
    · have HB : Hid (Pu.bytes (k : Int) y0 y1 = ([], [], true)) := by
        show _ = _
        unfold Pu.bytes; rw [Int.toNat_natCast, hgo, if_neg (by simpa using h10)]
      have hb10 : (((⟨y0.toArray⟩ : ByteArray)[k].toNat : Int) != 10) = true := by
        have h2 : ((y0[k].toNat : Int) == ((10 : UInt8).toNat : Int)) = false := by rw [u8_int_eq]; simpa using h10
        show (!((y0[k].toNat : Int) == ((10 : UInt8).toNat : Int))) = true
        rw [h2]; rfl
      clear hgo h10
      go_wp2_with fail
      refine (fail_any b y0 y1 _ hr3).mono ?_
      rintro e w4 ⟨rfl, hr4, hk4⟩
      go_wp2
      go_ret
      exact ⟨by rw [HE.out, HB.out]; rfl, by rw [HE.out, HB.out]; exact hr4, (hk.trans hk2).trans hk4⟩

set_option maxHeartbeats 400000 in
theorem mode_any (b : Nat) (s : List UInt8) (bad : Bool) (f : List UInt8) (w : World) (h : Rd b s bad w) :
    Calls Tryz.prog 339 #[.pointer (some ⟨b, 0, none⟩), .string ⟨f.toArray⟩] w fun e w' => e = .returned (.string ⟨f.toArray⟩) ∧ Rd b (Pu.need (f == Pu.s644 || f == Pu.s755) s bad).1 (Pu.need (f == Pu.s644 || f == Pu.s755) s bad).2 w' ∧ Kx (Only b) w w' := by
  have HB : Hid ((f == Pu.s644 || f == Pu.s755) = (f == [49, 48, 48, 54, 52, 52] || f == [49, 48, 48, 55, 53, 53])) := rfl
  rw [HB.out]
  by_cases h1 : f = [49, 48, 48, 54, 52, 52]
  · subst h1
    go_enter Tryz.func339, Tryz.ntmps339
    go_wp2_with fail
    refine (need_any b s bad true _ h).mono ?_
    rintro e w3 ⟨rfl, hr2, hk2⟩
    go_wp2
    go_ret
    exact ⟨rfl, hr2, hk2⟩
  · have hb : (f == [49, 48, 48, 54, 52, 52]) = false := by simpa using h1
    clear h1
    rw [hb, Bool.false_or]
    go_enter Tryz.func339, Tryz.ntmps339
    go_wp2_with fail
    refine (need_any b s bad _ _ h).mono ?_
    rintro e w3 ⟨rfl, hr2, hk2⟩
    go_wp2
    go_ret
    exact ⟨rfl, hr2, hk2⟩

set_option maxHeartbeats 400000 in
theorem path_any (b : Nat) (s : List UInt8) (bad : Bool) (f : List UInt8) (w : World) (h : Rd b s bad w) (hf : f.length ≤ 8000) :
    Calls Tryz.prog 340 #[.pointer (some ⟨b, 0, none⟩), .string ⟨f.toArray⟩] w fun e w' => e = .returned (.string ⟨f.toArray⟩) ∧ Rd b (Pu.need (Pu.isPath f) s bad).1 (Pu.need (Pu.isPath f) s bad).2 w' ∧ Kx (Only b) w w' := by
  obtain ⟨m, hm⟩ := h.max
  go_enter Tryz.func340, Tryz.ntmps340
  go_wp2_with fail
  refine (isPath_any f m _ hf hm).mono ?_
  rintro e w1 ⟨rfl, hk⟩
  have hr := h.kept hk id id
  go_wp2_with fail
  refine (need_any b s bad _ _ hr).mono ?_
  rintro e w3 ⟨rfl, hr2, hk2⟩
  go_wp2
  go_ret
  exact ⟨rfl, hr2, (hk.mono (fun _ _ hh => hh.elim)).trans hk2⟩

set_option maxHeartbeats 400000 in
theorem content_any (b : Nat) (s : List UInt8) (bad : Bool) (f : List UInt8) (w : World) (h : Rd b s bad w) (hf : f.length ≤ 8000) :
    Calls Tryz.prog 341 #[.pointer (some ⟨b, 0, none⟩), .string ⟨f.toArray⟩] w fun e w' => e = .returned (.tuple #[.int .i64 (Pu.contentV f s bad).1, .string ⟨(Pu.contentV f s bad).2.toArray⟩]) ∧ Rd b (Pu.content f s bad).1 (Pu.content f s bad).2 w' ∧ Kx (Only b) w w' := by
  by_cases h1 : f = [105, 110, 108, 105, 110, 101]
  · subst h1
    go_enter Tryz.func341, Tryz.ntmps341
    go_wp2_with fail
    refine (data_any b s bad _ h).mono ?_
    rintro e w3 ⟨rfl, hr2, hk2⟩
    go_wp2
    go_ret2
    exact ⟨rfl, hr2, hk2⟩
  · have hb : (f == [105, 110, 108, 105, 110, 101]) = false := by simpa using h1
    have HE : Hid (Pu.content f s bad = Pu.need (Pu.mark f).2 s bad) := by
      show _ = _
      unfold Pu.content Pu.sInline; rw [hb]; simp
    have HV : Hid (Pu.contentV f s bad = ((Pu.mark f).1, [])) := by
      show _ = _
      unfold Pu.contentV Pu.sInline; rw [hb]; simp
    clear h1
    go_enter Tryz.func341, Tryz.ntmps341
    go_wp2_with fail
    refine (mark_any f _ hf).mono ?_
    rintro e w1 ⟨rfl, rfl⟩
    go_wp2_with fail
    refine (need_any b s bad _ _ h).mono ?_
    rintro e w3 ⟨rfl, hr2, hk2⟩
    go_wp2
    go_ret2
    exact ⟨by rw [HV.out]; rfl, by rw [HE.out]; exact hr2, hk2⟩

end Go.Proofs.YtepgoppgblfjbaaGreatDoor
