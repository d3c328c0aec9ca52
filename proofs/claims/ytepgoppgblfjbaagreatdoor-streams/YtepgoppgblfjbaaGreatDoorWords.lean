/- Package words: which texts are refs, paths, names, mails, marks and numbers. -/
import Derived.Test.YtepgoppgblfjbaaGreatDoorLib1
import Derived.Test.YtepgoppgblfjbaaGreatDoorPure
import Derived.Test.YtepgoppgblfjbaaGreatDoorShelf
namespace Go.Proofs.YtepgoppgblfjbaaGreatDoor
open Go.RowKit

theorem ret_bool {a b : Bool} (h : a = b) : Ending.returned (.bool a) = .returned (.bool b) := by rw [h]

theorem take_all_succ (t : List UInt8) (p : UInt8 → Bool) (k : Nat) (h : k < t.length) : (t.take (k + 1)).all p = ((t.take k).all p && p t[k]) := by
  rw [List.take_succ_eq_append_getElem h]; simp only [List.all_append, List.all_cons, List.all_nil, Bool.and_true]

set_option maxHeartbeats 400000 in
theorem madeOf_any (t set : List UInt8) (most : Int) (w : World) (ht : t.length ≤ 8000) :
    Calls Tryz.prog 186 #[.string ⟨t.toArray⟩, .string ⟨set.toArray⟩, .int .i64 most] w fun e w' => e = .returned (.bool (Pu.madeOf t set most)) ∧ w' = w := by
  by_cases h0 : t = []
  · subst h0
    go_enter Tryz.func186, Tryz.ntmps186
    go_wp2
    go_ret
    exact ⟨rfl, rfl⟩
  have hne : (t == ([] : List UInt8)) = false := by simpa using h0
  have hem : t.isEmpty = false := by simpa using h0
  by_cases h1 : most < (t.length : Int)
  · have HM : Hid (Pu.madeOf t set most = false) := Pu.madeOf_long t set most h1
    go_enter Tryz.func186, Tryz.ntmps186
    go_wp2
    go_ret
    exact ⟨by rw [HM.out]; rfl, rfl⟩
  · have HM : Hid (Pu.madeOf t set most = t.all (fun c => decide (0 ≤ Lib.indexByte set c))) := by
      show _ = _
      unfold Pu.madeOf; rw [hem, decide_eq_true (by omega)]; simp
    go_enter Tryz.func186, Tryz.ntmps186
    go_wp2
    go_loop [18] (fun i => ∃ k : Nat, k ≤ t.length ∧ i = .int .i64 k ∧ (t.take k).all (fun c => decide (0 ≤ Lib.indexByte set c)) = true) (fun i => t.length - (intOf i).toNat)
    case atStart => exact ⟨0, Nat.zero_le _, rfl, rfl⟩
    case round =>
      obtain ⟨k, hk, rfl, ha⟩ := hrel
      have HA : Hid ((t.take k).all (fun c => decide (0 ≤ Lib.indexByte set c)) = true) := ha
      clear ha
      by_cases hlt : k < t.length
      · have hsn := take_all_succ t (fun c => decide (0 ≤ Lib.indexByte set c)) k hlt
        by_cases hx : Lib.indexByte set t[k] < 0
        · have HF : Hid (t.all (fun c => decide (0 ≤ Lib.indexByte set c)) = false) := by
            show _ = _
            rw [List.all_eq_false]; exact ⟨t[k], List.getElem_mem hlt, by simp; omega⟩
          clear hsn
          go_wp2_with fail
          refine (indexByte_any set t[k] _).mono ?_
          rintro e w1 ⟨rfl, rfl⟩
          go_wp2
          go_ret
          exact ⟨by rw [HM.out, HF.out]; rfl, rfl⟩
        · have HS : Hid ((t.take (k + 1)).all (fun c => decide (0 ≤ Lib.indexByte set c)) = true) := by
            show _ = _
            rw [hsn, HA.out]; simp; omega
          clear hsn
          go_wp2_with fail
          refine (indexByte_any set t[k] _).mono ?_
          rintro e w1 ⟨rfl, rfl⟩
          go_wp2
          go_round
          case rel => exact ⟨k + 1, by omega, by go_num, HS.out⟩
          case measure => simp [intOf]; omega
      · go_wp2
        go_ret
        refine ⟨ret_bool ?_, rfl⟩
        rw [HM.out, ← HA.out, List.take_of_length_le (by omega)]

theorem u8_int_eq (a b : UInt8) : ((a.toNat : Int) == (b.toNat : Int)) = (a == b) := by
  rw [Bool.eq_iff_iff]; simp [← UInt8.toNat_inj]; omega

set_option maxHeartbeats 400000 in
theorem hasAtEnds_any (t : List UInt8) (c : Int) (u : UInt8) (hc : (u.toNat : Int) = c) (w : World) (h0 : 0 < t.length) (ht : t.length ≤ 8000) :
    Calls Tryz.prog 263 #[.string ⟨t.toArray⟩, .int .u8 c] w fun e w' => e = .returned (.bool (Pu.hasAtEnds t u)) ∧ w' = w := by
  subst hc
  have HE : Hid (Pu.hasAtEnds t u = (t[0] == u || t[t.length - 1] == u)) := by
    show _ = _
    unfold Pu.hasAtEnds
    rw [List.head?_eq_getElem?, List.getLast?_eq_getElem?, List.getElem?_eq_getElem h0, List.getElem?_eq_getElem (by omega)]
    rfl
  have hz : (0 : Int) < (t.length : Int) := by omega
  go_enter Tryz.func263, Tryz.ntmps263
  go_wp2
  · rename_i h1
    go_ret
    refine ⟨ret_bool ?_, rfl⟩
    have h2 : t[0] = u := UInt8.toNat_inj.1 (Int.ofNat_inj.1 h1)
    rw [HE.out, h2]; simp
  · go_ret
    refine ⟨ret_bool ?_, rfl⟩
    rw [HE.out, ← u8_int_eq, ← u8_int_eq]; rfl

theorem madeOf_pos {t set : List UInt8} {most : Int} (h : Pu.madeOf t set most = true) : 0 < t.length ∧ (t.length : Int) ≤ most := by
  unfold Pu.madeOf at h
  simp only [Bool.and_eq_true, Bool.not_eq_true', decide_eq_true_eq] at h
  refine ⟨?_, h.1.2⟩
  cases t with
  | nil => simp at h
  | cons a r => simp

theorem contains_any (t : List UInt8) (sub : List UInt8) (m : Int) (w : World) (hs : t.length ≤ 8000) (hm : w.cell? ⟨1, 0, none⟩ = some (.int .i64 m)) :
    Calls Tryz.prog 337 #[.string ⟨t.toArray⟩, .string ⟨sub.toArray⟩] w fun e w' => e = .returned (.bool (Lib.contains t sub)) ∧ w' = w :=
  Tryz.strings_Contains _ _ m w (by simp [ByteArray.size]; omega) hm

set_option maxHeartbeats 400000 in
theorem isRef_any (t : List UInt8) (m : Int) (w : World) (ht : t.length ≤ 8000) (hm : w.cell? ⟨1, 0, none⟩ = some (.int .i64 m)) :
    Calls Tryz.prog 292 #[.string ⟨t.toArray⟩] w fun e w' => e = .returned (.bool (Pu.isRef t)) ∧ w' = w := by
  go_enter Tryz.func292, Tryz.ntmps292
  go_wp2_with fail
  refine (madeOf_any t Pu.refSet 20 _ ht).mono ?_
  rintro e w1 ⟨rfl, rfl⟩
  cases hc : Pu.madeOf t Pu.refSet 20
  · have HE : Hid (Pu.isRef t = false) := by show _ = _; simp [Pu.isRef, hc]
    clear hc
    go_wp2
    go_ret
    exact ⟨by rw [HE.out]; rfl, rfl⟩
  · have hl := (madeOf_pos hc).1
    have HE : Hid (Pu.isRef t = (!Pu.hasAtEnds t 47 && !Lib.contains t [47, 47])) := by show _ = _; simp [Pu.isRef, hc]
    clear hc
    go_wp2_with fail
    refine (hasAtEnds_any t 47 47 rfl _ hl ht).mono ?_
    rintro e w1 ⟨rfl, rfl⟩
    generalize Pu.hasAtEnds t 47 = x at *
    cases x
    · go_wp2_with fail
      refine (contains_any t [47, 47] m _ ht hm).mono ?_
      rintro e w1 ⟨rfl, rfl⟩
      go_wp2
      go_ret
      exact ⟨ret_bool (by rw [HE.out]; simp), rfl⟩
    · go_wp2
      go_ret
      exact ⟨by rw [HE.out]; rfl, rfl⟩

set_option maxHeartbeats 400000 in
theorem isName_any (t : List UInt8) (w : World) (ht : t.length ≤ 8000) :
    Calls Tryz.prog 189 #[.string ⟨t.toArray⟩] w fun e w' => e = .returned (.bool (Pu.isName t)) ∧ w' = w := by
  go_enter Tryz.func189, Tryz.ntmps189
  go_wp2_with fail
  refine (madeOf_any t Pu.nameSet 20 _ ht).mono ?_
  rintro e w1 ⟨rfl, rfl⟩
  cases hc : Pu.madeOf t Pu.nameSet 20
  · have HE : Hid (Pu.isName t = false) := by show _ = _; simp [Pu.isName, hc]
    clear hc
    go_wp2
    go_ret
    exact ⟨by rw [HE.out]; rfl, rfl⟩
  · have hl := (madeOf_pos hc).1
    have HE : Hid (Pu.isName t = !Pu.hasAtEnds t 32) := by show _ = _; simp [Pu.isName, hc]
    clear hc
    go_wp2_with fail
    refine (hasAtEnds_any t 32 32 rfl _ hl ht).mono ?_
    rintro e w1 ⟨rfl, rfl⟩
    go_wp2
    go_ret
    exact ⟨ret_bool (by rw [HE.out]), rfl⟩

set_option maxHeartbeats 400000 in
theorem isMail_any (t : List UInt8) (w : World) (ht : t.length ≤ 8000) :
    Calls Tryz.prog 188 #[.string ⟨t.toArray⟩] w fun e w' => e = .returned (.bool (Pu.isMail t)) ∧ w' = w := by
  go_enter Tryz.func188, Tryz.ntmps188
  go_wp2_with fail
  refine (madeOf_any t Pu.mailSet 20 _ ht).mono ?_
  rintro e w1 ⟨rfl, rfl⟩
  go_wp2
  go_ret
  exact ⟨rfl, rfl⟩

set_option maxHeartbeats 400000 in
theorem isPart_any (t : List UInt8) (w : World) (ht : t.length ≤ 8000) :
    Calls Tryz.prog 262 #[.string ⟨t.toArray⟩] w fun e w' => e = .returned (.bool (Pu.isPart t)) ∧ w' = w := by
  go_enter Tryz.func262, Tryz.ntmps262
  go_wp2_with fail
  refine (madeOf_any t Pu.partSet 12 _ ht).mono ?_
  rintro e w1 ⟨rfl, rfl⟩
  have HE : Hid (Pu.isPart t = (Pu.madeOf t Pu.partSet 12 && t != [46] && t != [46, 46])) := rfl
  generalize Pu.madeOf t Pu.partSet 12 = x at *
  cases x
  · go_wp2
    go_ret
    exact ⟨by rw [HE.out]; rfl, rfl⟩
  · go_wp2
    · rename_i h1
      go_ret
      exact ⟨ret_bool (by rw [HE.out, h1]; rfl), rfl⟩
    · go_ret
      exact ⟨ret_bool (by rw [HE.out]; rfl), rfl⟩

set_option maxHeartbeats 1000000 in
theorem number_any (t : List UInt8) (lo hi : Int) (w : World) (ht : t.length ≤ 8000) :
    Calls Tryz.prog 137 #[.string ⟨t.toArray⟩, .int .i64 lo, .int .i64 hi] w fun e w' => e = .returned (.tuple #[.int .i64 (Pu.number t lo hi).1, .bool (Pu.number t lo hi).2]) ∧ w' = w := by
  go_enter Tryz.func137, Tryz.ntmps137
  go_wp2_with fail
  refine (madeOf_any t Pu.digitSet 18 _ ht).mono ?_
  rintro e w1 ⟨rfl, rfl⟩
  cases hc : Pu.madeOf t Pu.digitSet 18
  · have HE : Hid (Pu.number t lo hi = (0, false)) := by show _ = _; simp [Pu.number, hc]
    clear hc
    go_wp2
    go_ret2
    exact ⟨by rw [HE.out]; rfl, rfl⟩
  · have hl := madeOf_pos hc
    have hd : ∀ k (hk : k < t.length), 48 ≤ t[k].toNat ∧ t[k].toNat ≤ 57 := fun k hk => Pu.digit_of (Pu.madeOf_at hc k hk)
    have HV := Pu.val_take t hd
    have HE : Hid (Pu.number t lo hi = if t.head? == some 48 && decide (1 < t.length) then (0, false) else if Pu.val t < lo ∨ hi < Pu.val t then (0, false) else (Pu.val t, true)) := by show _ = _; simp [Pu.number, hc]
    clear hc
    obtain ⟨hl1, hl2⟩ := hl
    have hz : (0 : Int) < (t.length : Int) := by omega
    have hhd : t.head? = some t[0] := by rw [List.head?_eq_getElem?, List.getElem?_eq_getElem hl1]
    rw [hhd] at HE
    clear hhd
    by_cases h48 : t[0] = 48 ∧ 1 < t.length
    · obtain ⟨h1, h2⟩ := h48
      have HE2 : Hid (Pu.number t lo hi = (0, false)) := by show _ = _; rw [HE.out, h1]; simp [h2]
      have hb : (((⟨t.toArray⟩ : ByteArray)[0].toNat : Int) == 48) = true := by
        show ((t[0].toNat : Int) == 48) = true; rw [h1]; rfl
      have h3 : (1 : Int) < (t.length : Int) := by omega
      clear HE HV h1
      go_wp2
      go_ret2
      exact ⟨by rw [HE2.out]; rfl, rfl⟩
    · have HE2 : Hid (Pu.number t lo hi = if Pu.val t < lo ∨ hi < Pu.val t then (0, false) else (Pu.val t, true)) := by
        show _ = _
        rw [HE.out, if_neg]
        simp only [Bool.and_eq_true, beq_iff_eq, Option.some.injEq, decide_eq_true_eq]; exact h48
      clear HE
      have hcase : ((((⟨t.toArray⟩ : ByteArray)[0].toNat : Int) == 48) = true ∧ ¬ (1 : Int) < (t.length : Int)) ∨ (((⟨t.toArray⟩ : ByteArray)[0].toNat : Int) == 48) = false := by
        by_cases h1 : t[0] = 48
        · left
          refine ⟨?_, fun h => h48 ⟨h1, by omega⟩⟩
          show ((t[0].toNat : Int) == 48) = true; rw [h1]; rfl
        · right
          show ((t[0].toNat : Int) == 48) = false
          have h2 : ((t[0].toNat : Int) == ((48 : UInt8).toNat : Int)) = false := by rw [u8_int_eq]; simpa using h1
          exact h2
      clear h48
      rcases hcase with ⟨hb, h3⟩ | hb
      all_goals
        go_wp2
        go_loop [8, 25] (fun n i => ∃ k : Nat, k ≤ t.length ∧ i = .int .i64 k ∧ n = .int .i64 (Pu.val (t.take k))) (fun _ i => t.length - (intOf i).toNat)
        case atStart => exact ⟨0, Nat.zero_le _, rfl, rfl⟩
        case round =>
          obtain ⟨k, hk, rfl, rfl⟩ := hrel
          by_cases hlt : k < t.length
          · have hv := HV k hk
            have hp := Pu.pow_le k (by omega)
            have hdk := hd k hlt
            have hsn := Pu.val_snoc (t.take k) t[k]
            rw [← List.take_succ_eq_append_getElem hlt] at hsn
            have hv1 : 0 ≤ Pu.val (t.take k) := hv.1
            have hv2 : Pu.val (t.take k) ≤ 100000000000000000 := by omega
            have hd1 : (48 : Int) ≤ ((⟨t.toArray⟩ : ByteArray)[k].toNat : Int) := by show (48 : Int) ≤ (t[k].toNat : Int); omega
            have hd2 : ((⟨t.toArray⟩ : ByteArray)[k].toNat : Int) ≤ 57 := by show (t[k].toNat : Int) ≤ 57; omega
            have HS : Hid (Pu.val (t.take (k + 1)) = Pu.val (t.take k) * 10 + (((⟨t.toArray⟩ : ByteArray)[k].toNat : Int) - 48)) := hsn
            clear hsn hv hp hdk HV hd hb
            generalize Pu.val (t.take k) = v at *
            go_wp2
            go_round
            case rel => exact ⟨k + 1, by omega, by go_num, by rw [HS.out]⟩
            case measure => simp [intOf]; omega
          · have hkl : k = t.length := by omega
            subst hkl
            rw [List.take_length]
            clear HV hd
            generalize Pu.val t = v at *
            by_cases hlo : v < lo
            · have HE3 : Hid (Pu.number t lo hi = (0, false)) := by show _ = _; rw [HE2.out, if_pos (Or.inl hlo)]
              clear HE2
              go_wp2
              go_ret2
              exact ⟨by rw [HE3.out]; rfl, rfl⟩
            · by_cases hhi : hi < v
              · have HE3 : Hid (Pu.number t lo hi = (0, false)) := by show _ = _; rw [HE2.out, if_pos (Or.inr hhi)]
                clear HE2
                go_wp2
                go_ret2
                exact ⟨by rw [HE3.out]; rfl, rfl⟩
              · have HE3 : Hid (Pu.number t lo hi = (v, true)) := by show _ = _; rw [HE2.out, if_neg (by omega)]
                clear HE2
                go_wp2
                go_ret2
                exact ⟨by rw [HE3.out]; rfl, rfl⟩

theorem trim_len (t p : List UInt8) : (Lib.trimPrefix t p).length ≤ t.length := by
  unfold Lib.trimPrefix; split <;> simp

theorem hasPrefix_any (s p : List UInt8) (w : World) :
    Calls Tryz.prog 293 #[.string ⟨s.toArray⟩, .string ⟨p.toArray⟩] w fun e w' => e = .returned (.bool (Lib.hasPrefix s p)) ∧ w' = w :=
  Tryz.strings_HasPrefix _ _ w

theorem split_any (s : List UInt8) (c : UInt8) (m : Int) (w : World) (hs : s.length ≤ 8000) (hm : w.cell? ⟨1, 0, none⟩ = some (.int .i64 m)) :
    Calls Tryz.prog 261 #[.string ⟨s.toArray⟩, .string ⟨#[c]⟩] w fun e w' =>
      e = .returned (.slice (some ⟨w.heap.size, 0, none⟩) (Lib.split s [c]).length (Lib.split s [c]).length) ∧ w' = w.alloc (.cells ((Lib.split s [c]).map (fun x => Value.string ⟨x.toArray⟩)).toArray 9) := by
  have h := Tryz.strings_Split ⟨s.toArray⟩ ⟨#[c]⟩ m w (by simp [ByteArray.size]; omega) hm (by simp [ByteArray.size])
  have h1 := Lib.splitB_data ⟨#[c]⟩ 0 (Lib.countB ⟨s.toArray⟩ ⟨#[c]⟩) ⟨s.toArray⟩
  have h2 := Lib.splitB_all ⟨#[c]⟩ (by simp [ByteArray.size]) 0 (Lib.countB ⟨s.toArray⟩ ⟨#[c]⟩) ⟨s.toArray⟩ rfl
  have e1 : Lib.split s [c] = (Lib.splitB ⟨#[c]⟩ 0 (Lib.countB ⟨s.toArray⟩ ⟨#[c]⟩) ⟨s.toArray⟩).map (·.data.toList) := by rw [h1]; rfl
  rw [e1, List.length_map, h2, List.map_map]
  exact h

set_option maxHeartbeats 400000 in
theorem mark_any (t : List UInt8) (w : World) (ht : t.length ≤ 8000) :
    Calls Tryz.prog 287 #[.string ⟨t.toArray⟩] w fun e w' => e = .returned (.tuple #[.int .i64 (Pu.mark t).1, .bool (Pu.mark t).2]) ∧ w' = w := by
  have hl := trim_len t [58]
  go_enter Tryz.func287, Tryz.ntmps287
  go_wp2_with fail
  refine (cutPrefix_any t [58] _).mono ?_
  rintro e w1 ⟨rfl, rfl⟩
  have HE : Hid (Pu.mark t = if Lib.hasPrefix t [58] then Pu.number (Lib.trimPrefix t [58]) 1 999 else (0, false)) := rfl
  generalize Lib.hasPrefix t [58] = f at *
  generalize Lib.trimPrefix t [58] = x at *
  cases f
  · go_wp2
    go_ret2
    exact ⟨by rw [HE.out]; rfl, rfl⟩
  · go_wp2_with fail
    refine (number_any x 1 999 _ (by omega)).mono ?_
    rintro e w2 ⟨rfl, rfl⟩
    go_wp2
    go_ret2
    exact ⟨by rw [HE.out]; rfl, rfl⟩

end Go.Proofs.YtepgoppgblfjbaaGreatDoor
