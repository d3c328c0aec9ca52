/- The document's reader: its functions on texts: begins, number10, of, isName, isMail, isRef. -/
import Derived.Test.YtepgoppgblfjbaaGreatDoorBase
import Derived.Test.YtepgoppgblfjbaaGreatDoorBlock
import Derived.Test.YtepgoppgblfjbaaGreatDoorRefPure
namespace Go.Proofs.YtepgoppgblfjbaaGreatDoor
open Go.RowKit
namespace Rf

theorem ext_take (t : List UInt8) (k : Nat) : (⟨t.toArray⟩ : ByteArray).extract 0 k = ⟨(t.take k).toArray⟩ := by
  have h : ((⟨t.toArray⟩ : ByteArray).extract 0 k).data = (t.take k).toArray := by
    rw [ByteArray.data_extract]; simp
  exact congrArg ByteArray.mk h
theorem ext_mid (t : List UInt8) (a b : Nat) : (⟨t.toArray⟩ : ByteArray).extract a b = ⟨((t.drop a).take (b - a)).toArray⟩ := by
  have h : ((⟨t.toArray⟩ : ByteArray).extract a b).data = ((t.drop a).take (b - a)).toArray := by
    rw [ByteArray.data_extract]; simp
  exact congrArg ByteArray.mk h
theorem ret_bool {a b : Bool} (h : a = b) : Ending.returned (.bool a) = .returned (.bool b) := by rw [h]
theorem ret_int {k : IntKind} {a b : Int} (h : a = b) : Ending.returned (.int k a) = .returned (.int k b) := by rw [h]
theorem u8_int_eq (a b : UInt8) : ((a.toNat : Int) == (b.toNat : Int)) = (a == b) := by
  rw [Bool.eq_iff_iff]; simp [← UInt8.toNat_inj]; omega
theorem take_all_succ {α : Type} (t : List α) (p : α → Bool) (k : Nat) (h : k < t.length) : (t.take (k + 1)).all p = ((t.take k).all p && p t[k]) := by
  rw [List.take_succ_eq_append_getElem h]; simp only [List.all_append, List.all_cons, List.all_nil, Bool.and_true]

set_option maxHeartbeats 400000 in
theorem begins_any (s t : List UInt8) (w : World) :
    Calls Tryz.prog 193 #[.string ⟨s.toArray⟩, .string ⟨t.toArray⟩] w fun e w' => e = .returned (.bool (Lib.hasPrefix s t)) ∧ w' = w := by
  have hext := ext_take s
  have HP : Hid ((decide (t.length ≤ s.length) && (s.take t.length == t)) = Lib.hasPrefix s t) := Lib.hasPrefix_of_take s t
  by_cases h : t.length ≤ s.length
  · have h2 : (t.length : Int) ≤ (s.length : Int) := by omega
    go_enter Tryz.func193, Tryz.ntmps193
    go_wp2
    go_ret
    refine ⟨ret_bool ?_, rfl⟩
    rw [← HP.out, decide_eq_true h, Bool.true_and]
  · have h2 : ¬ (t.length : Int) ≤ (s.length : Int) := by omega
    have h3 : decide ((t.length : Int) ≤ (s.length : Int)) = false := by simpa using h2
    go_enter Tryz.func193, Tryz.ntmps193
    go_wp2
    go_ret
    exact ⟨ret_bool (by rw [← HP.out, decide_eq_false h]; rfl), rfl⟩

theorem isDig_false {c : UInt8} (h : ¬ (48 ≤ (c.toNat : Int) ∧ (c.toNat : Int) ≤ 57)) : Pu.isDig c = false := by
  unfold Pu.isDig
  by_cases h1 : 48 ≤ c.toNat
  · have h2 : ¬ c.toNat ≤ 57 := fun e => h ⟨by omega, by omega⟩
    rw [decide_eq_false h2, Bool.and_false]
  · rw [decide_eq_false h1, Bool.false_and]

set_option maxHeartbeats 1000000 in
theorem number10_any (s : List UInt8) (most : Int) (w : World) (hs : s.length ≤ 8000) :
    Calls Tryz.prog 273 #[.string ⟨s.toArray⟩, .int .i64 most] w fun e w' => e = .returned (.int .i64 (Pu.n10 s most)) ∧ w' = w := by
  by_cases h0 : s = []
  · subst h0
    go_enter Tryz.func273, Tryz.ntmps273
    go_wp2
    go_ret
    exact ⟨rfl, rfl⟩
  have hne : (s == ([] : List UInt8)) = false := by simpa using h0
  have hem : s.isEmpty = false := by simpa using h0
  have hpos : 0 < s.length := List.length_pos_iff.2 h0
  have hz : (0 : Int) < (s.length : Int) := by omega
  by_cases h10 : 10 < s.length
  · have HE : Hid (Pu.n10 s most = -1) := by show _ = _; unfold Pu.n10; rw [if_pos (Or.inr (Or.inl h10))]
    have h11 : (10 : Int) < (s.length : Int) := by omega
    go_enter Tryz.func273, Tryz.ntmps273
    go_wp2
    go_ret
    exact ⟨by rw [HE.out]; rfl, rfl⟩
  have h11 : ¬ (10 : Int) < (s.length : Int) := by omega
  have hhd : s.head? = some s[0] := by rw [List.head?_eq_getElem?, List.getElem?_eq_getElem hpos]
  by_cases h1 : 1 < s.length ∧ s[0] = 48
  · have HE : Hid (Pu.n10 s most = -1) := by show _ = _; unfold Pu.n10; rw [if_pos (Or.inr (Or.inr (Or.inl ⟨h1.1, by rw [hhd, h1.2]⟩)))]
    have h2 : (1 : Int) < (s.length : Int) := by omega
    have hb : (((⟨s.toArray⟩ : ByteArray)[0].toNat : Int) == 48) = true := by
      show ((s[0].toNat : Int) == 48) = true; rw [h1.2]; rfl
    clear h1 hhd
    go_enter Tryz.func273, Tryz.ntmps273
    go_wp2
    go_ret
    exact ⟨by rw [HE.out]; rfl, rfl⟩
  have HE : Hid (Pu.n10 s most = if s.all Pu.isDig = false then -1 else if most < Pu.val s then -1 else Pu.val s) := by
    show _ = _
    unfold Pu.n10
    cases hd : s.all Pu.isDig with
    | false => rw [if_pos (Or.inr (Or.inr (Or.inr rfl))), if_pos rfl]
    | true =>
      have hno : ¬ (s = [] ∨ 10 < s.length ∨ (1 < s.length ∧ s.head? = some 48) ∨ true = false) := by
        rintro (h | h | h | h)
        · exact h0 h
        · exact h10 h
        · exact h1 ⟨h.1, by have := h.2; rw [hhd] at this; exact Option.some.inj this⟩
        · cases h
      have hno2 : ¬ true = false := by simp
      rw [if_neg hno, if_neg hno2]
  have hcase : (¬ (1 : Int) < (s.length : Int)) ∨ ((1 : Int) < (s.length : Int) ∧ (((⟨s.toArray⟩ : ByteArray)[0].toNat : Int) == 48) = false) := by
    by_cases h2 : 1 < s.length
    · right
      refine ⟨by omega, ?_⟩
      have h3 : ((s[0].toNat : Int) == ((48 : UInt8).toNat : Int)) = false := by rw [u8_int_eq]; simpa using fun e => h1 ⟨h2, e⟩
      exact h3
    · left; omega
  clear h1 hhd
  rcases hcase with h2 | ⟨h2, hb⟩
  all_goals
    go_enter Tryz.func273, Tryz.ntmps273
    go_wp2
    go_loop [5, 6] (fun n i => ∃ k : Nat, k ≤ s.length ∧ i = .int .i64 k ∧ n = .int .i64 (Pu.val (s.take k)) ∧ (s.take k).all Pu.isDig = true) (fun _ i => s.length - (intOf i).toNat)
    case atStart => exact ⟨0, Nat.zero_le _, rfl, rfl, rfl⟩
    case round =>
      obtain ⟨k, hk, rfl, rfl, ha⟩ := hrel
      have HA : Hid ((s.take k).all Pu.isDig = true) := ha
      by_cases hlt : k < s.length
      · by_cases hd : 48 ≤ (((⟨s.toArray⟩ : ByteArray)[k].toNat : Nat) : Int) ∧ (((⟨s.toArray⟩ : ByteArray)[k].toNat : Nat) : Int) ≤ 57
        · have hd' : 48 ≤ (s[k].toNat : Int) ∧ (s[k].toNat : Int) ≤ 57 := hd
          obtain ⟨hd1, hd2⟩ := hd
          have hall : (s.take (k + 1)).all Pu.isDig = true := by
            rw [take_all_succ s Pu.isDig k hlt, ha, Bool.true_and]
            unfold Pu.isDig
            rw [decide_eq_true (by omega), decide_eq_true (by omega)]; rfl
          have hv := Pu.val_take (s.take k) (fun j hj => Pu.digs_at ha j hj) k (by simp; omega)
          rw [List.take_take, Nat.min_self] at hv
          have hp := Pu.pow_le k (by omega)
          have hsn := Pu.val_snoc (s.take k) s[k]
          rw [← List.take_succ_eq_append_getElem hlt] at hsn
          have hv1 : 0 ≤ Pu.val (s.take k) := hv.1
          have hv2 : Pu.val (s.take k) ≤ 100000000000000000 := by omega
          have HS : Hid (Pu.val (s.take (k + 1)) = Pu.val (s.take k) * 10 + (((⟨s.toArray⟩ : ByteArray)[k].toNat : Int) - 48)) := hsn
          have HL : Hid ((s.take (k + 1)).all Pu.isDig = true) := hall
          clear hsn hv hp ha hall hd' HE
          generalize Pu.val (s.take k) = v at *
          go_wp2
          go_round
          case rel => exact ⟨k + 1, by omega, by go_num, by rw [HS.out]; go_num, HL.out⟩
          case measure => simp [intOf]; omega
        · have HF : Hid (s.all Pu.isDig = false) := by
            show _ = _
            rw [List.all_eq_false]; exact ⟨s[k], List.getElem_mem hlt, by have hf := isDig_false (c := s[k]) hd; simp [hf]⟩
          have HE2 : Hid (Pu.n10 s most = -1) := by show _ = _; rw [HE.out, if_pos HF.out]
          clear ha HE
          by_cases hd1 : (((⟨s.toArray⟩ : ByteArray)[k].toNat : Nat) : Int) < 48
          · clear hd
            go_wp2
            go_ret
            exact ⟨by rw [HE2.out]; rfl, rfl⟩
          · have hd2 : (57 : Int) < (((⟨s.toArray⟩ : ByteArray)[k].toNat : Nat) : Int) := by
              by_cases e : (57 : Int) < (((⟨s.toArray⟩ : ByteArray)[k].toNat : Nat) : Int)
              · exact e
              · exact absurd ⟨by omega, by omega⟩ hd
            clear hd
            go_wp2
            go_ret
            exact ⟨by rw [HE2.out]; rfl, rfl⟩
      · have hkl : k = s.length := by omega
        subst hkl
        rw [List.take_length] at ha HA ⊢
        have HE2 : Hid (Pu.n10 s most = if most < Pu.val s then -1 else Pu.val s) := by show _ = _; rw [HE.out, ha]; rfl
        clear ha HE
        generalize Pu.val s = v at *
        by_cases hm : most < v
        · have HE3 : Hid (Pu.n10 s most = -1) := by show _ = _; rw [HE2.out, if_pos hm]
          clear HE2
          go_wp2
          go_ret
          exact ⟨by rw [HE3.out]; rfl, rfl⟩
        · have HE3 : Hid (Pu.n10 s most = v) := by show _ = _; rw [HE2.out, if_neg hm]
          clear HE2
          go_wp2
          go_ret
          exact ⟨by rw [HE3.out]; rfl, rfl⟩

/-- The letters and digits. -/
def base (great : Bool) (n : Nat) : Bool := (decide (97 ≤ n) && decide (n ≤ 122)) || (decide (48 ≤ n) && decide (n ≤ 57)) || (great && decide (65 ≤ n) && decide (n ≤ 90))

theorem cls_base (great : Bool) (others : List UInt8) (c : UInt8) : Pu.cls great others c = (base great c.toNat || others.contains c) := rfl

theorem contains_succ (t : List UInt8) (c : UInt8) (k : Nat) (h : k < t.length) : (t.take (k + 1)).contains c = ((t.take k).contains c || c == t[k]) := by
  rw [List.take_succ_eq_append_getElem h, Bool.eq_iff_iff]
  simp only [List.contains_iff_mem, List.mem_append, List.mem_singleton, Bool.or_eq_true, beq_iff_eq]

set_option maxHeartbeats 4000000 in
set_option maxRecDepth 100000 in
theorem of_any (s : List UInt8) (most : Int) (great : Bool) (others : List UInt8) (w : World) (hs : s.length ≤ 8000) (ho : others.length ≤ 8000) :
    Calls Tryz.prog 283 #[.string ⟨s.toArray⟩, .int .i64 most, .bool great, .string ⟨others.toArray⟩] w fun e w' => e = .returned (.bool (Pu.ofR s most great others)) ∧ w' = w := by
  obtain ⟨cl, HCL⟩ : ∃ cl, Hid (Pu.cls great others = cl) := ⟨_, rfl⟩
  go_enter Tryz.func283, Tryz.ntmps283
  go_wp2
  go_loop [9] (fun i => ∃ k : Nat, k ≤ s.length ∧ i = .int .i64 k ∧ (s.take k).all cl = true) (fun i => s.length - (intOf i).toNat)
  case atStart => exact ⟨0, Nat.zero_le _, rfl, rfl⟩
  case round =>
    obtain ⟨k, hk, rfl, ha⟩ := hrel
    have HA : Hid ((s.take k).all cl = true) := ha
    clear ha
    by_cases hlt : k < s.length
    · have hsn := take_all_succ s cl k hlt
      rw [HA.out, Bool.true_and] at hsn
      have HSN : Hid ((s.take (k + 1)).all cl = cl s[k]) := hsn
      clear hsn
      obtain ⟨c, hc⟩ : ∃ c, s[k] = c := ⟨_, rfl⟩
      have HC : Hid (s[k] = c) := hc
      have hcb : (⟨s.toArray⟩ : ByteArray)[k] = c := hc
      clear hc
      have h255 := UInt8.toNat_lt c
      have hrange : ∃ bb, base great c.toNat = bb ∧ ((bb = false ∧ (c.toNat : Int) < 48) ∨ (bb = true ∧ 48 ≤ (c.toNat : Int) ∧ (c.toNat : Int) ≤ 57) ∨ (bb = false ∧ 57 < (c.toNat : Int) ∧ (c.toNat : Int) < 65) ∨ (bb = great ∧ 65 ≤ (c.toNat : Int) ∧ (c.toNat : Int) ≤ 90) ∨ (bb = false ∧ 90 < (c.toNat : Int) ∧ (c.toNat : Int) < 97) ∨ (bb = true ∧ 97 ≤ (c.toNat : Int) ∧ (c.toNat : Int) ≤ 122) ∨ (bb = false ∧ 122 < (c.toNat : Int))) := by
        refine ⟨_, rfl, ?_⟩
        unfold base
        by_cases h1 : c.toNat < 48
        · left; refine ⟨?_, by omega⟩; simp; omega
        by_cases h2 : c.toNat ≤ 57
        · right; left; refine ⟨?_, by omega, by omega⟩; simp; omega
        by_cases h3 : c.toNat < 65
        · right; right; left; refine ⟨?_, by omega, by omega⟩; simp; omega
        by_cases h4 : c.toNat ≤ 90
        · right; right; right; left; refine ⟨?_, by omega, by omega⟩
          have g1 : decide (97 ≤ c.toNat) = false := decide_eq_false (by omega)
          have g2 : decide (c.toNat ≤ 57) = false := decide_eq_false (by omega)
          have g3 : decide (65 ≤ c.toNat) = true := decide_eq_true (by omega)
          have g4 : decide (c.toNat ≤ 90) = true := decide_eq_true (by omega)
          rw [g1, g2, g3, g4]; simp
        by_cases h5 : c.toNat < 97
        · right; right; right; right; left; refine ⟨?_, by omega, by omega⟩; simp; omega
        by_cases h6 : c.toNat ≤ 122
        · right; right; right; right; right; left; refine ⟨?_, by omega, by omega⟩; simp; omega
        · right; right; right; right; right; right; refine ⟨?_, by omega⟩; simp; omega
      obtain ⟨bb, hbb, hr⟩ := hrange
      have HBB : Hid (cl s[k] = (bb || others.contains c)) := by show _ = _; rw [← HCL.out, HC.out, cls_base, hbb]
      clear hbb
      have hcases : ∃ b0 : Bool, Hid (bb = b0) ∧ ((b0 = false ∧ (c.toNat : Int) < 48) ∨ (b0 = true ∧ 48 ≤ (c.toNat : Int) ∧ (c.toNat : Int) ≤ 57) ∨ (b0 = false ∧ 57 < (c.toNat : Int) ∧ (c.toNat : Int) < 65) ∨ (b0 = great ∧ 65 ≤ (c.toNat : Int) ∧ (c.toNat : Int) ≤ 90) ∨ (b0 = false ∧ 90 < (c.toNat : Int) ∧ (c.toNat : Int) < 97) ∨ (b0 = true ∧ 97 ≤ (c.toNat : Int) ∧ (c.toNat : Int) ≤ 122) ∨ (b0 = false ∧ 122 < (c.toNat : Int))) := ⟨bb, rfl, hr⟩
      clear hr
      obtain ⟨b0, HB0, hr⟩ := hcases
      cases great
      all_goals
        rcases hr with ⟨rfl, r1⟩ | ⟨rfl, r1, r2⟩ | ⟨rfl, r1, r2⟩ | ⟨rfl, r1, r2⟩ | ⟨rfl, r1, r2⟩ | ⟨rfl, r1, r2⟩ | ⟨rfl, r1⟩
      all_goals
        go_wp2
        go_loop [11, 12] (fun okv jv => ∃ j : Nat, j ≤ others.length ∧ jv = .int .i64 j ∧ okv = .bool (bb || (others.take j).contains c)) (fun _ jv => others.length - (intOf jv).toNat)
        case atStart => exact ⟨0, Nat.zero_le _, rfl, by rw [HB0.out]; first | rfl | exact congrArg Value.bool (by rw [Bool.eq_iff_iff]; simp; omega)⟩
        case round =>
          obtain ⟨j, hj, rfl, rfl⟩ := hrel
          by_cases hjl : j < others.length
          · have HJ : Hid ((bb || (others.take (j + 1)).contains c) = ((bb || (others.take j).contains c) || c == others[j])) := by
              show _ = _
              rw [contains_succ others c j hjl, Bool.or_assoc]
            have hcj : (((c.toNat : Nat) : Int) == (((⟨others.toArray⟩ : ByteArray)[j].toNat : Nat) : Int)) = (c == others[j]) := u8_int_eq c others[j]
            generalize (bb || (others.take j).contains c) = ov at *
            cases ov
            · go_wp2
              go_round
              case rel => exact ⟨j + 1, by omega, by go_num, by rw [HJ.out]; simp⟩
              case measure => simp [intOf]; omega
            · go_wp2
              go_round
              case rel => exact ⟨j + 1, by omega, by go_num, by rw [HJ.out]; rfl⟩
              case measure => simp [intOf]; omega
          · have HJ : Hid (cl s[k] = (bb || (others.take j).contains c)) := by
              show _ = _
              rw [HBB.out, List.take_of_length_le (by omega)]
            generalize (bb || (others.take j).contains c) = ov at *
            cases ov
            · have HF : Hid (s.all cl = false) := by
                show _ = _
                rw [List.all_eq_false]; exact ⟨s[k], List.getElem_mem hlt, by rw [HJ.out]; simp⟩
              go_wp2
              go_ret
              exact ⟨by unfold Pu.ofR; rw [HCL.out, HF.out]; rfl, rfl⟩
            · go_wp2
              go_round
              case rel => exact ⟨k + 1, by omega, by go_num, by rw [HSN.out, HJ.out]⟩
              case measure => simp [intOf]; omega
    · have HA2 : Hid (s.all cl = true) := by show _ = _; rw [← HA.out, List.take_of_length_le (by omega)]
      have HE : Hid (Pu.ofR s most great others = (decide (1 ≤ s.length) && decide ((s.length : Int) ≤ most))) := by show _ = _; unfold Pu.ofR; rw [HCL.out, HA2.out, Bool.true_and]
      by_cases h1 : (1 : Int) ≤ (s.length : Int)
      · go_wp2
        go_ret
        refine ⟨ret_bool ?_, rfl⟩
        rw [HE.out, decide_eq_true (by omega : 1 ≤ s.length), Bool.true_and]
      · have h2 : decide ((1 : Int) ≤ (s.length : Int)) = false := by simpa using h1
        go_wp2
        go_ret
        refine ⟨ret_bool ?_, rfl⟩
        rw [HE.out, decide_eq_false (by omega : ¬ 1 ≤ s.length), Bool.false_and]

end Rf
end Go.Proofs.YtepgoppgblfjbaaGreatDoor
