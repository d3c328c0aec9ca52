/- The reader's data, mode, path, content. -/
import Derived.Test.YtepgoppgblfjbaaGreatDoorReader
namespace Go.Proofs.YtepgoppgblfjbaaGreatDoor
open Go.RowKit

theorem ext_drop (t : List UInt8) (k : Nat) : (⟨t.toArray⟩ : ByteArray).extract k t.length = ⟨(t.drop k).toArray⟩ := by
  have h : ((⟨t.toArray⟩ : ByteArray).extract k t.length).data = (t.drop k).toArray := by
    rw [ByteArray.data_extract]; simp [List.take_of_length_le]
  exact congrArg ByteArray.mk h

theorem ext_take (t : List UInt8) (k : Nat) : (⟨t.toArray⟩ : ByteArray).extract 0 k = ⟨(t.take k).toArray⟩ := by
  have h : ((⟨t.toArray⟩ : ByteArray).extract 0 k).data = (t.take k).toArray := by
    rw [ByteArray.data_extract]; simp
  exact congrArg ByteArray.mk h

theorem get_opt (t : List UInt8) (k : Nat) (h : k < t.length) : t[k]? = some t[k] := List.getElem?_eq_getElem h

set_option maxHeartbeats 600000 in
theorem data_any (b : Nat) (s : List UInt8) (bad : Bool) (w : World) (h : Rd b s bad w) :
    Calls Tryz.prog 217 #[.pointer (some ⟨b, 0, none⟩)] w fun e w' => e = .returned (.string ⟨(Pu.data s bad).1.toArray⟩) ∧ Rd b (Pu.data s bad).2.1 (Pu.data s bad).2.2 w' ∧ Kx (Only b) w w' := by
  have hl := (Pu.after_len Pu.sData s bad).1
  have hs := h.short
  go_enter Tryz.func217, Tryz.ntmps217
  go_wp2_with fail
  refine (after_any b s bad Pu.sData _ h).mono ?_
  rintro e w1 ⟨rfl, hr, hk⟩
  have HE : Hid (Pu.data s bad = Pu.bytes (Pu.number (Pu.after Pu.sData s bad).1 0 200).1
    (Pu.need (Pu.number (Pu.after Pu.sData s bad).1 0 200).2 (Pu.after Pu.sData s bad).2.1 (Pu.after Pu.sData s bad).2.2).1
    (Pu.need (Pu.number (Pu.after Pu.sData s bad).1 0 200).2 (Pu.after Pu.sData s bad).2.1 (Pu.after Pu.sData s bad).2.2).2) := rfl
  generalize Pu.after Pu.sData s bad = x at *
  obtain ⟨x0, x1, x2⟩ := x
  have hnb := Pu.number_bounds x0
  go_wp2_with fail
  refine (number_any x0 0 200 _ (by omega)).mono ?_
  rintro e w2 ⟨rfl, rfl⟩
  generalize Pu.number x0 0 200 = v at *
  obtain ⟨v0, v1⟩ := v
  go_wp2_with fail
  refine (need_any b x1 x2 _ _ hr).mono ?_
  rintro e w3 ⟨rfl, hr2, hk2⟩
  generalize Pu.need v1 x1 x2 = y at *
  obtain ⟨y0, y1⟩ := y
  have hr3 := hr2
  obtain ⟨c0, c1, f0, f1, pos, ⟨m, hm⟩, short⟩ := hr2
  obtain ⟨b1, b2⟩ := hnb
  by_cases hlen : (y0.length : Int) ≤ v0
  · have HB : Hid (Pu.bytes v0 y0 y1 = ([], [], true)) := by
      show _ = _
      unfold Pu.bytes; rw [if_neg]; rw [List.getElem?_eq_none (by omega)]; simp
    go_wp2_with fail
    refine (fail_any b y0 y1 _ hr3).mono ?_
    rintro e w4 ⟨rfl, hr4, hk4⟩
    go_wp2
    go_ret
    exact ⟨by rw [HE.out, HB.out]; rfl, by rw [HE.out, HB.out]; exact hr4, (hk.trans hk2).trans hk4⟩
  · obtain ⟨k, rfl⟩ := Int.eq_ofNat_of_zero_le b1
    have hk0 : k < y0.length := by omega
    have hgo := get_opt y0 k hk0
    by_cases h10 : y0[k] = 10
    · have HB : Hid (Pu.bytes (k : Int) y0 y1 = (y0.take k, y0.drop (k + 1), y1)) := by
        show _ = _
        unfold Pu.bytes; rw [Int.toNat_natCast, hgo, h10]; simp
      have hb10 : (((⟨y0.toArray⟩ : ByteArray)[k].toNat : Int) != 10) = false := by
        show ((y0[k].toNat : Int) != 10) = false; rw [h10]; rfl
      clear hgo h10
      go_wp2
      go_ret
      refine ⟨by rw [HE.out, HB.out]; exact congrArg (fun x => Ending.returned (.string x)) (ext_take y0 k), ?_, ?_⟩
      · rw [HE.out, HB.out, ext_drop]
        exact hr3.set _ (by simp; omega)
      · exact (hk.trans hk2).only_set _
    · have HB : Hid (Pu.bytes (k : Int) y0 y1 = ([], [], true)) := by
        show _ = _
        unfold Pu.bytes; rw [Int.toNat_natCast, hgo, if_neg (by simpa using h10)]
      have hb10 : (((⟨y0.toArray⟩ : ByteArray)[k].toNat : Int) != 10) = true := by
        have h2 : ((y0[k].toNat : Int) == ((10 : UInt8).toNat : Int)) = false := by rw [u8_int_eq]; simpa using h10
        show (!((y0[k].toNat : Int) == ((10 : UInt8).toNat : Int))) = true
        rw [h2]; rfl
      clear hgo h10
      go_wp2_with fail
      refine (fail_any b y0 y1 _ hr3).mono ?_
      rintro e w4 ⟨rfl, hr4, hk4⟩
      go_wp2
      go_ret
      exact ⟨by rw [HE.out, HB.out]; rfl, by rw [HE.out, HB.out]; exact hr4, (hk.trans hk2).trans hk4⟩

set_option maxHeartbeats 400000 in
theorem mode_any (b : Nat) (s : List UInt8) (bad : Bool) (f : List UInt8) (w : World) (h : Rd b s bad w) :
    Calls Tryz.prog 339 #[.pointer (some ⟨b, 0, none⟩), .string ⟨f.toArray⟩] w fun e w' => e = .returned (.string ⟨f.toArray⟩) ∧ Rd b (Pu.need (f == Pu.s644 || f == Pu.s755) s bad).1 (Pu.need (f == Pu.s644 || f == Pu.s755) s bad).2 w' ∧ Kx (Only b) w w' := by
  have HB : Hid ((f == Pu.s644 || f == Pu.s755) = (f == [49, 48, 48, 54, 52, 52] || f == [49, 48, 48, 55, 53, 53])) := rfl
  rw [HB.out]
  by_cases h1 : f = [49, 48, 48, 54, 52, 52]
  · subst h1
    go_enter Tryz.func339, Tryz.ntmps339
    go_wp2_with fail
    refine (need_any b s bad true _ h).mono ?_
    rintro e w3 ⟨rfl, hr2, hk2⟩
    go_wp2
    go_ret
    exact ⟨rfl, hr2, hk2⟩
  · have hb : (f == [49, 48, 48, 54, 52, 52]) = false := by simpa using h1
    clear h1
    rw [hb, Bool.false_or]
    go_enter Tryz.func339, Tryz.ntmps339
    go_wp2_with fail
    refine (need_any b s bad _ _ h).mono ?_
    rintro e w3 ⟨rfl, hr2, hk2⟩
    go_wp2
    go_ret
    exact ⟨rfl, hr2, hk2⟩

set_option maxHeartbeats 400000 in
theorem path_any (b : Nat) (s : List UInt8) (bad : Bool) (f : List UInt8) (w : World) (h : Rd b s bad w) (hf : f.length ≤ 8000) :
    Calls Tryz.prog 340 #[.pointer (some ⟨b, 0, none⟩), .string ⟨f.toArray⟩] w fun e w' => e = .returned (.string ⟨f.toArray⟩) ∧ Rd b (Pu.need (Pu.isPath f) s bad).1 (Pu.need (Pu.isPath f) s bad).2 w' ∧ Kx (Only b) w w' := by
  obtain ⟨m, hm⟩ := h.max
  go_enter Tryz.func340, Tryz.ntmps340
  go_wp2_with fail
  refine (isPath_any f m _ hf hm).mono ?_
  rintro e w1 ⟨rfl, hk⟩
  have hr := h.kept hk id id
  go_wp2_with fail
  refine (need_any b s bad _ _ hr).mono ?_
  rintro e w3 ⟨rfl, hr2, hk2⟩
  go_wp2
  go_ret
  exact ⟨rfl, hr2, (hk.mono (fun _ _ hh => hh.elim)).trans hk2⟩

set_option maxHeartbeats 400000 in
theorem content_any (b : Nat) (s : List UInt8) (bad : Bool) (f : List UInt8) (w : World) (h : Rd b s bad w) (hf : f.length ≤ 8000) :
    Calls Tryz.prog 341 #[.pointer (some ⟨b, 0, none⟩), .string ⟨f.toArray⟩] w fun e w' => e = .returned (.tuple #[.int .i64 (Pu.contentV f s bad).1, .string ⟨(Pu.contentV f s bad).2.toArray⟩]) ∧ Rd b (Pu.content f s bad).1 (Pu.content f s bad).2 w' ∧ Kx (Only b) w w' := by
  by_cases h1 : f = [105, 110, 108, 105, 110, 101]
  · subst h1
    go_enter Tryz.func341, Tryz.ntmps341
    go_wp2_with fail
    refine (data_any b s bad _ h).mono ?_
    rintro e w3 ⟨rfl, hr2, hk2⟩
    go_wp2
    go_ret2
    exact ⟨rfl, hr2, hk2⟩
  · have hb : (f == [105, 110, 108, 105, 110, 101]) = false := by simpa using h1
    have HE : Hid (Pu.content f s bad = Pu.need (Pu.mark f).2 s bad) := by
      show _ = _
      unfold Pu.content Pu.sInline; rw [hb]; simp
    have HV : Hid (Pu.contentV f s bad = ((Pu.mark f).1, [])) := by
      show _ = _
      unfold Pu.contentV Pu.sInline; rw [hb]; simp
    clear h1
    go_enter Tryz.func341, Tryz.ntmps341
    go_wp2_with fail
    refine (mark_any f _ hf).mono ?_
    rintro e w1 ⟨rfl, rfl⟩
    go_wp2_with fail
    refine (need_any b s bad _ _ h).mono ?_
    rintro e w3 ⟨rfl, hr2, hk2⟩
    go_wp2
    go_ret2
    exact ⟨by rw [HV.out]; rfl, by rw [HE.out]; exact hr2, hk2⟩

end Go.Proofs.YtepgoppgblfjbaaGreatDoor
