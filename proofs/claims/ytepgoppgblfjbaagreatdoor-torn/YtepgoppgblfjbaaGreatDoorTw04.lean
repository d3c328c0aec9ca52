import Derived.Test.YtepgoppgblfjbaaGreatDoorTw03
import Derived.Test.YtepgoppgblfjbaaGreatDoorTw01
import Derived.OwnWalk
/- The reader's data, mode, path, content. -/
namespace Go.Proofs.YtepgoppgblfjbaaGreatDoor
open Go.RowKit

theorem ext_drop (t : List UInt8) (k : Nat) : (⟨t.toArray⟩ : ByteArray).extract k t.length = ⟨(t.drop k).toArray⟩ := by
  have h : ((⟨t.toArray⟩ : ByteArray).extract k t.length).data = (t.drop k).toArray := by
    rw [ByteArray.data_extract]; simp [List.take_of_length_le]
  exact congrArg ByteArray.mk h

theorem ext_take (t : List UInt8) (k : Nat) : (⟨t.toArray⟩ : ByteArray).extract 0 k = ⟨(t.take k).toArray⟩ := by
  have h : ((⟨t.toArray⟩ : ByteArray).extract 0 k).data = (t.take k).toArray := by
    rw [ByteArray.data_extract]; simp
  exact congrArg ByteArray.mk h

theorem get_opt (t : List UInt8) (k : Nat) (h : k < t.length) : t[k]? = some t[k] := List.getElem?_eq_getElem h

set_option maxHeartbeats 600000 in
theorem data_any (b : Nat) (s : List UInt8) (bad : Bool) (w : World) (h : Rd b s bad w) :
    Calls Tryz.prog 217 #[.pointer (some ⟨b, 0, none⟩)] w fun e w' => e = .returned (.string ⟨(Pu.data s bad).1.toArray⟩) ∧ Rd b (Pu.data s bad).2.1 (Pu.data s bad).2.2 w' ∧ Kx (Only b) w w' := by
  have hl := (Pu.after_len Pu.sData s bad).1
  have hs := h.short
  go_enter Tryz.func217, Tryz.ntmps217
  go_wp2_with fail
  refine (after_any b s bad Pu.sData _ h).mono ?_
  rintro e w1 ⟨rfl, hr, hk⟩
  have HE : Hid (Pu.data s bad = Pu.bytes (Pu.number (Pu.after Pu.sData s bad).1 0 200).1
    (Pu.need (Pu.number (Pu.after Pu.sData s bad).1 0 200).2 (Pu.after Pu.sData s bad).2.1 (Pu.after Pu.sData s bad).2.2).1
    (Pu.need (Pu.number (Pu.after Pu.sData s bad).1 0 200).2 (Pu.after Pu.sData s bad).2.1 (Pu.after Pu.sData s bad).2.2).2) := rfl
  generalize Pu.after Pu.sData s bad = x at *
  obtain ⟨x0, x1, x2⟩ := x
  have hnb := Pu.number_bounds x0
  go_wp2_with fail
  refine (number_any x0 0 200 _ (by omega)).mono ?_
  rintro e w2 ⟨rfl, rfl⟩
  generalize Pu.number x0 0 200 = v at *
  obtain ⟨v0, v1⟩ := v
  go_wp2_with fail
  refine (need_any b x1 x2 _ _ hr).mono ?_
  rintro e w3 ⟨rfl, hr2, hk2⟩
  generalize Pu.need v1 x1 x2 = y at *
  obtain ⟨y0, y1⟩ := y
  have hr3 := hr2
  obtain ⟨c0, c1, f0, f1, pos, ⟨m, hm⟩, short⟩ := hr2
  obtain ⟨b1, b2⟩ := hnb
  by_cases hlen : (y0.length : Int) ≤ v0
  · have HB : Hid (Pu.bytes v0 y0 y1 = ([], [], true)) := by
      show _ = _
      unfold Pu.bytes; rw [if_neg]; rw [List.getElem?_eq_none (by omega)]; simp
    go_wp2_with fail
    refine (fail_any b y0 y1 _ hr3).mono ?_
    rintro e w4 ⟨rfl, hr4, hk4⟩
    go_wp2
    go_ret
    exact ⟨by rw [HE.out, HB.out]; rfl, by rw [HE.out, HB.out]; exact hr4, (hk.trans hk2).trans hk4⟩
  · obtain ⟨k, rfl⟩ := Int.eq_ofNat_of_zero_le b1
    have hk0 : k < y0.length := by omega
    have hgo := get_opt y0 k hk0
    by_cases h10 : y0[k] = 10
    · have HB : Hid (Pu.bytes (k : Int) y0 y1 = (y0.take k, y0.drop (k + 1), y1)) := by
        show _ = _
        unfold Pu.bytes; rw [Int.toNat_natCast, hgo, h10]; simp
      have hb10 : (((⟨y0.toArray⟩ : ByteArray)[k].toNat : Int) != 10) = false := by
        show ((y0[k].toNat : Int) != 10) = false; rw [h10]; rfl
      clear hgo h10
      go_wp2
      go_ret
      refine ⟨by rw [HE.out, HB.out]; exact congrArg (fun x => Ending.returned (.string x)) (ext_take y0 k), ?_, ?_⟩
      · rw [HE.out, HB.out, ext_drop]
        exact hr3.set _ (by simp; omega)
      · exact (hk.trans hk2).only_set _
    · have HB : Hid (Pu.bytes (k : Int) y0 y1 = ([], [], true)) := by
        show _ = _
        unfold Pu.bytes; rw [Int.toNat_natCast, hgo, if_neg (by simpa using h10)]
      have hb10 : (((⟨y0.toArray⟩ : ByteArray)[k].toNat : Int) != 10) = true := by
        have h2 : ((y0[k].toNat : Int) == ((10 : UInt8).toNat : Int)) = false := by rw [u8_int_eq]; simpa using h10
        show (!((y0[k].toNat : Int) == ((10 : UInt8).toNat : Int))) = true
        rw [h2]; rfl
      clear hgo h10
      go_wp2_with fail
      refine (fail_any b y0 y1 _ hr3).mono ?_
      rintro e w4 ⟨rfl, hr4, hk4⟩
      go_wp2
      go_ret
      exact ⟨by rw [HE.out, HB.out]; rfl, by rw [HE.out, HB.out]; exact hr4, (hk.trans hk2).trans hk4⟩

set_option maxHeartbeats 400000 in
theorem mode_any (b : Nat) (s : List UInt8) (bad : Bool) (f : List UInt8) (w : World) (h : Rd b s bad w) :
    Calls Tryz.prog 339 #[.pointer (some ⟨b, 0, none⟩), .string ⟨f.toArray⟩] w fun e w' => e = .returned (.string ⟨f.toArray⟩) ∧ Rd b (Pu.need (f == Pu.s644 || f == Pu.s755) s bad).1 (Pu.need (f == Pu.s644 || f == Pu.s755) s bad).2 w' ∧ Kx (Only b) w w' := by
  have HB : Hid ((f == Pu.s644 || f == Pu.s755) = (f == [49, 48, 48, 54, 52, 52] || f == [49, 48, 48, 55, 53, 53])) := rfl
  rw [HB.out]
  by_cases h1 : f = [49, 48, 48, 54, 52, 52]
  · subst h1
    go_enter Tryz.func339, Tryz.ntmps339
    go_wp2_with fail
    refine (need_any b s bad true _ h).mono ?_
    rintro e w3 ⟨rfl, hr2, hk2⟩
    go_wp2
    go_ret
    exact ⟨rfl, hr2, hk2⟩
  · have hb : (f == [49, 48, 48, 54, 52, 52]) = false := by simpa using h1
    clear h1
    rw [hb, Bool.false_or]
    go_enter Tryz.func339, Tryz.ntmps339
    go_wp2_with fail
    refine (need_any b s bad _ _ h).mono ?_
    rintro e w3 ⟨rfl, hr2, hk2⟩
    go_wp2
    go_ret
    exact ⟨rfl, hr2, hk2⟩

set_option maxHeartbeats 400000 in
theorem path_any (b : Nat) (s : List UInt8) (bad : Bool) (f : List UInt8) (w : World) (h : Rd b s bad w) (hf : f.length ≤ 8000) :
    Calls Tryz.prog 340 #[.pointer (some ⟨b, 0, none⟩), .string ⟨f.toArray⟩] w fun e w' => e = .returned (.string ⟨f.toArray⟩) ∧ Rd b (Pu.need (Pu.isPath f) s bad).1 (Pu.need (Pu.isPath f) s bad).2 w' ∧ Kx (Only b) w w' := by
  obtain ⟨m, hm⟩ := h.max
  go_enter Tryz.func340, Tryz.ntmps340
  go_wp2_with fail
  refine (isPath_any f m _ hf hm).mono ?_
  rintro e w1 ⟨rfl, hk⟩
  have hr := h.kept hk id id
  go_wp2_with fail
  refine (need_any b s bad _ _ hr).mono ?_
  rintro e w3 ⟨rfl, hr2, hk2⟩
  go_wp2
  go_ret
  exact ⟨rfl, hr2, (hk.mono (fun _ _ hh => hh.elim)).trans hk2⟩

set_option maxHeartbeats 400000 in
theorem content_any (b : Nat) (s : List UInt8) (bad : Bool) (f : List UInt8) (w : World) (h : Rd b s bad w) (hf : f.length ≤ 8000) :
    Calls Tryz.prog 341 #[.pointer (some ⟨b, 0, none⟩), .string ⟨f.toArray⟩] w fun e w' => e = .returned (.tuple #[.int .i64 (Pu.contentV f s bad).1, .string ⟨(Pu.contentV f s bad).2.toArray⟩]) ∧ Rd b (Pu.content f s bad).1 (Pu.content f s bad).2 w' ∧ Kx (Only b) w w' := by
  by_cases h1 : f = [105, 110, 108, 105, 110, 101]
  · subst h1
    go_enter Tryz.func341, Tryz.ntmps341
    go_wp2_with fail
    refine (data_any b s bad _ h).mono ?_
    rintro e w3 ⟨rfl, hr2, hk2⟩
    go_wp2
    go_ret2
    exact ⟨rfl, hr2, hk2⟩
  · have hb : (f == [105, 110, 108, 105, 110, 101]) = false := by simpa using h1
    have HE : Hid (Pu.content f s bad = Pu.need (Pu.mark f).2 s bad) := by
      show _ = _
      unfold Pu.content Pu.sInline; rw [hb]; simp
    have HV : Hid (Pu.contentV f s bad = ((Pu.mark f).1, [])) := by
      show _ = _
      unfold Pu.contentV Pu.sInline; rw [hb]; simp
    clear h1
    go_enter Tryz.func341, Tryz.ntmps341
    go_wp2_with fail
    refine (mark_any f _ hf).mono ?_
    rintro e w1 ⟨rfl, rfl⟩
    go_wp2_with fail
    refine (need_any b s bad _ _ h).mono ?_
    rintro e w3 ⟨rfl, hr2, hk2⟩
    go_wp2
    go_ret2
    exact ⟨by rw [HV.out]; rfl, by rw [HE.out]; exact hr2, hk2⟩

end Go.Proofs.YtepgoppgblfjbaaGreatDoor

/- The reader's change: one change of a commit. -/
namespace Go.Proofs.YtepgoppgblfjbaaGreatDoor
open Go.RowKit

/-- What a change's struct is as cells. -/
def chg (a c : ByteArray) (n : Int) (d e f : ByteArray) : Array Value := #[.string a, .string c, .int .i64 n, .string d, .string e, .string f]

/-- A change as cells. -/
def chC (c : Pu.Ch) : Array Value := #[.string ⟨c.word.toArray⟩, .string ⟨c.mode.toArray⟩, .int .i64 c.mark, .string ⟨c.data.toArray⟩, .string ⟨c.path.toArray⟩, .string ⟨c.to.toArray⟩]

/-- The world behind the split: the result's block and the fields'. -/
structure Sp (b : Nat) (s : List UInt8) (bad : Bool) (L : List (List UInt8)) (w W : World) : Prop where
  size : W.heap.size = w.heap.size + 2
  res : Cb w.heap.size #[.string ⟨#[]⟩, .string ⟨#[]⟩, .int .i64 0, .string ⟨#[]⟩, .string ⟨#[]⟩, .string ⟨#[]⟩] 332 W
  fld : Cb (w.heap.size + 1) (L.map (fun x => Value.string ⟨x.toArray⟩)).toArray 9 W
  rd : Rd b s bad W
  kx : Kx (Only b) w W

theorem Sp.mk' {b : Nat} {s : List UInt8} {bad : Bool} (L : List (List UInt8)) {w : World} (h : Rd b s bad w) :
    Sp b s bad L w ((w.alloc (.cells #[.string ⟨#[]⟩, .string ⟨#[]⟩, .int .i64 0, .string ⟨#[]⟩, .string ⟨#[]⟩, .string ⟨#[]⟩] 332)).alloc (.cells (L.map (fun x => Value.string ⟨x.toArray⟩)).toArray 9)) := by
  refine ⟨by simp, (Cb.new _ _ _).alloc _, ?_, (h.alloc _).alloc _, ((Kx.refl _ _).alloc _).alloc _⟩
  have := Cb.new (L.map (fun x => Value.string ⟨x.toArray⟩)).toArray 9 (w.alloc (.cells #[.string ⟨#[]⟩, .string ⟨#[]⟩, .int .i64 0, .string ⟨#[]⟩, .string ⟨#[]⟩, .string ⟨#[]⟩] 332))
  rw [World.size_alloc] at this
  exact this

theorem split_pos (s : List UInt8) (c : UInt8) : ∃ f0 r, Lib.split s [c] = f0 :: r := by
  unfold Lib.split
  cases Lib.count s [c] with
  | zero => exact ⟨_, _, by unfold Lib.splitK; rfl⟩
  | succ k => unfold Lib.splitK; split <;> exact ⟨_, _, rfl⟩

/-- Behind the split, where no form is met. -/
theorem change_none (l s : List UInt8) (bad : Bool) (f0 : List UInt8) (r : List (List UInt8)) (hs : Lib.split l [32] = f0 :: r)
    (h1 : ¬ (f0 = [77] ∧ r.length = 3)) (h2 : ¬ (f0 = [68] ∧ r.length = 1)) (h3 : ¬ ((f0 = [67] ∨ f0 = [82]) ∧ r.length = 2)) :
    Pu.change l s bad = Pu.need (l == Pu.sAll) s bad ∧ Pu.changeV l s bad = ⟨f0, [], 0, [], [], []⟩ := by
  unfold Pu.change Pu.changeV
  rw [hs]
  match r with
  | [] => exact ⟨rfl, rfl⟩
  | [f1] => simp only; rw [if_neg (by simpa using h2), if_neg (by simpa using h2)]; exact ⟨rfl, rfl⟩
  | [f1, f2] => simp only; rw [if_neg (by simpa using h3), if_neg (by simpa using h3)]; exact ⟨rfl, rfl⟩
  | [f1, f2, f3] => simp only; rw [if_neg (by simpa using h1), if_neg (by simpa using h1)]; exact ⟨rfl, rfl⟩
  | f1 :: f2 :: f3 :: f4 :: r => exact ⟨rfl, rfl⟩

set_option maxHeartbeats 1000000 in
theorem change_default (b : Nat) (l s : List UInt8) (bad : Bool) (w : World) (h : Rd b s bad w) (hl : l.length ≤ 8000) (f0 : List UInt8) (r : List (List UInt8)) (hs : Lib.split l [32] = f0 :: r)
    (hcase : ((f0 == [77]) = true ∧ (f0 == [68]) = false ∧ (f0 == [67]) = false ∧ (f0 == [82]) = false ∧ ((r.length : Int) + 1 == 4) = false) ∨ ((f0 == [77]) = false ∧ (f0 == [68]) = true ∧ (f0 == [67]) = false ∧ (f0 == [82]) = false ∧ ((r.length : Int) + 1 == 2) = false) ∨ ((f0 == [77]) = false ∧ (f0 == [68]) = false ∧ (f0 == [67]) = true ∧ (f0 == [82]) = false ∧ ((r.length : Int) + 1 == 3) = false) ∨ ((f0 == [77]) = false ∧ (f0 == [68]) = false ∧ (f0 == [67]) = false ∧ (f0 == [82]) = true ∧ ((r.length : Int) + 1 == 3) = false) ∨ ((f0 == [77]) = false ∧ (f0 == [68]) = false ∧ (f0 == [67]) = false ∧ (f0 == [82]) = false))
    (hE : Pu.change l s bad = Pu.need (l == Pu.sAll) s bad ∧ Pu.changeV l s bad = ⟨f0, [], 0, [], [], []⟩) :
    Calls Tryz.prog 294 #[.pointer (some ⟨b, 0, none⟩), .string ⟨l.toArray⟩] w fun e w' => e = .returned (.agg (chC (Pu.changeV l s bad))) ∧ Rd b (Pu.change l s bad).1 (Pu.change l s bad).2 w' ∧ Kx (Only b) w w' := by
  have hb := h.lt
  have HE : Hid (Pu.change l s bad = Pu.need (l == Pu.sAll) s bad) := hE.1
  have HV : Hid (Pu.changeV l s bad = ⟨f0, [], 0, [], [], []⟩) := hE.2
  clear hE
  obtain ⟨m, hm⟩ := (h.alloc (.cells #[.string ⟨#[]⟩, .string ⟨#[]⟩, .int .i64 0, .string ⟨#[]⟩, .string ⟨#[]⟩, .string ⟨#[]⟩] 332)).max
  have hsp := Sp.mk' (f0 :: r) h
  have HS : Hid (Lib.split l [32] = f0 :: r) := hs
  clear hs
  go_enter Tryz.func294, Tryz.ntmps294
  go_wp2_with fail
  refine (split_any l 32 m _ hl hm).mono ?_
  rintro e w1 ⟨rfl, rfl⟩
  clear hm
  rw [HS.out]
  generalize ((w.alloc (.cells #[.string ⟨#[]⟩, .string ⟨#[]⟩, .int .i64 0, .string ⟨#[]⟩, .string ⟨#[]⟩, .string ⟨#[]⟩] 332)).alloc (.cells ((f0 :: r).map (fun x => Value.string ⟨x.toArray⟩)).toArray 9)) = W at *
  obtain ⟨hz, hres, hfld, hrd, hkx⟩ := hsp
  have a0 : W.cell? ⟨w.heap.size + 1, 0, none⟩ = some (.string ⟨f0.toArray⟩) := hfld.cell 0
  rcases hcase with ⟨q1, q2, q3, q4, hn⟩ | ⟨q1, q2, q3, q4, hn⟩ | ⟨q1, q2, q3, q4, hn⟩ | ⟨q1, q2, q3, q4, hn⟩ | ⟨q1, q2, q3, q4⟩
  all_goals
    go_wp2_with fail
    refine (need_any b s bad _ _ (hrd.alloc _)).mono ?_
    rintro e w2 ⟨rfl, hr2, hk2⟩
    have hC := (Cb.new #[.string ⟨f0.toArray⟩, .string ⟨#[]⟩, .int .i64 0, .string ⟨#[]⟩, .string ⟨#[]⟩, .string ⟨#[]⟩] 332 W).only hk2 (by omega)
    rw [hz] at hC
    have hR := (hres.alloc _).only hk2 hb
    have c0 := hC.cell 0
    have c1 := hC.cell 1
    have c2 := hC.cell 2
    have c3 := hC.cell 3
    have c4 := hC.cell 4
    have c5 := hC.cell 5
    have r0 := hR.cell 0
    have r1 := hR.cell 1
    have r2 := hR.cell 2
    have r3 := hR.cell 3
    have r4 := hR.cell 4
    have r5 := hR.cell 5
    have fr := hR.frozen
    clear hC hR
    go_wp2
    refine bodyPost_ret (v := .agg #[.string ⟨f0.toArray⟩, .string ⟨#[]⟩, .int .i64 0, .string ⟨#[]⟩, .string ⟨#[]⟩, .string ⟨#[]⟩]) (by simp [results, Tryz.results294, go_sem, r0, r1, r2, r3, r4, r5]) rfl ⟨by rw [HV.out]; rfl, ?_, ?_⟩
    · rw [HE.out]
      exact (((((hr2.setNew hb _).setNew hb _).setNew hb _).setNew hb _).setNew hb _).setNew hb _
    · exact ((((((((hkx.alloc _).trans hk2).setNew (Nat.le_refl _) _).setNew (Nat.le_refl _) _).setNew (Nat.le_refl _) _).setNew (Nat.le_refl _) _).setNew (Nat.le_refl _) _).setNew (Nat.le_refl _) _)

set_option maxHeartbeats 1000000 in
theorem change_D (b : Nat) (l s : List UInt8) (bad : Bool) (w : World) (h : Rd b s bad w) (hl : l.length ≤ 8000) (f1 : List UInt8) (hs : Lib.split l [32] = [[68], f1]) :
    Calls Tryz.prog 294 #[.pointer (some ⟨b, 0, none⟩), .string ⟨l.toArray⟩] w fun e w' => e = .returned (.agg (chC (Pu.changeV l s bad))) ∧ Rd b (Pu.change l s bad).1 (Pu.change l s bad).2 w' ∧ Kx (Only b) w w' := by
  have hb := h.lt
  have HE : Hid (Pu.change l s bad = Pu.need (Pu.isPath f1) s bad) := by show _ = _; unfold Pu.change; rw [hs]; rfl
  have HV : Hid (Pu.changeV l s bad = ⟨[68], [], 0, [], f1, []⟩) := by show _ = _; unfold Pu.changeV; rw [hs]; rfl
  obtain ⟨m, hm⟩ := (h.alloc (.cells #[.string ⟨#[]⟩, .string ⟨#[]⟩, .int .i64 0, .string ⟨#[]⟩, .string ⟨#[]⟩, .string ⟨#[]⟩] 332)).max
  have hsp := Sp.mk' [[68], f1] h
  have HS : Hid (Lib.split l [32] = [[68], f1]) := hs
  have hln := split_lens l [32]
  rw [hs] at hln
  have l1 := hln f1 (by simp)
  clear hs hln
  go_enter Tryz.func294, Tryz.ntmps294
  go_wp2_with fail
  refine (split_any l 32 m _ hl hm).mono ?_
  rintro e w1 ⟨rfl, rfl⟩
  clear hm
  rw [HS.out]
  clear HS
  generalize ((w.alloc (.cells #[.string ⟨#[]⟩, .string ⟨#[]⟩, .int .i64 0, .string ⟨#[]⟩, .string ⟨#[]⟩, .string ⟨#[]⟩] 332)).alloc (.cells ([[68], f1].map (fun x => Value.string ⟨x.toArray⟩)).toArray 9)) = W at *
  obtain ⟨hz, hres, hfld, hrd, hkx⟩ := hsp
  have a0 : W.cell? ⟨w.heap.size + 1, 0, none⟩ = some (.string ⟨[68].toArray⟩) := hfld.cell 0
  have a1 : W.cell? ⟨w.heap.size + 1, 1, none⟩ = some (.string ⟨f1.toArray⟩) := hfld.cell 1
  go_wp2_with fail
  refine (path_any b s bad f1 _ (hrd.alloc _) (by omega)).mono ?_
  rintro e w2 ⟨rfl, hr2, hk2⟩
  have hC := (Cb.new #[.string ⟨#[68]⟩, .string ⟨#[]⟩, .int .i64 0, .string ⟨#[]⟩, .string ⟨#[]⟩, .string ⟨#[]⟩] 332 W).only hk2 (by omega)
  rw [hz] at hC
  have hR := (hres.alloc _).only hk2 hb
  have c0 := hC.cell 0
  have c1 := hC.cell 1
  have c2 := hC.cell 2
  have c3 := hC.cell 3
  have c4 := hC.cell 4
  have c5 := hC.cell 5
  have fc := hC.frozen
  have r0 := hR.cell 0
  have r1 := hR.cell 1
  have r2 := hR.cell 2
  have r3 := hR.cell 3
  have r4 := hR.cell 4
  have r5 := hR.cell 5
  have fr := hR.frozen
  clear hC hR
  go_wp2
  refine bodyPost_ret (v := .agg #[.string ⟨#[68]⟩, .string ⟨#[]⟩, .int .i64 0, .string ⟨#[]⟩, .string ⟨f1.toArray⟩, .string ⟨#[]⟩]) (by simp [results, Tryz.results294, go_sem, r0, r1, r2, r3, r4, r5]) rfl ⟨by rw [HV.out]; rfl, ?_, ?_⟩
  · rw [HE.out]
    exact (((((((hr2).setNew (by omega) _).setNew (by omega) _).setNew (by omega) _).setNew (by omega) _).setNew (by omega) _).setNew (by omega) _).setNew (by omega) _
  · exact ((((((((hkx.alloc _).trans hk2).setNew (by simp) _).setNew (by simp) _).setNew (by simp) _).setNew (by simp) _).setNew (by simp) _).setNew (by simp) _).setNew (by simp) _

set_option maxHeartbeats 1000000 in
theorem change_C (b : Nat) (l s : List UInt8) (bad : Bool) (w : World) (h : Rd b s bad w) (hl : l.length ≤ 8000) (f1 f2 : List UInt8) (hs : Lib.split l [32] = [[67], f1, f2]) :
    Calls Tryz.prog 294 #[.pointer (some ⟨b, 0, none⟩), .string ⟨l.toArray⟩] w fun e w' => e = .returned (.agg (chC (Pu.changeV l s bad))) ∧ Rd b (Pu.change l s bad).1 (Pu.change l s bad).2 w' ∧ Kx (Only b) w w' := by
  have hb := h.lt
  have HE : Hid (Pu.change l s bad = Pu.need (Pu.isPath f2) (Pu.need (Pu.isPath f1) s bad).1 (Pu.need (Pu.isPath f1) s bad).2) := by show _ = _; unfold Pu.change; rw [hs]; rfl
  have HV : Hid (Pu.changeV l s bad = ⟨[67], [], 0, [], f1, f2⟩) := by show _ = _; unfold Pu.changeV; rw [hs]; rfl
  obtain ⟨m, hm⟩ := (h.alloc (.cells #[.string ⟨#[]⟩, .string ⟨#[]⟩, .int .i64 0, .string ⟨#[]⟩, .string ⟨#[]⟩, .string ⟨#[]⟩] 332)).max
  have hsp := Sp.mk' [[67], f1, f2] h
  have HS : Hid (Lib.split l [32] = [[67], f1, f2]) := hs
  have hln := split_lens l [32]
  rw [hs] at hln
  have l1 := hln f1 (by simp)
  have l2 := hln f2 (by simp)
  clear hs hln
  go_enter Tryz.func294, Tryz.ntmps294
  go_wp2_with fail
  refine (split_any l 32 m _ hl hm).mono ?_
  rintro e w1 ⟨rfl, rfl⟩
  clear hm
  rw [HS.out]
  clear HS
  generalize ((w.alloc (.cells #[.string ⟨#[]⟩, .string ⟨#[]⟩, .int .i64 0, .string ⟨#[]⟩, .string ⟨#[]⟩, .string ⟨#[]⟩] 332)).alloc (.cells ([[67], f1, f2].map (fun x => Value.string ⟨x.toArray⟩)).toArray 9)) = W at *
  obtain ⟨hz, hres, hfld, hrd, hkx⟩ := hsp
  have a0 : W.cell? ⟨w.heap.size + 1, 0, none⟩ = some (.string ⟨[67].toArray⟩) := hfld.cell 0
  have a1 : W.cell? ⟨w.heap.size + 1, 1, none⟩ = some (.string ⟨f1.toArray⟩) := hfld.cell 1
  have a2 : W.cell? ⟨w.heap.size + 1, 2, none⟩ = some (.string ⟨f2.toArray⟩) := hfld.cell 2
  go_wp2_with fail
  refine (path_any b s bad f1 _ (hrd.alloc _) (by omega)).mono ?_
  rintro e w2 ⟨rfl, hr2, hk2⟩
  generalize Pu.need (Pu.isPath f1) s bad = st at *
  obtain ⟨s2, bad2⟩ := st
  have hC := (Cb.new #[.string ⟨#[67]⟩, .string ⟨#[]⟩, .int .i64 0, .string ⟨#[]⟩, .string ⟨#[]⟩, .string ⟨#[]⟩] 332 W).only hk2 (by omega)
  rw [hz] at hC
  have hR := (hres.alloc _).only hk2 hb
  have hF := (hfld.alloc _).only hk2 (by omega)
  have b2 := hF.cell 2
  have c4 := hC.cell 4
  have fc := hC.frozen
  have hsz := hk2.size
  rw [World.size_alloc, hz] at hsz
  go_wp2_with fail
  refine (path_any b s2 bad2 f2 _ (hr2.setNew (by omega) _) (by omega)).mono ?_
  rintro e w3 ⟨rfl, hr3, hk3⟩
  have hC3 := (hC.set 4 (.string ⟨f1.toArray⟩)).only hk3 (by omega)
  have hR3 := (hR.setOther (p := ⟨w.heap.size + 2, 4, none⟩) (by simp) (.string ⟨f1.toArray⟩)).only hk3 hb
  clear hC hR hF b2 c4 fc
  have hC : Cb (w.heap.size + 2) #[.string ⟨#[67]⟩, .string ⟨#[]⟩, .int .i64 0, .string ⟨#[]⟩, .string ⟨f1.toArray⟩, .string ⟨#[]⟩] 332 w3 := hC3
  have hR := hR3
  clear hC3 hR3
  have c0 := hC.cell 0
  have c1 := hC.cell 1
  have c2 := hC.cell 2
  have c3 := hC.cell 3
  have c4 := hC.cell 4
  have c5 := hC.cell 5
  have fc := hC.frozen
  have r0 := hR.cell 0
  have r1 := hR.cell 1
  have r2 := hR.cell 2
  have r3 := hR.cell 3
  have r4 := hR.cell 4
  have r5 := hR.cell 5
  have fr := hR.frozen
  clear hC hR
  go_wp2
  refine bodyPost_ret (v := .agg #[.string ⟨#[67]⟩, .string ⟨#[]⟩, .int .i64 0, .string ⟨#[]⟩, .string ⟨f1.toArray⟩, .string ⟨f2.toArray⟩]) (by simp [results, Tryz.results294, go_sem, r0, r1, r2, r3, r4, r5]) rfl ⟨by rw [HV.out]; rfl, ?_, ?_⟩
  · rw [HE.out]
    exact (((((((hr3).setNew (by omega) _).setNew (by omega) _).setNew (by omega) _).setNew (by omega) _).setNew (by omega) _).setNew (by omega) _).setNew (by omega) _
  · exact ((((((((((hkx.alloc _).trans hk2).setNew (by simp) _).trans hk3).setNew (by simp) _).setNew (by simp) _).setNew (by simp) _).setNew (by simp) _).setNew (by simp) _).setNew (by simp) _).setNew (by simp) _

set_option maxHeartbeats 1000000 in
theorem change_R (b : Nat) (l s : List UInt8) (bad : Bool) (w : World) (h : Rd b s bad w) (hl : l.length ≤ 8000) (f1 f2 : List UInt8) (hs : Lib.split l [32] = [[82], f1, f2]) :
    Calls Tryz.prog 294 #[.pointer (some ⟨b, 0, none⟩), .string ⟨l.toArray⟩] w fun e w' => e = .returned (.agg (chC (Pu.changeV l s bad))) ∧ Rd b (Pu.change l s bad).1 (Pu.change l s bad).2 w' ∧ Kx (Only b) w w' := by
  have hb := h.lt
  have HE : Hid (Pu.change l s bad = Pu.need (Pu.isPath f2) (Pu.need (Pu.isPath f1) s bad).1 (Pu.need (Pu.isPath f1) s bad).2) := by show _ = _; unfold Pu.change; rw [hs]; rfl
  have HV : Hid (Pu.changeV l s bad = ⟨[82], [], 0, [], f1, f2⟩) := by show _ = _; unfold Pu.changeV; rw [hs]; rfl
  obtain ⟨m, hm⟩ := (h.alloc (.cells #[.string ⟨#[]⟩, .string ⟨#[]⟩, .int .i64 0, .string ⟨#[]⟩, .string ⟨#[]⟩, .string ⟨#[]⟩] 332)).max
  have hsp := Sp.mk' [[82], f1, f2] h
  have HS : Hid (Lib.split l [32] = [[82], f1, f2]) := hs
  have hln := split_lens l [32]
  rw [hs] at hln
  have l1 := hln f1 (by simp)
  have l2 := hln f2 (by simp)
  clear hs hln
  go_enter Tryz.func294, Tryz.ntmps294
  go_wp2_with fail
  refine (split_any l 32 m _ hl hm).mono ?_
  rintro e w1 ⟨rfl, rfl⟩
  clear hm
  rw [HS.out]
  clear HS
  generalize ((w.alloc (.cells #[.string ⟨#[]⟩, .string ⟨#[]⟩, .int .i64 0, .string ⟨#[]⟩, .string ⟨#[]⟩, .string ⟨#[]⟩] 332)).alloc (.cells ([[82], f1, f2].map (fun x => Value.string ⟨x.toArray⟩)).toArray 9)) = W at *
  obtain ⟨hz, hres, hfld, hrd, hkx⟩ := hsp
  have a0 : W.cell? ⟨w.heap.size + 1, 0, none⟩ = some (.string ⟨[82].toArray⟩) := hfld.cell 0
  have a1 : W.cell? ⟨w.heap.size + 1, 1, none⟩ = some (.string ⟨f1.toArray⟩) := hfld.cell 1
  have a2 : W.cell? ⟨w.heap.size + 1, 2, none⟩ = some (.string ⟨f2.toArray⟩) := hfld.cell 2
  go_wp2_with fail
  refine (path_any b s bad f1 _ (hrd.alloc _) (by omega)).mono ?_
  rintro e w2 ⟨rfl, hr2, hk2⟩
  generalize Pu.need (Pu.isPath f1) s bad = st at *
  obtain ⟨s2, bad2⟩ := st
  have hC := (Cb.new #[.string ⟨#[82]⟩, .string ⟨#[]⟩, .int .i64 0, .string ⟨#[]⟩, .string ⟨#[]⟩, .string ⟨#[]⟩] 332 W).only hk2 (by omega)
  rw [hz] at hC
  have hR := (hres.alloc _).only hk2 hb
  have hF := (hfld.alloc _).only hk2 (by omega)
  have b2 := hF.cell 2
  have c4 := hC.cell 4
  have fc := hC.frozen
  have hsz := hk2.size
  rw [World.size_alloc, hz] at hsz
  go_wp2_with fail
  refine (path_any b s2 bad2 f2 _ (hr2.setNew (by omega) _) (by omega)).mono ?_
  rintro e w3 ⟨rfl, hr3, hk3⟩
  have hC3 := (hC.set 4 (.string ⟨f1.toArray⟩)).only hk3 (by omega)
  have hR3 := (hR.setOther (p := ⟨w.heap.size + 2, 4, none⟩) (by simp) (.string ⟨f1.toArray⟩)).only hk3 hb
  clear hC hR hF b2 c4 fc
  have hC : Cb (w.heap.size + 2) #[.string ⟨#[82]⟩, .string ⟨#[]⟩, .int .i64 0, .string ⟨#[]⟩, .string ⟨f1.toArray⟩, .string ⟨#[]⟩] 332 w3 := hC3
  have hR := hR3
  clear hC3 hR3
  have c0 := hC.cell 0
  have c1 := hC.cell 1
  have c2 := hC.cell 2
  have c3 := hC.cell 3
  have c4 := hC.cell 4
  have c5 := hC.cell 5
  have fc := hC.frozen
  have r0 := hR.cell 0
  have r1 := hR.cell 1
  have r2 := hR.cell 2
  have r3 := hR.cell 3
  have r4 := hR.cell 4
  have r5 := hR.cell 5
  have fr := hR.frozen
  clear hC hR
  go_wp2
  refine bodyPost_ret (v := .agg #[.string ⟨#[82]⟩, .string ⟨#[]⟩, .int .i64 0, .string ⟨#[]⟩, .string ⟨f1.toArray⟩, .string ⟨f2.toArray⟩]) (by simp [results, Tryz.results294, go_sem, r0, r1, r2, r3, r4, r5]) rfl ⟨by rw [HV.out]; rfl, ?_, ?_⟩
  · rw [HE.out]
    exact (((((((hr3).setNew (by omega) _).setNew (by omega) _).setNew (by omega) _).setNew (by omega) _).setNew (by omega) _).setNew (by omega) _).setNew (by omega) _
  · exact ((((((((((hkx.alloc _).trans hk2).setNew (by simp) _).trans hk3).setNew (by simp) _).setNew (by simp) _).setNew (by simp) _).setNew (by simp) _).setNew (by simp) _).setNew (by simp) _).setNew (by simp) _

end Go.Proofs.YtepgoppgblfjbaaGreatDoor

/- The reader's change: an M; and all of them together. -/
namespace Go.Proofs.YtepgoppgblfjbaaGreatDoor
open Go.RowKit

set_option maxHeartbeats 1000000 in
theorem change_M (b : Nat) (l s : List UInt8) (bad : Bool) (w : World) (h : Rd b s bad w) (hl : l.length ≤ 8000) (f1 f2 f3 : List UInt8) (hs : Lib.split l [32] = [[77], f1, f2, f3]) :
    Calls Tryz.prog 294 #[.pointer (some ⟨b, 0, none⟩), .string ⟨l.toArray⟩] w fun e w' => e = .returned (.agg (chC (Pu.changeV l s bad))) ∧ Rd b (Pu.change l s bad).1 (Pu.change l s bad).2 w' ∧ Kx (Only b) w w' := by
  have hb := h.lt
  have HE : Hid (Pu.change l s bad = Pu.changeM f1 f2 f3 s bad) := by show _ = _; unfold Pu.change; rw [hs]; rfl
  have HV : Hid (Pu.changeV l s bad = ⟨[77], f1, (Pu.contentV f2 (Pu.need (Pu.isPath f3) (Pu.need (f1 == Pu.s644 || f1 == Pu.s755) s bad).1 (Pu.need (f1 == Pu.s644 || f1 == Pu.s755) s bad).2).1 (Pu.need (Pu.isPath f3) (Pu.need (f1 == Pu.s644 || f1 == Pu.s755) s bad).1 (Pu.need (f1 == Pu.s644 || f1 == Pu.s755) s bad).2).2).1, (Pu.contentV f2 (Pu.need (Pu.isPath f3) (Pu.need (f1 == Pu.s644 || f1 == Pu.s755) s bad).1 (Pu.need (f1 == Pu.s644 || f1 == Pu.s755) s bad).2).1 (Pu.need (Pu.isPath f3) (Pu.need (f1 == Pu.s644 || f1 == Pu.s755) s bad).1 (Pu.need (f1 == Pu.s644 || f1 == Pu.s755) s bad).2).2).2, f3, []⟩) := by show _ = _; unfold Pu.changeV; rw [hs]; rfl
  obtain ⟨m, hm⟩ := (h.alloc (.cells #[.string ⟨#[]⟩, .string ⟨#[]⟩, .int .i64 0, .string ⟨#[]⟩, .string ⟨#[]⟩, .string ⟨#[]⟩] 332)).max
  have hsp := Sp.mk' [[77], f1, f2, f3] h
  have HS : Hid (Lib.split l [32] = [[77], f1, f2, f3]) := hs
  have hln := split_lens l [32]
  rw [hs] at hln
  have l1 := hln f1 (by simp)
  have l2 := hln f2 (by simp)
  have l3 := hln f3 (by simp)
  clear hs hln
  go_enter Tryz.func294, Tryz.ntmps294
  go_wp2_with fail
  refine (split_any l 32 m _ hl hm).mono ?_
  rintro e w1 ⟨rfl, rfl⟩
  clear hm
  rw [HS.out]
  clear HS
  generalize ((w.alloc (.cells #[.string ⟨#[]⟩, .string ⟨#[]⟩, .int .i64 0, .string ⟨#[]⟩, .string ⟨#[]⟩, .string ⟨#[]⟩] 332)).alloc (.cells ([[77], f1, f2, f3].map (fun x => Value.string ⟨x.toArray⟩)).toArray 9)) = W at *
  obtain ⟨hz, hres, hfld, hrd, hkx⟩ := hsp
  have a0 : W.cell? ⟨w.heap.size + 1, 0, none⟩ = some (.string ⟨[77].toArray⟩) := hfld.cell 0
  have a1 : W.cell? ⟨w.heap.size + 1, 1, none⟩ = some (.string ⟨f1.toArray⟩) := hfld.cell 1
  have a2 : W.cell? ⟨w.heap.size + 1, 2, none⟩ = some (.string ⟨f2.toArray⟩) := hfld.cell 2
  have a3 : W.cell? ⟨w.heap.size + 1, 3, none⟩ = some (.string ⟨f3.toArray⟩) := hfld.cell 3
  go_wp2_with fail
  unfold Pu.changeM at HE
  refine (mode_any b s bad f1 _ (hrd.alloc _)).mono ?_
  rintro e w2 ⟨rfl, hr2, hk2⟩
  generalize Pu.need (f1 == Pu.s644 || f1 == Pu.s755) s bad = st at *
  obtain ⟨s2, bad2⟩ := st
  have hC := (Cb.new #[.string ⟨#[77]⟩, .string ⟨#[]⟩, .int .i64 0, .string ⟨#[]⟩, .string ⟨#[]⟩, .string ⟨#[]⟩] 332 W).only hk2 (by omega)
  rw [hz] at hC
  have hR := (hres.alloc _).only hk2 hb
  have hF := (hfld.alloc _).only hk2 (by omega)
  have b3 := hF.cell 3
  have c1 := hC.cell 1
  have fc := hC.frozen
  have hsz := hk2.size
  rw [World.size_alloc, hz] at hsz
  go_wp2_with fail
  refine (path_any b s2 bad2 f3 _ (hr2.setNew (by omega) _) (by omega)).mono ?_
  rintro e w3 ⟨rfl, hr3, hk3⟩
  generalize Pu.need (Pu.isPath f3) s2 bad2 = st at *
  obtain ⟨s3, bad3⟩ := st
  have hC3 := (hC.set 1 (.string ⟨f1.toArray⟩)).only hk3 (by omega)
  have hR3 := (hR.setOther (p := ⟨w.heap.size + 2, 1, none⟩) (by simp) (.string ⟨f1.toArray⟩)).only hk3 hb
  have hF3 := (hF.setOther (p := ⟨w.heap.size + 2, 1, none⟩) (by simp) (.string ⟨f1.toArray⟩)).only hk3 (by omega)
  clear hC hR hF b3 c1 fc
  have hC : Cb (w.heap.size + 2) #[.string ⟨#[77]⟩, .string ⟨f1.toArray⟩, .int .i64 0, .string ⟨#[]⟩, .string ⟨#[]⟩, .string ⟨#[]⟩] 332 w3 := hC3
  clear hC3
  have hsz3 := hk3.size
  rw [World.size_setCell] at hsz3
  have b2 := hF3.cell 2
  have c4 := hC.cell 4
  have fc := hC.frozen
  go_wp2_with fail
  refine (content_any b s3 bad3 f2 _ (hr3.setNew (by omega) _) (by omega)).mono ?_
  rintro e w4 ⟨rfl, hr4, hk4⟩
  generalize Pu.contentV f2 s3 bad3 = cv at *
  obtain ⟨n, d⟩ := cv
  have hC4 := (hC.set 4 (.string ⟨f3.toArray⟩)).only hk4 (by omega)
  have hR := (hR3.setOther (p := ⟨w.heap.size + 2, 4, none⟩) (by simp) (.string ⟨f3.toArray⟩)).only hk4 hb
  clear hC hR3 hF3 b2 c4 fc
  have hC : Cb (w.heap.size + 2) #[.string ⟨#[77]⟩, .string ⟨f1.toArray⟩, .int .i64 0, .string ⟨#[]⟩, .string ⟨f3.toArray⟩, .string ⟨#[]⟩] 332 w4 := hC4
  clear hC4
  have c0 := hC.cell 0
  have c1 := hC.cell 1
  have c2 := hC.cell 2
  have c3 := hC.cell 3
  have c4 := hC.cell 4
  have c5 := hC.cell 5
  have fc := hC.frozen
  have r0 := hR.cell 0
  have r1 := hR.cell 1
  have r2 := hR.cell 2
  have r3 := hR.cell 3
  have r4 := hR.cell 4
  have r5 := hR.cell 5
  have fr := hR.frozen
  clear hC hR
  go_wp2
  refine bodyPost_ret (v := .agg #[.string ⟨#[77]⟩, .string ⟨f1.toArray⟩, .int .i64 n, .string ⟨d.toArray⟩, .string ⟨f3.toArray⟩, .string ⟨#[]⟩]) (by simp [results, Tryz.results294, go_sem, r0, r1, r2, r3, r4, r5]) rfl ⟨by rw [HV.out]; rfl, ?_, ?_⟩
  · rw [HE.out]
    exact ((((((((hr4).setNew (by omega) _).setNew (by omega) _).setNew (by omega) _).setNew (by omega) _).setNew (by omega) _).setNew (by omega) _).setNew (by omega) _).setNew (by omega) _
  · exact (((((((((((((hkx.alloc _).trans hk2).setNew (by simp) _).trans hk3).setNew (by simp) _).trans hk4).setNew (by simp) _).setNew (by simp) _).setNew (by simp) _).setNew (by simp) _).setNew (by simp) _).setNew (by simp) _).setNew (by simp) _).setNew (by simp) _

theorem change_any (b : Nat) (l s : List UInt8) (bad : Bool) (w : World) (h : Rd b s bad w) (hl : l.length ≤ 8000) :
    Calls Tryz.prog 294 #[.pointer (some ⟨b, 0, none⟩), .string ⟨l.toArray⟩] w fun e w' => e = .returned (.agg (chC (Pu.changeV l s bad))) ∧ Rd b (Pu.change l s bad).1 (Pu.change l s bad).2 w' ∧ Kx (Only b) w w' := by
  obtain ⟨f0, r, hs⟩ := split_pos l 32
  by_cases h1 : f0 = [77] ∧ r.length = 3
  · obtain ⟨rfl, hr⟩ := h1
    match r, hr with
    | [f1, f2, f3], _ => exact change_M b l s bad w h hl f1 f2 f3 hs
  by_cases h2 : f0 = [68] ∧ r.length = 1
  · obtain ⟨rfl, hr⟩ := h2
    match r, hr with
    | [f1], _ => exact change_D b l s bad w h hl f1 hs
  by_cases h3 : f0 = [67] ∧ r.length = 2
  · obtain ⟨rfl, hr⟩ := h3
    match r, hr with
    | [f1, f2], _ => exact change_C b l s bad w h hl f1 f2 hs
  by_cases h4 : f0 = [82] ∧ r.length = 2
  · obtain ⟨rfl, hr⟩ := h4
    match r, hr with
    | [f1, f2], _ => exact change_R b l s bad w h hl f1 f2 hs
  have hE := change_none l s bad f0 r hs h1 h2 (by rintro ⟨rfl | rfl, h5⟩ <;> simp_all)
  refine change_default b l s bad w h hl f0 r hs ?_ hE
  by_cases e1 : f0 = [77]
  · subst e1
    exact Or.inl ⟨rfl, rfl, rfl, rfl, beq_eq_false_iff_ne.2 (fun h5 => h1 ⟨rfl, by omega⟩)⟩
  by_cases e2 : f0 = [68]
  · subst e2
    exact Or.inr (Or.inl ⟨rfl, rfl, rfl, rfl, beq_eq_false_iff_ne.2 (fun h5 => h2 ⟨rfl, by omega⟩)⟩)
  by_cases e3 : f0 = [67]
  · subst e3
    exact Or.inr (Or.inr (Or.inl ⟨rfl, rfl, rfl, rfl, beq_eq_false_iff_ne.2 (fun h5 => h3 ⟨rfl, by omega⟩)⟩))
  by_cases e4 : f0 = [82]
  · subst e4
    exact Or.inr (Or.inr (Or.inr (Or.inl ⟨rfl, rfl, rfl, rfl, beq_eq_false_iff_ne.2 (fun h5 => h4 ⟨rfl, by omega⟩)⟩)))
  exact Or.inr (Or.inr (Or.inr (Or.inr ⟨beq_eq_false_iff_ne.2 e1, beq_eq_false_iff_ne.2 e2, beq_eq_false_iff_ne.2 e3, beq_eq_false_iff_ne.2 e4⟩)))

end Go.Proofs.YtepgoppgblfjbaaGreatDoor

/- Rows of cells: two facts. -/
namespace Go.Proofs.YtepgoppgblfjbaaGreatDoor
open Go.RowKit

theorem own_kept' {base : Nat} {e : TypeId} {size : Nat} {v : Value} {n : Nat} {xs : List Value} {X : Nat → Prop} {w w' : World} (h : w.ownsRow base e size v n xs) (hk : Kx X w w') (hX : ∀ k, k < w.heap.size → base ≤ k → ¬ X k) : w'.ownsRow base e size v n xs := by
  refine ⟨h.1, ?_⟩
  rcases h.2 with hn | ⟨g, cap, cur, rfl, hbg, hgg, rest⟩
  · exact .inl hn
  · refine .inr ⟨g, cap, cur, rfl, hbg, ?_, rest⟩
    have hl := (Array.getElem?_eq_some_iff.1 hgg).1
    rw [hk.block g hl (hX g hl hbg)]
    exact hgg

theorem cells_new (w : World) (cs : List Value) (t : TypeId) : ∀ (j : Nat) (u : Value), cs[j]? = some u → (w.alloc (.cells cs.toArray t)).cell? ((⟨w.heap.size, 0, none⟩ : Addr).add j) = some u := by
  intro j u hu
  have e : (⟨w.heap.size, 0, none⟩ : Addr).add j = ⟨w.heap.size, j, none⟩ := by unfold Addr.add; split <;> simp_all
  rw [e, (Cb.new cs.toArray t w).cell j]
  simpa using hu

end Go.Proofs.YtepgoppgblfjbaaGreatDoor
