/- The document's reader: isName, isMail, isRef, parts, words, isPath. -/
import Derived.Test.YtepgoppgblfjbaaGreatDoorRefText
import Derived.Test.YtepgoppgblfjbaaGreatDoorMerges
namespace Go.Proofs.YtepgoppgblfjbaaGreatDoor
open Go.RowKit
namespace Rf

set_option maxHeartbeats 400000 in
theorem isMail_any (t : List UInt8) (w : World) (ht : t.length ≤ 8000) :
    Calls Tryz.prog 209 #[.string ⟨t.toArray⟩] w fun e w' => e = .returned (.bool (Pu.isMail t)) ∧ w' = w := by
  have HE : Hid (Pu.ofR t 20 true [46, 45, 64] = Pu.isMail t) := Pu.ofR_eq Pu.cls_mail t 20
  go_enter Tryz.func209, Tryz.ntmps209
  go_wp2_with fail
  refine (of_any t 20 true [46, 45, 64] _ ht (by decide)).mono ?_
  rintro e w1 ⟨rfl, rfl⟩
  rw [HE.out]
  go_wp2
  go_ret
  exact ⟨rfl, rfl⟩

theorem ends_eq {t : List UInt8} (h : 0 < t.length) (u : UInt8) : Pu.hasAtEnds t u = (t[0] == u || t[t.length - 1] == u) := by
  unfold Pu.hasAtEnds
  rw [List.head?_eq_getElem?, List.getLast?_eq_getElem?, List.getElem?_eq_getElem h, List.getElem?_eq_getElem (by omega)]
  rfl

set_option maxHeartbeats 400000 in
theorem isName_any (t : List UInt8) (w : World) (ht : t.length ≤ 8000) :
    Calls Tryz.prog 210 #[.string ⟨t.toArray⟩] w fun e w' => e = .returned (.bool (Pu.isName t)) ∧ w' = w := by
  have HE : Hid (Pu.ofR t 20 true [32] = Pu.madeOf t Pu.nameSet 20) := Pu.ofR_eq Pu.cls_name t 20
  go_enter Tryz.func210, Tryz.ntmps210
  go_wp2_with fail
  refine (of_any t 20 true [32] _ ht (by decide)).mono ?_
  rintro e w1 ⟨rfl, rfl⟩
  rw [HE.out]
  cases hc : Pu.madeOf t Pu.nameSet 20
  · have HN : Hid (Pu.isName t = false) := by show _ = _; unfold Pu.isName; rw [hc]; rfl
    clear hc
    go_wp2
    go_ret
    exact ⟨by rw [HN.out]; rfl, rfl⟩
  · have hl := (madeOf_pos hc).1
    have HN : Hid (Pu.isName t = !(t[0] == 32 || t[t.length - 1] == 32)) := by show _ = _; unfold Pu.isName; rw [hc, ends_eq hl]; rfl
    have hz : (0 : Int) < (t.length : Int) := by omega
    have hlast : t.length - 1 < t.length := by omega
    clear hc
    by_cases h0 : t[0] = 32
    · have hb : (((⟨t.toArray⟩ : ByteArray)[0].toNat : Int) != 32) = false := by
        show ((t[0].toNat : Int) != 32) = false; rw [h0]; rfl
      go_wp2
      go_ret
      exact ⟨ret_bool (by rw [HN.out, h0]; rfl), rfl⟩
    · have hb0 : ((t[0].toNat : Int) == ((32 : UInt8).toNat : Int)) = false := by rw [u8_int_eq]; simpa using h0
      have hb : (((⟨t.toArray⟩ : ByteArray)[0].toNat : Int) != 32) = true := by
        show (!((t[0].toNat : Int) == ((32 : UInt8).toNat : Int))) = true; rw [hb0]; rfl
      have HB1 : Hid ((((⟨t.toArray⟩ : ByteArray)[t.length - 1].toNat : Int) != 32) = !(t[t.length - 1] == 32)) := by
        show (!((t[t.length - 1].toNat : Int) == ((32 : UInt8).toNat : Int))) = _
        rw [u8_int_eq]
      go_wp2
      go_ret
      refine ⟨ret_bool ?_, rfl⟩
      have h1 : (t[0] == 32) = false := by simpa using h0
      rw [HN.out, h1, Bool.false_or]
      first | exact HB1.out | simpa using HB1.out

set_option maxHeartbeats 1000000 in
theorem isRef_any (t : List UInt8) (w : World) (ht : t.length ≤ 8000) :
    Calls Tryz.prog 274 #[.string ⟨t.toArray⟩] w fun e w' => e = .returned (.bool (Pu.isRef t)) ∧ w' = w := by
  have HE : Hid (Pu.ofR t 20 false [45, 47] = Pu.madeOf t Pu.refSet 20) := Pu.ofR_eq Pu.cls_ref t 20
  go_enter Tryz.func274, Tryz.ntmps274
  go_wp2_with fail
  refine (of_any t 20 false [45, 47] _ ht (by decide)).mono ?_
  rintro e w1 ⟨rfl, rfl⟩
  rw [HE.out]
  cases hc : Pu.madeOf t Pu.refSet 20
  · have HN : Hid (Pu.isRef t = false) := by show _ = _; unfold Pu.isRef; rw [hc]; rfl
    clear hc
    go_wp2
    go_ret
    exact ⟨by rw [HN.out]; rfl, rfl⟩
  have hl := (madeOf_pos hc).1
  have HN : Hid (Pu.isRef t = (!(t[0] == 47 || t[t.length - 1] == 47) && !Lib.contains t [47, 47])) := by show _ = _; unfold Pu.isRef; rw [hc, ends_eq hl]; rfl
  have hz : (0 : Int) < (t.length : Int) := by omega
  have hlast : t.length - 1 < t.length := by omega
  clear hc
  by_cases h0 : t[0] = 47
  · have hb : (((⟨t.toArray⟩ : ByteArray)[0].toNat : Int) == 47) = true := by
      show ((t[0].toNat : Int) == 47) = true; rw [h0]; rfl
    go_wp2
    go_ret
    exact ⟨ret_bool (by rw [HN.out, h0]; rfl), rfl⟩
  have hb : (((⟨t.toArray⟩ : ByteArray)[0].toNat : Int) == 47) = false := by
    have h2 : ((t[0].toNat : Int) == ((47 : UInt8).toNat : Int)) = false := by rw [u8_int_eq]; simpa using h0
    exact h2
  have e0 : (t[0] == 47) = false := by simpa using h0
  by_cases h1 : t[t.length - 1] = 47
  · have hb1 : (((⟨t.toArray⟩ : ByteArray)[t.length - 1].toNat : Int) == 47) = true := by
      show ((t[t.length - 1].toNat : Int) == 47) = true; rw [h1]; rfl
    have HN2 : Hid (Pu.isRef t = false) := by show _ = _; rw [HN.out, h1]; simp
    clear HN e0 h0 h1
    go_wp2
    go_ret
    exact ⟨by rw [HN2.out]; rfl, rfl⟩
  have hb1 : (((⟨t.toArray⟩ : ByteArray)[t.length - 1].toNat : Int) == 47) = false := by
    have h2 : ((t[t.length - 1].toNat : Int) == ((47 : UInt8).toNat : Int)) = false := by rw [u8_int_eq]; simpa using h1
    exact h2
  have e1 : (t[t.length - 1] == 47) = false := by simpa using h1
  have HN2 : Hid (Pu.isRef t = !Lib.contains t [47, 47]) := by show _ = _; rw [HN.out, e0, e1]; rfl
  clear HN e0 h0 h1 e1
  go_wp2
  go_loop [4] (fun i => ∃ k : Nat, 1 ≤ k ∧ k ≤ t.length ∧ i = .int .i64 k ∧ ∀ j, j + 1 < k → ¬ (t[j]? = some 47 ∧ t[j + 1]? = some 47)) (fun i => t.length - (intOf i).toNat)
  case atStart => exact ⟨1, by omega, by omega, rfl, fun j hj => absurd hj (by omega)⟩
  case round =>
    obtain ⟨k, hk1, hk, rfl, hno⟩ := hrel
    have HNO : Hid (∀ j, j + 1 < k → ¬ (t[j]? = some 47 ∧ t[j + 1]? = some 47)) := hno
    clear hno
    by_cases hlt : k < t.length
    · have hlt1 : k - 1 < t.length := by omega
      by_cases hh : t[k] = 47 ∧ t[k - 1] = 47
      · have b1 : (((⟨t.toArray⟩ : ByteArray)[k].toNat : Int) == 47) = true := by
          show ((t[k].toNat : Int) == 47) = true; rw [hh.1]; rfl
        have b2 : (((⟨t.toArray⟩ : ByteArray)[k - 1].toNat : Int) == 47) = true := by
          show ((t[k - 1].toNat : Int) == 47) = true; rw [hh.2]; rfl
        have HN3 : Hid (Pu.isRef t = false) := by
          show _ = _
          rw [HN2.out, (Pu.contains_two t 47).2 ⟨k - 1, by rw [List.getElem?_eq_getElem (by omega), hh.2], by rw [List.getElem?_eq_getElem (by omega)]; simp only [Nat.sub_add_cancel hk1]; rw [hh.1]⟩]
          rfl
        clear HN2 hh
        go_wp2
        go_ret
        exact ⟨by rw [HN3.out]; rfl, rfl⟩
      · have HNO2 : Hid (∀ j, j + 1 < k + 1 → ¬ (t[j]? = some 47 ∧ t[j + 1]? = some 47)) := by
          intro j hj
          by_cases e : j + 1 = k
          · subst e
            rintro ⟨g1, g2⟩
            rw [List.getElem?_eq_getElem (by omega)] at g1 g2
            exact hh ⟨Option.some.inj g2, Option.some.inj g1⟩
          · exact HNO.out j (by omega)
        by_cases g : t[k] = 47
        · have b1 : (((⟨t.toArray⟩ : ByteArray)[k].toNat : Int) == 47) = true := by
            show ((t[k].toNat : Int) == 47) = true; rw [g]; rfl
          have b2 : (((⟨t.toArray⟩ : ByteArray)[k - 1].toNat : Int) == 47) = false := by
            have h2 : ((t[k - 1].toNat : Int) == ((47 : UInt8).toNat : Int)) = false := by rw [u8_int_eq]; simpa using fun e => hh ⟨g, e⟩
            exact h2
          clear hh g HNO
          go_wp2
          go_round
          case rel => exact ⟨k + 1, by omega, by omega, by go_num, HNO2.out⟩
          case measure => simp [intOf]; omega
        · have b1 : (((⟨t.toArray⟩ : ByteArray)[k].toNat : Int) == 47) = false := by
            have h2 : ((t[k].toNat : Int) == ((47 : UInt8).toNat : Int)) = false := by rw [u8_int_eq]; simpa using g
            exact h2
          clear hh g HNO
          go_wp2
          go_round
          case rel => exact ⟨k + 1, by omega, by omega, by go_num, HNO2.out⟩
          case measure => simp [intOf]; omega
    · have HN3 : Hid (Pu.isRef t = true) := by
        show _ = _
        rw [HN2.out]
        cases hcc : Lib.contains t [47, 47] with
        | false => rfl
        | true =>
          obtain ⟨i, g1, g2⟩ := (Pu.contains_two t 47).1 hcc
          have hl2 := (List.getElem?_eq_some_iff.1 g2).1
          exact absurd ⟨g1, g2⟩ (HNO.out i (by omega))
      clear HN2 HNO
      go_wp2
      go_ret
      exact ⟨by rw [HN3.out]; rfl, rfl⟩

/- Splitting, step by step. -/
theorem drop_split (s : List UInt8) (f k : Nat) (hf : f ≤ k) (hk : k < s.length) : s.drop f = (s.drop f).take (k - f) ++ s[k] :: s.drop (k + 1) := by
  have h1 : (s.drop f).drop (k - f) = s.drop k := by rw [List.drop_drop]; congr 1; omega
  rw [← List.drop_eq_getElem_cons hk, ← h1, List.take_append_drop]

theorem split_at (s : List UInt8) (c : UInt8) (f k : Nat) (hf : f ≤ k) (hk : k < s.length) (hc : s[k] = c) (hno : ¬ c ∈ (s.drop f).take (k - f)) :
    Lib.split (s.drop f) [c] = (s.drop f).take (k - f) :: Lib.split (s.drop (k + 1)) [c] := by
  have h := drop_split s f k hf hk
  rw [hc] at h
  conv => lhs; rw [h]
  exact Pu.split_hit hno

theorem split_last (s : List UInt8) (c : UInt8) (f : Nat) (hno : ¬ c ∈ (s.drop f).take (s.length - f)) : Lib.split (s.drop f) [c] = [(s.drop f).take (s.length - f)] := by
  have h : (s.drop f).take (s.length - f) = s.drop f := List.take_of_length_le (by simp)
  rw [h] at hno ⊢
  exact Pu.split_none hno

theorem miss_step (s : List UInt8) (c : UInt8) (f k : Nat) (hf : f ≤ k) (hk : k < s.length) (hc : s[k] ≠ c) (hno : ¬ c ∈ (s.drop f).take (k - f)) : ¬ c ∈ (s.drop f).take (k + 1 - f) := by
  have h1 : k + 1 - f = (k - f) + 1 := by omega
  have h2 : k - f < (s.drop f).length := by simp; omega
  rw [h1, List.take_succ_eq_append_getElem h2]
  intro h
  rcases List.mem_append.1 h with h | h
  · exact hno h
  · simp only [List.getElem_drop, List.mem_singleton] at h
    have h3 : f + (k - f) = k := by omega
    simp only [h3] at h
    exact hc h.symm

/-- A list of texts that the call itself has made. -/
def IsList (L : List (List UInt8)) (v : Value) (w w' : World) : Prop :=
  w'.ownsRow w.heap.size 9 1 v L.length (L.map (fun x => Value.string ⟨x.toArray⟩)) ∧ ∀ X, Kx X w w'

theorem IsList.slice {L : List (List UInt8)} {v : Value} {w w' : World} (h : IsList L v w w') (h0 : 0 < L.length) : ∃ g cap, v = .slice (some ⟨g, 0, none⟩) L.length cap ∧ w.heap.size ≤ g ∧ ∀ k (hk : k < L.length), w'.cell? ⟨g, k, none⟩ = some (.string ⟨L[k].toArray⟩) := by
  rcases h.1.2 with ⟨_, hn⟩ | ⟨g, cap, cur, rfl, hb, hg, _, _, _, htake⟩
  · omega
  · refine ⟨g, cap, rfl, hb, fun k hk => ?_⟩
    have hc : Cb g cur 9 w' := hg
    rw [hc.cell k]
    have h2 : cur.toList[k]? = (cur.toList.take (L.length * 1))[k]? := by rw [List.getElem?_take, if_pos (by omega)]
    rw [htake] at h2
    rw [← Array.getElem?_toList, h2]
    simp [hk]

theorem Tryz.info9 : (Tryz.prog.info? 9).map (fun i => (i.zero, i.size, i.bytes)) = some (some (.string ⟨#[]⟩), 1, 16) := by kernel_rfl

set_option maxHeartbeats 2000000 in
set_option maxRecDepth 100000 in
theorem parts_any (s : List UInt8) (w : World) (hs : s.length ≤ 8000) :
    Calls Tryz.prog 282 #[.string ⟨s.toArray⟩] w fun e w' => ∃ v, e = .returned v ∧ IsList (Lib.split s [47]) v w w' := by
  obtain ⟨i0, hi, hz0, hz1, hz2⟩ := info_parts Tryz.info9
  have hext := ext_mid s
  go_enter Tryz.func282, Tryz.ntmps282
  go_wp2
  go_loopw [3, 4, 5] (fun v fv iv w' => ∃ (L : List (List UInt8)) (f k : Nat), fv = .int .i64 f ∧ iv = .int .i64 k ∧ L.length ≤ k ∧ IsList L v w w' ∧ ((k ≤ s.length ∧ f ≤ k ∧ Lib.split s [47] = L ++ Lib.split (s.drop f) [47] ∧ ¬ 47 ∈ (s.drop f).take (k - f)) ∨ (k = s.length + 1 ∧ f ≤ k ∧ Lib.split s [47] = L))) (fun _ _ iv _ => s.length + 1 - (intOf iv).toNat)
  case atStart => exact ⟨[], 0, 0, rfl, rfl, by simp, ⟨World.ownsRow_nil _ _ _ _, fun X => Kx.refl X w⟩, Or.inl ⟨by omega, by omega, by simp, by simp⟩⟩
  case round =>
    obtain ⟨L, f, k, rfl, rfl, hLk, hL, hor⟩ := hrel
    have hown := hL.1
    have hkx := hL.2
    have hsz := (hkx (fun _ => False)).size
    rcases hor with ⟨hk, hf, hE, hno⟩ | ⟨rfl, hf, hE⟩
    · have HE : Hid (Lib.split s [47] = L ++ Lib.split (s.drop f) [47]) := hE
      have HNO : Hid (¬ 47 ∈ (s.drop f).take (k - f)) := hno
      clear hE hno hL
      by_cases hlt : k < s.length
      · by_cases hc : s[k] = 47
        · have b1 : (((⟨s.toArray⟩ : ByteArray)[k].toNat : Int) == 47) = true := by
            show ((s[k].toNat : Int) == 47) = true; rw [hc]; rfl
          have b0 : ((k : Int) == (s.length : Int)) = false := beq_eq_false_iff_ne.2 (by omega)
          have HS : Hid (Lib.split s [47] = (L ++ [(s.drop f).take (k - f)]) ++ Lib.split (s.drop (k + 1)) [47]) := by
            show _ = _
            rw [HE.out, split_at s 47 f k hf hlt hc HNO.out]; simp
          clear HE HNO hc
          have hkf : (f : Int) ≤ (k : Int) := by omega
          go_wp2_with (at_builtin; refine wpList_append_own _ rfl (.tmp 22) (.tmp 27) 35 rfl w.heap.size 9 i0 _ 1 16 Tryz.underlying35 hi hz0 hz1 hz2 rfl (by decide) _ _ _ rfl (hown.alloc _) ⟨wr.heap.size, 0, none⟩ 1 1 [.string ⟨((s.drop f).take (k - f)).toArray⟩] rfl rfl ?c1 ?c2 ?c3 ?c4 ?c5 ?_)
          case c1 => exact cells_new _ [_] _
          case c2 => simp [Value.oneCell']
          case c3 => unfold maxLen; omega
          case c4 => omega
          case c5 => simp; omega
          intro v4 w4 hown4 hgrow4 _
          have hk4 : ∀ X, Kx X w w4 := fun X => ((hkx X).alloc _).grown hgrow4 (fun q he => (hown.lt q he).1)
          have hL4 : IsList (L ++ [(s.drop f).take (k - f)]) v4 w w4 := ⟨by simpa using hown4, hk4⟩
          go_wp2
          go_roundw
          case rel => exact ⟨L ++ [(s.drop f).take (k - f)], k + 1, k + 1, by go_num, by go_num, by simp; omega, hL4, Or.inl ⟨by omega, by omega, HS.out, by simp⟩⟩
          case measure => simp [intOf]; omega
        · have b1 : (((⟨s.toArray⟩ : ByteArray)[k].toNat : Int) == 47) = false := by
            have h2 : ((s[k].toNat : Int) == ((47 : UInt8).toNat : Int)) = false := by rw [u8_int_eq]; simpa using hc
            exact h2
          have b0 : ((k : Int) == (s.length : Int)) = false := beq_eq_false_iff_ne.2 (by omega)
          have HN2 : Hid (¬ 47 ∈ (s.drop f).take (k + 1 - f)) := miss_step s 47 f k hf hlt hc HNO.out
          clear HNO hc
          go_wp2
          go_roundw
          case rel => exact ⟨L, f, k + 1, rfl, by go_num, by omega, ⟨hown, hkx⟩, Or.inl ⟨by omega, by omega, HE.out, HN2.out⟩⟩
          case measure => simp [intOf]; omega
      · have hkl : k = s.length := by omega
        subst hkl
        have b0 : ((s.length : Int) == (s.length : Int)) = true := by simp
        have HS : Hid (Lib.split s [47] = L ++ [(s.drop f).take (s.length - f)]) := by
          show _ = _
          rw [HE.out, split_last s 47 f HNO.out]
        clear HE HNO
        have hkf : (f : Int) ≤ (s.length : Int) := by omega
        go_wp2_with (at_builtin; refine wpList_append_own _ rfl (.tmp 22) (.tmp 27) 35 rfl w.heap.size 9 i0 _ 1 16 Tryz.underlying35 hi hz0 hz1 hz2 rfl (by decide) _ _ _ rfl (hown.alloc _) ⟨wr.heap.size, 0, none⟩ 1 1 [.string ⟨((s.drop f).take (s.length - f)).toArray⟩] rfl rfl ?c1 ?c2 ?c3 ?c4 ?c5 ?_)
        case c1 => exact cells_new _ [_] _
        case c2 => simp [Value.oneCell']
        case c3 => unfold maxLen; omega
        case c4 => omega
        case c5 => simp; omega
        intro v4 w4 hown4 hgrow4 _
        have hk4 : ∀ X, Kx X w w4 := fun X => ((hkx X).alloc _).grown hgrow4 (fun q he => (hown.lt q he).1)
        have hL4 : IsList (L ++ [(s.drop f).take (s.length - f)]) v4 w w4 := ⟨by simpa using hown4, hk4⟩
        go_wp2
        go_roundw
        case rel => exact ⟨L ++ [(s.drop f).take (s.length - f)], s.length + 1, s.length + 1, by go_num, by go_num, by simp; omega, hL4, Or.inr ⟨rfl, by omega, HS.out⟩⟩
        case measure => simp [intOf]
    · have HE : Hid (Lib.split s [47] = L) := hE
      clear hE
      go_wp2
      go_ret
      exact ⟨_, rfl, by rw [HE.out]; exact hL⟩

set_option maxHeartbeats 2000000 in
set_option maxRecDepth 100000 in
theorem words_any (s : List UInt8) (w : World) (hs : s.length ≤ 8000) :
    Calls Tryz.prog 325 #[.string ⟨s.toArray⟩] w fun e w' => ∃ v, e = .returned v ∧ IsList (Lib.split s [32]) v w w' := by
  obtain ⟨i0, hi, hz0, hz1, hz2⟩ := info_parts Tryz.info9
  have hext := ext_mid s
  go_enter Tryz.func325, Tryz.ntmps325
  go_wp2
  go_loopw [3, 4, 5] (fun v fv iv w' => ∃ (L : List (List UInt8)) (f k : Nat), fv = .int .i64 f ∧ iv = .int .i64 k ∧ L.length ≤ k ∧ IsList L v w w' ∧ ((k ≤ s.length ∧ f ≤ k ∧ Lib.split s [32] = L ++ Lib.split (s.drop f) [32] ∧ ¬ 32 ∈ (s.drop f).take (k - f)) ∨ (k = s.length + 1 ∧ f ≤ k ∧ Lib.split s [32] = L))) (fun _ _ iv _ => s.length + 1 - (intOf iv).toNat)
  case atStart => exact ⟨[], 0, 0, rfl, rfl, by simp, ⟨World.ownsRow_nil _ _ _ _, fun X => Kx.refl X w⟩, Or.inl ⟨by omega, by omega, by simp, by simp⟩⟩
  case round =>
    obtain ⟨L, f, k, rfl, rfl, hLk, hL, hor⟩ := hrel
    have hown := hL.1
    have hkx := hL.2
    have hsz := (hkx (fun _ => False)).size
    rcases hor with ⟨hk, hf, hE, hno⟩ | ⟨rfl, hf, hE⟩
    · have HE : Hid (Lib.split s [32] = L ++ Lib.split (s.drop f) [32]) := hE
      have HNO : Hid (¬ 32 ∈ (s.drop f).take (k - f)) := hno
      clear hE hno hL
      by_cases hlt : k < s.length
      · by_cases hc : s[k] = 32
        · have b1 : (((⟨s.toArray⟩ : ByteArray)[k].toNat : Int) == 32) = true := by
            show ((s[k].toNat : Int) == 32) = true; rw [hc]; rfl
          have b0 : ((k : Int) == (s.length : Int)) = false := beq_eq_false_iff_ne.2 (by omega)
          have HS : Hid (Lib.split s [32] = (L ++ [(s.drop f).take (k - f)]) ++ Lib.split (s.drop (k + 1)) [32]) := by
            show _ = _
            rw [HE.out, split_at s 32 f k hf hlt hc HNO.out]; simp
          clear HE HNO hc
          have hkf : (f : Int) ≤ (k : Int) := by omega
          go_wp2_with (at_builtin; refine wpList_append_own _ rfl (.tmp 22) (.tmp 27) 35 rfl w.heap.size 9 i0 _ 1 16 Tryz.underlying35 hi hz0 hz1 hz2 rfl (by decide) _ _ _ rfl (hown.alloc _) ⟨wr.heap.size, 0, none⟩ 1 1 [.string ⟨((s.drop f).take (k - f)).toArray⟩] rfl rfl ?c1 ?c2 ?c3 ?c4 ?c5 ?_)
          case c1 => exact cells_new _ [_] _
          case c2 => simp [Value.oneCell']
          case c3 => unfold maxLen; omega
          case c4 => omega
          case c5 => simp; omega
          intro v4 w4 hown4 hgrow4 _
          have hk4 : ∀ X, Kx X w w4 := fun X => ((hkx X).alloc _).grown hgrow4 (fun q he => (hown.lt q he).1)
          have hL4 : IsList (L ++ [(s.drop f).take (k - f)]) v4 w w4 := ⟨by simpa using hown4, hk4⟩
          go_wp2
          go_roundw
          case rel => exact ⟨L ++ [(s.drop f).take (k - f)], k + 1, k + 1, by go_num, by go_num, by simp; omega, hL4, Or.inl ⟨by omega, by omega, HS.out, by simp⟩⟩
          case measure => simp [intOf]; omega
        · have b1 : (((⟨s.toArray⟩ : ByteArray)[k].toNat : Int) == 32) = false := by
            have h2 : ((s[k].toNat : Int) == ((32 : UInt8).toNat : Int)) = false := by rw [u8_int_eq]; simpa using hc
            exact h2
          have b0 : ((k : Int) == (s.length : Int)) = false := beq_eq_false_iff_ne.2 (by omega)
          have HN2 : Hid (¬ 32 ∈ (s.drop f).take (k + 1 - f)) := miss_step s 32 f k hf hlt hc HNO.out
          clear HNO hc
          go_wp2
          go_roundw
          case rel => exact ⟨L, f, k + 1, rfl, by go_num, by omega, ⟨hown, hkx⟩, Or.inl ⟨by omega, by omega, HE.out, HN2.out⟩⟩
          case measure => simp [intOf]; omega
      · have hkl : k = s.length := by omega
        subst hkl
        have b0 : ((s.length : Int) == (s.length : Int)) = true := by simp
        have HS : Hid (Lib.split s [32] = L ++ [(s.drop f).take (s.length - f)]) := by
          show _ = _
          rw [HE.out, split_last s 32 f HNO.out]
        clear HE HNO
        have hkf : (f : Int) ≤ (s.length : Int) := by omega
        go_wp2_with (at_builtin; refine wpList_append_own _ rfl (.tmp 22) (.tmp 27) 35 rfl w.heap.size 9 i0 _ 1 16 Tryz.underlying35 hi hz0 hz1 hz2 rfl (by decide) _ _ _ rfl (hown.alloc _) ⟨wr.heap.size, 0, none⟩ 1 1 [.string ⟨((s.drop f).take (s.length - f)).toArray⟩] rfl rfl ?c1 ?c2 ?c3 ?c4 ?c5 ?_)
        case c1 => exact cells_new _ [_] _
        case c2 => simp [Value.oneCell']
        case c3 => unfold maxLen; omega
        case c4 => omega
        case c5 => simp; omega
        intro v4 w4 hown4 hgrow4 _
        have hk4 : ∀ X, Kx X w w4 := fun X => ((hkx X).alloc _).grown hgrow4 (fun q he => (hown.lt q he).1)
        have hL4 : IsList (L ++ [(s.drop f).take (s.length - f)]) v4 w w4 := ⟨by simpa using hown4, hk4⟩
        go_wp2
        go_roundw
        case rel => exact ⟨L ++ [(s.drop f).take (s.length - f)], s.length + 1, s.length + 1, by go_num, by go_num, by simp; omega, hL4, Or.inr ⟨rfl, by omega, HS.out⟩⟩
        case measure => simp [intOf]
    · have HE : Hid (Lib.split s [32] = L) := hE
      clear hE
      go_wp2
      go_ret
      exact ⟨_, rfl, by rw [HE.out]; exact hL⟩

end Rf
end Go.Proofs.YtepgoppgblfjbaaGreatDoor
