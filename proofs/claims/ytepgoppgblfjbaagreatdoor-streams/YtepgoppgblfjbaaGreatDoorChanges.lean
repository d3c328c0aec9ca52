/- The reader's changes. -/
import Derived.Test.YtepgoppgblfjbaaGreatDoorMerges
namespace Go.Proofs.YtepgoppgblfjbaaGreatDoor
open Go.RowKit

theorem Tryz.info332 : (Tryz.prog.info? 332).map (fun i => (i.zero, i.size, i.bytes)) = some (some (.agg #[.string ⟨#[]⟩, .string ⟨#[]⟩, .int .i64 0, .string ⟨#[]⟩, .string ⟨#[]⟩, .string ⟨#[]⟩]), 6, 88) := by kernel_rfl

/-- 1 where a line is not empty. -/
def more (v : Value) : Nat := match v with | .string x => if x.size = 0 then 0 else 1 | _ => 0

theorem more_nil : more (.string ⟨([] : List UInt8).toArray⟩) = 0 := rfl
theorem more_ne (l : List UInt8) (h : l ≠ []) : more (.string ⟨l.toArray⟩) = 1 := by
  unfold more
  have : ¬ (⟨l.toArray⟩ : ByteArray).size = 0 := by
    simp [ByteArray.size]; exact h
  simp only [this, if_false]
theorem more_le (v : Value) : more v ≤ 1 := by
  unfold more; split
  · split <;> omega
  · omega

/-- A round leaves less to do. -/
theorem round_less (l s : List UInt8) (bad : Bool) :
    (Pu.line (Pu.change l s bad).1 (Pu.change l s bad).2).2.1.length + more (.string ⟨(Pu.line (Pu.change l s bad).1 (Pu.change l s bad).2).1.toArray⟩) ≤ s.length := by
  have h1 := Pu.round_lt l s bad
  have h2 := Pu.change_le l s bad
  have h3 := Pu.line_le (Pu.change l s bad).1 (Pu.change l s bad).2
  rcases h1 with e | e
  · rw [e, more_nil]; omega
  · have := more_le (.string ⟨(Pu.line (Pu.change l s bad).1 (Pu.change l s bad).2).1.toArray⟩); omega

set_option maxHeartbeats 800000 in
set_option maxRecDepth 100000 in
theorem changes_any (b : Nat) (s : List UInt8) (bad : Bool) (w : World) (h : Rd b s bad w) :
    Calls Tryz.prog 226 #[.pointer (some ⟨b, 0, none⟩)] w fun e w' => (∃ v, e = .returned v ∧ w'.ownsRow w.heap.size 332 6 v (Pu.changesAll s bad).length (chsC (Pu.changesAll s bad))) ∧ Rd b (Pu.changes s bad).1 (Pu.changes s bad).2 w' ∧ Kx (Only b) w w' := by
  have hb := h.lt
  have hs := h.short
  obtain ⟨i0, hi, hz0, hz1, hz2⟩ := info_parts Tryz.info332
  have HC : Hid (Pu.changes s bad = Pu.need (decide ((Pu.changesF (s.length + 2) (Pu.line s bad).1 (Pu.line s bad).2.1 (Pu.line s bad).2.2 0).1 ≤ 30))
    (Pu.changesF (s.length + 2) (Pu.line s bad).1 (Pu.line s bad).2.1 (Pu.line s bad).2.2 0).2.1 (Pu.changesF (s.length + 2) (Pu.line s bad).1 (Pu.line s bad).2.1 (Pu.line s bad).2.2 0).2.2) := rfl
  have hll := Pu.line_lens s bad
  have hFV := Pu.changesV_fuel (s.length + 2) ((Pu.line s bad).2.1.length + 1) (Pu.line s bad).1 (Pu.line s bad).2.1 (Pu.line s bad).2.2 (by omega) (by omega)
  have HA : Hid (Pu.changesAll s bad = Pu.changesV (s.length + 2) (Pu.line s bad).1 (Pu.line s bad).2.1 (Pu.line s bad).2.2) := rfl
  have hF := Pu.changesF_fuel (s.length + 2) ((Pu.line s bad).2.1.length + 1) (Pu.line s bad).1 (Pu.line s bad).2.1 (Pu.line s bad).2.2 0 (by omega) (by omega)
  go_enter Tryz.func226, Tryz.ntmps226
  go_wp2_with fail
  refine (line_any b s bad _ h).mono ?_
  rintro e w1 ⟨rfl, hr, hk⟩
  generalize Pu.changesF (s.length + 2) (Pu.line s bad).1 (Pu.line s bad).2.1 (Pu.line s bad).2.2 0 = R at *
  generalize Pu.changesV (s.length + 2) (Pu.line s bad).1 (Pu.line s bad).2.1 (Pu.line s bad).2.2 = RV at *
  generalize Pu.line s bad = x at *
  obtain ⟨x0, x1, x2⟩ := x
  have HF : Hid (R = Pu.changesF (x1.length + 1) x0 x1 x2 0) := hF
  have HFV : Hid (RV = Pu.changesV (x1.length + 1) x0 x1 x2) := hFV
  clear hF hFV
  have hml := more_le (.string ⟨x0.toArray⟩)
  go_wp2
  go_loopw [3, 4] (fun v lv w' => ∃ (n : Nat) (l s' : List UInt8) (bad' : Bool) (xs : List Pu.Ch), n = xs.length ∧ lv = .string ⟨l.toArray⟩ ∧ l.length ≤ 8000 ∧ n + s'.length + more (.string ⟨l.toArray⟩) ≤ s.length + 1 ∧ Rd b s' bad' w' ∧ Kx (Only b) w w' ∧ w'.ownsRow w.heap.size 332 6 v n (chsC xs) ∧ R = Pu.changesF (s'.length + 1) l s' bad' n ∧ RV = xs ++ Pu.changesV (s'.length + 1) l s' bad') (fun _ lv w' => left b w' + more lv)
  case atStart => exact ⟨0, x0, x1, x2, [], rfl, rfl, by omega, by omega, hr, hk, World.ownsRow_nil _ _ _ _, HF.out, HFV.out⟩
  case round =>
    clear HF HFV hr hk hml
    obtain ⟨n, l, s1, bad1, xs, hxs, rfl, hl, hn, hr, hk, hown, hE, hV⟩ := hrel
    have HX : Hid (n = xs.length) := hxs
    have HV : Hid (RV = xs ++ Pu.changesV (s1.length + 1) l s1 bad1) := hV
    clear hxs hV
    have HE : Hid (R = Pu.changesF (s1.length + 1) l s1 bad1 n) := hE
    clear hE
    have hsz := hk.size
    by_cases hp : l = []
    · subst hp
      have HE2 : Hid (R = (n, s1, bad1)) := by
        show _ = _
        rw [HE.out, Pu.changesF_nil]
      have HV2 : Hid (RV = xs) := by
        show _ = _
        rw [HV.out, Pu.changesV_nil, List.append_nil]
      clear HE HV
      obtain ⟨av, nv, cv, hv, hnv⟩ : ∃ av nv cv, u3 = .slice av nv cv ∧ nv = n := by
        rcases hown.2 with ⟨rfl, rfl⟩ | ⟨g, cap, cur, rfl, _⟩
        · exact ⟨_, _, _, rfl, rfl⟩
        · exact ⟨_, _, _, rfl, rfl⟩
      subst hv hnv
      go_wp2_with fail
      refine (need_any b s1 bad1 _ _ hr).mono ?_
      rintro e w2 ⟨rfl, hr2, hk2⟩
      go_wp2
      go_ret
      refine ⟨⟨_, rfl, by rw [HA.out, HV2.out, ← HX.out]; exact own_kept hown hk2 hb⟩, ?_, hk.trans hk2⟩
      have e4 : decide ((nv : Int) ≤ 30) = decide (nv ≤ 30) := by congr 1; simp only [eq_iff_iff]; omega
      rw [e4] at hr2
      rw [HC.out, HE2.out]
      exact hr2
    · have hp2 : (l == []) = false := by simpa using hp
      have hm1 := more_ne l hp
      rw [hm1] at hn
      have HM : Hid (more (.string ⟨l.toArray⟩) = 1) := hm1
      have HE2 : Hid (R = Pu.changesF ((Pu.line (Pu.change l s1 bad1).1 (Pu.change l s1 bad1).2).2.1.length + 1) (Pu.line (Pu.change l s1 bad1).1 (Pu.change l s1 bad1).2).1 (Pu.line (Pu.change l s1 bad1).1 (Pu.change l s1 bad1).2).2.1 (Pu.line (Pu.change l s1 bad1).1 (Pu.change l s1 bad1).2).2.2 (n + 1)) := by
        show _ = _
        rw [HE.out, Pu.changesF_step _ _ _ _ hp2]
      have HV2 : Hid (RV = (xs ++ [Pu.changeV l s1 bad1]) ++ Pu.changesV ((Pu.line (Pu.change l s1 bad1).1 (Pu.change l s1 bad1).2).2.1.length + 1) (Pu.line (Pu.change l s1 bad1).1 (Pu.change l s1 bad1).2).1 (Pu.line (Pu.change l s1 bad1).1 (Pu.change l s1 bad1).2).2.1 (Pu.line (Pu.change l s1 bad1).1 (Pu.change l s1 bad1).2).2.2) := by
        show _ = _
        rw [HV.out, Pu.changesV_step _ _ _ hp2, List.append_assoc, List.singleton_append]
      have hless := round_less l s1 bad1
      have hll2 := (Pu.line_lens (Pu.change l s1 bad1).1 (Pu.change l s1 bad1).2).1
      have hcl := Pu.change_le l s1 bad1
      have hsh := hr.short
      clear HE HV hm1 hp
      go_wp2_with fail
      refine (change_any b l s1 bad1 _ hr hl).mono ?_
      rintro e w2 ⟨rfl, hr2, hk2⟩
      generalize Pu.change l s1 bad1 = st at *
      generalize Pu.changeV l s1 bad1 = cv at *
      obtain ⟨s2, bad2⟩ := st
      obtain ⟨q1, q2, q3, q4, q5, q6⟩ := cv
      unfold chC
      have hown2 := own_kept hown hk2 hb
      go_wp2_with (at_builtin; refine wpList_append_own _ rfl (.tmp 11) (.tmp 15) 156 rfl w.heap.size 332 i0 _ 6 88 Tryz.underlying156 hi hz0 hz1 hz2 rfl (by decide) _ _ _ rfl (hown2.alloc _) ⟨w2.heap.size, 0, none⟩ 1 1 [.string ⟨q1.toArray⟩, .string ⟨q2.toArray⟩, .int .i64 q3, .string ⟨q4.toArray⟩, .string ⟨q5.toArray⟩, .string ⟨q6.toArray⟩] rfl rfl ?c1 ?c2 ?c3 ?c4 ?c5 ?_)
      case c1 => exact cells_new _ [_, _, _, _, _, _] _
      case c2 => simp [Value.oneCell']
      case c3 => unfold maxLen; omega
      case c4 => omega
      case c5 => have := hk2.size; simp; omega
      intro v4 w4 hown4 hgrow4 _
      have hk4 : Kx (Only b) w w4 := ((hk.trans hk2).alloc _).grown hgrow4 (fun k he => (hown2.lt k he).1)
      have hr4 : Rd b s2 bad2 w4 := (hr2.alloc _).grown hgrow4 (fun k he => by have := (hown2.lt k he).1; omega)
      go_wp2_with fail
      refine (line_any b s2 bad2 _ hr4).mono ?_
      rintro e w5 ⟨rfl, hr5, hk5⟩
      generalize Pu.line s2 bad2 = y at *
      obtain ⟨y0, y1, y2⟩ := y
      have hown5 := own_kept hown4 hk5 hb
      go_wp2
      go_roundw
      case rel => exact ⟨n + 1, y0, y1, y2, xs ++ [⟨q1, q2, q3, q4, q5, q6⟩], by rw [HX.out]; simp, rfl, by omega, by omega, hr5, hk4.trans hk5, by unfold chsC; rw [List.flatMap_append]; exact hown5, HE2.out, HV2.out⟩
      case measure => rw [hr5.left, hr.left, HM.out]; omega

end Go.Proofs.YtepgoppgblfjbaaGreatDoor
