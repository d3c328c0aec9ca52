/- The reader's merges. -/
import Derived.Test.YtepgoppgblfjbaaGreatDoorReads
import Derived.Test.YtepgoppgblfjbaaGreatDoorLens
namespace Go.Proofs.YtepgoppgblfjbaaGreatDoor
open Go.RowKit

theorem Tryz.info154 : (Tryz.prog.info? 154).map (fun i => (i.zero, i.size, i.bytes)) = some (some (.agg #[.int .i64 0, .string ⟨#[]⟩]), 2, 24) := by kernel_rfl

/-- How much the reader at block b has still to read. -/
def left (b : Nat) (w : World) : Nat := match w.cell? ⟨b, 0, none⟩ with | some (.string x) => x.size | _ => 0

theorem Rd.left {b : Nat} {s : List UInt8} {bad : Bool} {w : World} (h : Rd b s bad w) : left b w = s.length := by
  unfold YtepgoppgblfjbaaGreatDoor.left; rw [h.c0]; simp [ByteArray.size]

/-- A row of the call's own stays behind what writes the reader's block alone. -/
theorem own_kept {b base : Nat} {e : TypeId} {size : Nat} {v : Value} {n : Nat} {xs : List Value} {w w' : World} (h : w.ownsRow base e size v n xs) (hk : Kx (Only b) w w') (hb : b < base) : w'.ownsRow base e size v n xs := by
  refine ⟨h.1, ?_⟩
  rcases h.2 with hn | ⟨g, cap, cur, rfl, hbg, hgg, rest⟩
  · exact .inl hn
  · refine .inr ⟨g, cap, cur, rfl, hbg, ?_, rest⟩
    rw [hk.block g (Array.getElem?_eq_some_iff.1 hgg).1 (by unfold Only; omega)]
    exact hgg

theorem Rd.grown {b : Nat} {s : List UInt8} {bad : Bool} {w w' : World} {row : Option Nat} (h : Rd b s bad w) (hg : w.grownBy w' row) (hr : ∀ k, row = some k → b < k) : Rd b s bad w' := by
  have hk : Kx (fun k => some k = row) w w' := ⟨hg.os, hg.tape, hg.output, hg.size, fun k hl hx => hg.block k hl hx⟩
  refine h.kept hk ?_ ?_
  · intro e; have := hr 1 e.symm; have := h.pos; omega
  · intro e; have := hr b e.symm; omega

set_option maxHeartbeats 800000 in
set_option maxRecDepth 100000 in
theorem merges_any (b : Nat) (s : List UInt8) (bad : Bool) (w : World) (h : Rd b s bad w) :
    Calls Tryz.prog 225 #[.pointer (some ⟨b, 0, none⟩)] w fun e w' => (∃ v, e = .returned v ∧ w'.ownsRow w.heap.size 154 2 v (Pu.mergesV s.length s bad).length (whsC (Pu.mergesV s.length s bad))) ∧ Rd b (Pu.merges s bad).1 (Pu.merges s bad).2 w' ∧ Kx (Only b) w w' := by
  have hb := h.lt
  have hs := h.short
  obtain ⟨i0, hi, hz0, hz1, hz2⟩ := info_parts Tryz.info154
  go_enter Tryz.func225, Tryz.ntmps225
  go_wp2
  go_loopw [3] (fun v w' => ∃ (n : Nat) (s' : List UInt8) (bad' : Bool) (xs : List Pu.Wh), n = xs.length ∧ n + s'.length ≤ s.length ∧ Rd b s' bad' w' ∧ Kx (Only b) w w' ∧ w'.ownsRow w.heap.size 154 2 v n (whsC xs) ∧ Pu.mergesF s.length s bad 0 = Pu.mergesF s'.length s' bad' n ∧ Pu.mergesV s.length s bad = xs ++ Pu.mergesV s'.length s' bad') (fun _ w' => left b w')
  case atStart => exact ⟨0, s, bad, [], rfl, by omega, h, Kx.refl _ _, World.ownsRow_nil _ _ _ _, rfl, rfl⟩
  case round =>
    obtain ⟨n, s1, bad1, xs, hxs, hn, hr, hk, hown, hE, hV⟩ := hrel
    have HE : Hid (Pu.mergesF s.length s bad 0 = Pu.mergesF s1.length s1 bad1 n) := hE
    have HV : Hid (Pu.mergesV s.length s bad = xs ++ Pu.mergesV s1.length s1 bad1) := hV
    have HX : Hid (n = xs.length) := hxs
    clear hE hV hxs
    have hr0 := hr
    obtain ⟨c0, c1, f0, f1, pos, ⟨m, hm⟩, short⟩ := hr
    have hsz := hk.size
    cases hp : Lib.hasPrefix s1 Pu.sMerge
    · have HE2 : Hid (Pu.mergesF s.length s bad 0 = (n, s1, bad1)) := by
        show _ = _
        rw [HE.out, Pu.mergesF_stop _ _ _ _ hp]
      have HV2 : Hid (Pu.mergesV s.length s bad = xs) := by
        show _ = _
        rw [HV.out, Pu.mergesV_stop _ _ _ hp, List.append_nil]
      have HP : Hid (Lib.hasPrefix s1 Pu.sMerge = false) := hp
      clear hp HE
      obtain ⟨av, nv, cv, hv, hnv⟩ : ∃ av nv cv, u3 = .slice av nv cv ∧ nv = n := by
        rcases hown.2 with ⟨rfl, rfl⟩ | ⟨g, cap, cur, rfl, _⟩
        · exact ⟨_, _, _, rfl, rfl⟩
        · exact ⟨_, _, _, rfl, rfl⟩
      subst hv hnv
      go_wp2_with fail
      refine (hasPrefix_any s1 Pu.sMerge _).mono ?_
      rintro e w1 ⟨rfl, rfl⟩
      rw [HP.out]
      go_wp2_with fail
      refine (need_any b s1 bad1 _ _ hr0).mono ?_
      rintro e w2 ⟨rfl, hr2, hk2⟩
      go_wp2
      go_ret
      refine ⟨⟨_, rfl, by rw [HV2.out, ← HX.out]; exact own_kept hown hk2 hb⟩, ?_, hk.trans hk2⟩
      have e4 : decide ((nv : Int) < 4) = decide (nv < 4) := by congr 1; simp only [eq_iff_iff]; omega
      rw [e4] at hr2
      unfold Pu.merges
      rw [HE2.out]
      exact hr2
    · have HE2 : Hid (Pu.mergesF s.length s bad 0 = Pu.mergesF (Pu.which Pu.sMerge s1 bad1).1.length (Pu.which Pu.sMerge s1 bad1).1 (Pu.which Pu.sMerge s1 bad1).2 (n + 1)) := by
        show _ = _
        rw [HE.out, Pu.mergesF_step _ _ _ hp]
      have HV2 : Hid (Pu.mergesV s.length s bad = (xs ++ [Pu.whichV Pu.sMerge s1 bad1]) ++ Pu.mergesV (Pu.which Pu.sMerge s1 bad1).1.length (Pu.which Pu.sMerge s1 bad1).1 (Pu.which Pu.sMerge s1 bad1).2) := by
        show _ = _
        rw [HV.out, Pu.mergesV_step _ _ hp, List.append_assoc, List.singleton_append]
      have hlt := Pu.which_lt Pu.sMerge s1 bad1 (Pu.hasPrefix_ne hp (by decide))
      have HP : Hid (Lib.hasPrefix s1 Pu.sMerge = true) := hp
      clear hp HE
      go_wp2_with fail
      refine (hasPrefix_any s1 Pu.sMerge _).mono ?_
      rintro e w1 ⟨rfl, rfl⟩
      rw [HP.out]
      go_wp2_with fail
      refine (which_any b s1 bad1 Pu.sMerge _ hr0).mono ?_
      rintro e w2 ⟨rfl, hr2, hk2⟩
      generalize Pu.which Pu.sMerge s1 bad1 = st at *
      generalize Pu.whichV Pu.sMerge s1 bad1 = wv at *
      obtain ⟨s2, bad2⟩ := st
      obtain ⟨q, x⟩ := wv
      have hown2 := own_kept hown hk2 hb
      go_wp2_with (at_builtin; refine wpList_append_own _ rfl (.tmp 9) (.tmp 12) 155 rfl w.heap.size 154 i0 _ 2 24 Tryz.underlying155 hi hz0 hz1 hz2 rfl (by decide) _ _ _ rfl (hown2.alloc _) ⟨w2.heap.size, 0, none⟩ 1 1 [.int .i64 q, .string ⟨x.toArray⟩] rfl rfl ?c1 ?c2 ?c3 ?c4 ?c5 ?_)
      case c1 => exact cells_new _ [_, _] _
      case c2 => simp [Value.oneCell']
      case c3 => unfold maxLen; omega
      case c4 => omega
      case c5 => have := hk2.size; simp; omega
      intro v4 w4 hown4 hgrow4 _
      have hk4 : Kx (Only b) w w4 := ((hk.trans hk2).alloc _).grown hgrow4 (fun k he => (hown2.lt k he).1)
      have hr4 : Rd b s2 bad2 w4 := (hr2.alloc _).grown hgrow4 (fun k he => by have := (hown2.lt k he).1; omega)
      go_wp2
      go_roundw
      case rel => exact ⟨n + 1, s2, bad2, xs ++ [⟨q, x⟩], by rw [HX.out]; simp, by omega, hr4, hk4, by unfold whsC; rw [List.flatMap_append]; exact hown4, HE2.out, HV2.out⟩
      case measure => rw [hr4.left, hr0.left]; exact hlt

end Go.Proofs.YtepgoppgblfjbaaGreatDoor
