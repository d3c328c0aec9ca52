/- readAll, Read, Check. -/
import Derived.Test.YtepgoppgblfjbaaGreatDoorOne
import Derived.Test.YtepgoppgblfjbaaGreatDoorCont2
import Derived.Maps.AppendAt
import Derived.Test.YtepgoppgblfjbaaGreatDoorMap1
namespace Go.Proofs.YtepgoppgblfjbaaGreatDoor
open Go.RowKit

theorem Tryz.info158 : (Tryz.prog.info? 158).map (fun i => (i.zero, i.size, i.bytes)) = some (some (.agg #[.string ⟨#[]⟩, .string ⟨#[]⟩, .int .i64 0, .string ⟨#[]⟩, .string ⟨#[]⟩, .int .i64 0, .string ⟨#[]⟩, .int .i64 0, .string ⟨#[]⟩, .slice none 0 0, .slice none 0 0]), 11, 168) := by kernel_rfl

theorem own_slice {w : World} {base : Nat} {e : TypeId} {size : Nat} {v : Value} {n : Nat} {xs : List Value} (h : w.ownsRow base e size v n xs) : ∃ av cv, v = .slice av n cv := by
  rcases h.2 with ⟨rfl, rfl⟩ | ⟨g, cap, cur, rfl, _⟩
  · exact ⟨_, _, rfl⟩
  · exact ⟨_, _, rfl⟩

set_option maxHeartbeats 2000000 in
set_option maxRecDepth 100000 in
theorem readAll_any (b : Nat) (s : List UInt8) (w : World) (h : Rd b s false w) :
    Calls Tryz.prog 79 #[.pointer (some ⟨b, 0, none⟩)] w fun e w' => (∃ av cv, e = .returned (.slice av (Pu.readAll s).1 cv) ∧ CosAt w' w.heap.size (.slice av (Pu.readAll s).1 cv) (Pu.commands s)) ∧ Rd b (Pu.readAll s).2.1 (Pu.readAll s).2.2 w' ∧ (Pu.readAll s).1 ≤ 8000 ∧ Kx (Only b) w w' := by
  have hb := h.lt
  have hs := h.short
  obtain ⟨i0, hi, hz0, hz1, hz2⟩ := info_parts Tryz.info158
  obtain ⟨R, HR⟩ : ∃ R, Hid (Pu.readAll s = R) := ⟨_, rfl⟩
  obtain ⟨RV, HRV⟩ : ∃ RV, Hid (Pu.commands s = RV) := ⟨_, rfl⟩
  rw [HR.out, HRV.out]
  go_enter Tryz.func79, Tryz.ntmps79
  go_wp2
  go_loopw [3] (fun v w' => ∃ (n : Nat) (s' : List UInt8) (xs : List Value) (cs : List Pu.Co), n = cs.length ∧ CoRow w' w.heap.size v.ownBlock cs xs ∧ RV = cs ++ Pu.readAllV (s'.length + 1) s' false ∧ n + s'.length ≤ s.length ∧ Rd b s' false w' ∧ Kx (Only b) w w' ∧ w'.ownsRow w.heap.size 158 11 v n xs ∧ R = Pu.readAllF (s'.length + 1) s' false n) (fun _ w' => left b w')
  case atStart => exact ⟨0, s, [], [], rfl, rfl, HRV.out.symm, by omega, h, Kx.refl _ _, World.ownsRow_nil _ _ _ _, HR.out.symm⟩
  case round =>
    obtain ⟨n, s1, xs, cs, hncs, hrow, hV, hn, hr, hk, hown, hE⟩ := hrel
    have HN : Hid (n = cs.length) := hncs
    have HV : Hid (RV = cs ++ Pu.readAllV (s1.length + 1) s1 false) := hV
    clear hV hncs
    have HE : Hid (R = Pu.readAllF (s1.length + 1) s1 false n) := hE
    clear hE
    have hsz := hk.size
    obtain ⟨av, cv, rfl⟩ := own_slice hown
    have hsh := hr.short
    go_wp2_with fail
    refine (word_any b s1 false _ hr).mono ?_
    rintro e w1 ⟨rfl, q, rfl⟩
    cases hw : (Pu.word s1 == Pu.sDone)
    · have hwb : (Pu.word s1 == [100, 111, 110, 101]) = false := hw
      cases hbd : (Pu.readOne s1 false).2
      · have HE2 : Hid (R = Pu.readAllF ((Pu.readOne s1 false).1.length + 1) (Pu.readOne s1 false).1 false (n + 1)) := by
          show _ = _
          rw [HE.out, Pu.readAllF_step _ _ _ hw hbd, hbd]
        have HV2 : Hid (RV = (cs ++ [Pu.readOneV s1 false]) ++ Pu.readAllV ((Pu.readOne s1 false).1.length + 1) (Pu.readOne s1 false).1 false) := by
          show _ = _
          rw [HV.out, Pu.readAllV_step _ _ hw hbd, hbd, List.append_assoc, List.singleton_append]
        have hlt := Pu.readOne_lt' s1 false hbd
        have HB : Hid ((Pu.readOne s1 false).2 = false) := hbd
        clear HE hw hbd
        go_wp2_with fail
        refine (readOne_any b s1 false _ (hr.drewN q)).mono ?_
        rintro e w2 ⟨⟨v, rfl, vm, vc, hvv, hS2⟩, hr2, hk2⟩
        generalize Pu.readOneV s1 false = cc at *
        obtain ⟨qm, cm, hvm, _⟩ := id hS2.ms
        obtain ⟨qc, cc2, hvc, _⟩ := id hS2.cs
        subst hvm hvc hvv
        unfold coC
        rw [HB.out] at hr2
        generalize (Pu.readOne s1 false).1 = s2 at *
        have hown2 := own_kept (own_kept hown ((Kx.refl (Only b) _).drewN q) hb) hk2 hb
        have hr3 := hr2.alloc (.cells #[.string ⟨cc.word.toArray⟩, .string ⟨cc.ref.toArray⟩, .int .i64 cc.mark, .string ⟨cc.au.name.toArray⟩, .string ⟨cc.au.mail.toArray⟩, .int .i64 cc.au.time, .string ⟨cc.data.toArray⟩, .int .i64 cc.frm.mark, .string ⟨cc.frm.ref.toArray⟩, .slice qm cc.merges.length cm, .slice qc cc.changes.length cc2] 158)
        have hk3 := ((hk.drewN q).trans hk2).alloc (.cells #[.string ⟨cc.word.toArray⟩, .string ⟨cc.ref.toArray⟩, .int .i64 cc.mark, .string ⟨cc.au.name.toArray⟩, .string ⟨cc.au.mail.toArray⟩, .int .i64 cc.au.time, .string ⟨cc.data.toArray⟩, .int .i64 cc.frm.mark, .string ⟨cc.frm.ref.toArray⟩, .slice qm cc.merges.length cm, .slice qc cc.changes.length cc2] 158)
        have hz3 : (w2.alloc (.cells #[.string ⟨cc.word.toArray⟩, .string ⟨cc.ref.toArray⟩, .int .i64 cc.mark, .string ⟨cc.au.name.toArray⟩, .string ⟨cc.au.mail.toArray⟩, .int .i64 cc.au.time, .string ⟨cc.data.toArray⟩, .int .i64 cc.frm.mark, .string ⟨cc.frm.ref.toArray⟩, .slice qm cc.merges.length cm, .slice qc cc.changes.length cc2] 158)).heap.size = w2.heap.size + 1 := by simp
        have hw2 := hk2.size
        have hC := Cb.new #[.string ⟨cc.word.toArray⟩, .string ⟨cc.ref.toArray⟩, .int .i64 cc.mark, .string ⟨cc.au.name.toArray⟩, .string ⟨cc.au.mail.toArray⟩, .int .i64 cc.au.time, .string ⟨cc.data.toArray⟩, .int .i64 cc.frm.mark, .string ⟨cc.frm.ref.toArray⟩, .slice qm cc.merges.length cm, .slice qc cc.changes.length cc2] 158 w2
        obtain ⟨c0, c1, f0, f1, pos, ⟨m, hm⟩, short⟩ := hr3
        go_wp2_with (at_builtin; refine wpList_append_own_at _ rfl (.tmp 18) (.tmp 20) 90 rfl w.heap.size 158 i0 _ 11 168 Tryz.underlying90 hi hz0 hz1 hz2 rfl (by decide) _ _ _ rfl ((hown2.alloc _).alloc _) ⟨w2.heap.size + 1, 0, none⟩ 1 1 [.string ⟨cc.word.toArray⟩, .string ⟨cc.ref.toArray⟩, .int .i64 cc.mark, .string ⟨cc.au.name.toArray⟩, .string ⟨cc.au.mail.toArray⟩, .int .i64 cc.au.time, .string ⟨cc.data.toArray⟩, .int .i64 cc.frm.mark, .string ⟨cc.frm.ref.toArray⟩, .slice qm cc.merges.length cm, .slice qc cc.changes.length cc2] rfl rfl ?c1 ?c2 ?c3 ?c4 ?c5 ?_)
        case c1 =>
          have hcn := cells_new (w2.alloc (.cells #[.string ⟨cc.word.toArray⟩, .string ⟨cc.ref.toArray⟩, .int .i64 cc.mark, .string ⟨cc.au.name.toArray⟩, .string ⟨cc.au.mail.toArray⟩, .int .i64 cc.au.time, .string ⟨cc.data.toArray⟩, .int .i64 cc.frm.mark, .string ⟨cc.frm.ref.toArray⟩, .slice qm cc.merges.length cm, .slice qc cc.changes.length cc2] 158)) [.string ⟨cc.word.toArray⟩, .string ⟨cc.ref.toArray⟩, .int .i64 cc.mark, .string ⟨cc.au.name.toArray⟩, .string ⟨cc.au.mail.toArray⟩, .int .i64 cc.au.time, .string ⟨cc.data.toArray⟩, .int .i64 cc.frm.mark, .string ⟨cc.frm.ref.toArray⟩, .slice qm cc.merges.length cm, .slice qc cc.changes.length cc2] 158
          rw [World.size_alloc] at hcn
          exact hcn
        case c2 => simp [Value.oneCell']
        case c3 => unfold maxLen; omega
        case c4 => omega
        case c5 => simp at hw2 ⊢; omega
        intro v4 w4 hown4 hgrow4 _ hloc4
        have hk4 : Kx (Only b) w w4 := (hk3.alloc _).grown hgrow4 (fun k he => (hown2.lt k he).1)
        have hr4 : Rd b s2 false w4 := ((hr2.alloc _).alloc _).grown hgrow4 (fun k he => by have := (hown2.lt k he).1; omega)
        go_wp2
        go_roundw
        case rel =>
          have hrow1 : CoRow w2 w.heap.size (Value.slice av n cv).ownBlock cs xs := hrow.kept (((Kx.refl (Only b) _).drewN q).trans hk2) (fun k hk' _ _ e => by unfold Only at e; omega)
          have hvl : ∀ k, (Value.slice av n cv).ownBlock = some k → k < wr.heap.size := fun k e => (hown.lt k e).2
          have hS3 : CoS w2 wr.heap.size (.slice qm cc.merges.length cm) (.slice qc cc.changes.length cc2) cc := hS2
          have g1 : ∀ k, (Value.slice qm cc.merges.length cm).ownBlock = some k → (Value.slice av n cv).ownBlock ≠ some k := fun k e1 e2 => by have h1 := hvl k e2; have h2 := (hS3.mb k e1).1; omega
          have g2 : ∀ k, (Value.slice qc cc.changes.length cc2).ownBlock = some k → (Value.slice av n cv).ownBlock ≠ some k := fun k e1 e2 => by have h1 := hvl k e2; have h2 := (hS3.cb k e1).1; omega
          have hrow2 := CoRow.snoc (hS3.mono hsz) g1 g2 hrow1
          have hkg : Kx (fun k => (Value.slice av n cv).ownBlock = some k) w2 w4 := (((Kx.refl _ _).alloc _).alloc _).trans ((Kx.of_grown hgrow4).mono (fun k _ e => e.symm))
          have hrow5 := hrow2.step (G' := v4.ownBlock) hkg (fun k _ _ hne e => hne e) (fun k hk' hne e => by
            rcases hloc4 with h | h
            · exact hne (h ▸ e)
            · rw [h] at e
              have := Option.some.inj e
              omega)
          exact ⟨n + 1, s2, _, cs ++ [cc], by rw [HN.out]; simp, hrow5, HV2.out, by omega, hr4, hk4, hown4, HE2.out⟩
        case measure => rw [hr4.left, hr.left]; exact hlt
      · have HE2 : Hid (R = (n, (Pu.readOne s1 false).1, (Pu.readOne s1 false).2)) := by
          show _ = _
          rw [HE.out, Pu.readAllF_bad _ _ _ _ hw hbd]
        have HV2 : Hid (RV = cs) := by
          show _ = _
          rw [HV.out, Pu.readAllV_bad _ _ _ hw hbd, List.append_nil]
        have HB : Hid ((Pu.readOne s1 false).2 = true) := hbd
        clear HE hw hbd
        go_wp2_with fail
        refine (readOne_any b s1 false _ (hr.drewN q)).mono ?_
        rintro e w2 ⟨⟨v, rfl, vm, vc, hvv, hS2⟩, hr2, hk2⟩
        generalize Pu.readOneV s1 false = cc at *
        obtain ⟨qm, cm, hvm, _⟩ := id hS2.ms
        obtain ⟨qc, cc2, hvc, _⟩ := id hS2.cs
        subst hvm hvc hvv
        unfold coC
        rw [HB.out] at hr2 HE2
        generalize (Pu.readOne s1 false).1 = s2 at *
        have hr3 := hr2.alloc (.cells #[.string ⟨cc.word.toArray⟩, .string ⟨cc.ref.toArray⟩, .int .i64 cc.mark, .string ⟨cc.au.name.toArray⟩, .string ⟨cc.au.mail.toArray⟩, .int .i64 cc.au.time, .string ⟨cc.data.toArray⟩, .int .i64 cc.frm.mark, .string ⟨cc.frm.ref.toArray⟩, .slice qm cc.merges.length cm, .slice qc cc.changes.length cc2] 158)
        have hr4 := hr3
        have hk3 := ((hk.drewN q).trans hk2).alloc (.cells #[.string ⟨cc.word.toArray⟩, .string ⟨cc.ref.toArray⟩, .int .i64 cc.mark, .string ⟨cc.au.name.toArray⟩, .string ⟨cc.au.mail.toArray⟩, .int .i64 cc.au.time, .string ⟨cc.data.toArray⟩, .int .i64 cc.frm.mark, .string ⟨cc.frm.ref.toArray⟩, .slice qm cc.merges.length cm, .slice qc cc.changes.length cc2] 158)
        obtain ⟨c0, c1, f0, f1, pos, ⟨m, hm⟩, short⟩ := hr3
        go_wp2
        go_ret
        refine ⟨⟨av, cv, ?_, ?_⟩, ?_, ?_, hk3⟩
        · rw [HE2.out]; rfl
        · rw [HE2.out, HV2.out]
          have hown2 := own_kept (own_kept hown ((Kx.refl (Only b) _).drewN q) hb) hk2 hb
          have hrow1 := hrow.kept (((Kx.refl (Only b) _).drewN q).trans hk2) (fun k hk' _ _ e => by unfold Only at e; omega)
          have hN := HN.out
          subst hN
          exact CosAt.of_own (hown2.alloc _) (hrow1.kept (X := fun _ => False) ((Kx.refl _ _).alloc _) (fun _ _ _ _ => id)) (Nat.le_refl _)
        · rw [HE2.out]; exact hr4
        · rw [HE2.out]; show n ≤ 8000; omega
    · have hwb : Pu.word s1 = [100, 111, 110, 101] := beq_iff_eq.1 hw
      have HE2 : Hid (R = (n, (Pu.exactly Pu.sDone s1 false).1, (Pu.exactly Pu.sDone s1 false).2)) := by
        show _ = _
        rw [HE.out, Pu.readAllF_done _ _ _ _ hw]
      have HV2 : Hid (RV = cs) := by
        show _ = _
        rw [HV.out, Pu.readAllV_done _ _ _ hw, List.append_nil]
      clear HE hw
      rw [hwb]
      clear hwb
      go_wp2_with fail
      refine (exactly_any b s1 false Pu.sDone _ (hr.drewN q)).mono ?_
      rintro e w2 ⟨rfl, hr2, hk2⟩
      generalize Pu.exactly Pu.sDone s1 false = st at *
      obtain ⟨s2, bad2⟩ := st
      go_wp2
      go_ret
      refine ⟨⟨av, cv, ?_, ?_⟩, ?_, ?_, (hk.drewN q).trans hk2⟩
      · rw [HE2.out]; rfl
      · rw [HE2.out, HV2.out]
        have hown2 := own_kept (own_kept hown ((Kx.refl (Only b) _).drewN q) hb) hk2 hb
        have hrow1 := hrow.kept (((Kx.refl (Only b) _).drewN q).trans hk2) (fun k hk' _ _ e => by unfold Only at e; omega)
        have hN := HN.out
        subst hN
        exact CosAt.of_own hown2 hrow1 (Nat.le_refl _)
      · rw [HE2.out]; exact hr2
      · rw [HE2.out]; show n ≤ 8000; omega

end Go.Proofs.YtepgoppgblfjbaaGreatDoor
