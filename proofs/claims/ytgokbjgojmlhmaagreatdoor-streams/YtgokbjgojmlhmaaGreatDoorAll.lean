/- readAll, Read, Check. -/
import Derived.Test.YtgokbjgojmlhmaaGreatDoorOne
import Derived.Test.YtgokbjgojmlhmaaGreatDoorLens2
namespace Go.Proofs.YtgokbjgojmlhmaaGreatDoor
open Go.RowKit

theorem Tryz.info153 : (Tryz.prog.info? 153).map (fun i => (i.zero, i.size, i.bytes)) = some (some (.agg #[.string ⟨#[]⟩, .string ⟨#[]⟩, .int .i64 0, .string ⟨#[]⟩, .string ⟨#[]⟩, .int .i64 0, .string ⟨#[]⟩, .int .i64 0, .string ⟨#[]⟩, .slice none 0 0, .slice none 0 0]), 11, 168) := by kernel_rfl

theorem own_slice {w : World} {base : Nat} {e : TypeId} {size : Nat} {v : Value} {n : Nat} {xs : List Value} (h : w.ownsRow base e size v n xs) : ∃ av cv, v = .slice av n cv := by
  rcases h.2 with ⟨rfl, rfl⟩ | ⟨g, cap, cur, rfl, _⟩
  · exact ⟨_, _, rfl⟩
  · exact ⟨_, _, rfl⟩

set_option maxHeartbeats 2000000 in
set_option maxRecDepth 100000 in
theorem readAll_any (b : Nat) (s : List UInt8) (w : World) (h : Rd b s false w) :
    Calls Tryz.prog 52 #[.pointer (some ⟨b, 0, none⟩)] w fun e w' => (∃ av cv, e = .returned (.slice av (Pu.readAll s).1 cv)) ∧ Rd b (Pu.readAll s).2.1 (Pu.readAll s).2.2 w' ∧ (Pu.readAll s).1 ≤ 8000 ∧ Kx (Only b) w w' := by
  have hb := h.lt
  have hs := h.short
  obtain ⟨i0, hi, hz0, hz1, hz2⟩ := info_parts Tryz.info153
  obtain ⟨R, HR⟩ : ∃ R, Hid (Pu.readAll s = R) := ⟨_, rfl⟩
  rw [HR.out]
  go_enter Tryz.func52, Tryz.ntmps52
  go_wp2
  go_loopw [3] (fun v w' => ∃ (n : Nat) (s' : List UInt8) (xs : List Value), n + s'.length ≤ s.length ∧ Rd b s' false w' ∧ Kx (Only b) w w' ∧ w'.ownsRow w.heap.size 153 11 v n xs ∧ R = Pu.readAllF (s'.length + 1) s' false n) (fun _ w' => left b w')
  case atStart => exact ⟨0, s, [], by omega, h, Kx.refl _ _, World.ownsRow_nil _ _ _ _, HR.out.symm⟩
  case round =>
    obtain ⟨n, s1, xs, hn, hr, hk, hown, hE⟩ := hrel
    have HE : Hid (R = Pu.readAllF (s1.length + 1) s1 false n) := hE
    clear hE
    have hsz := hk.size
    obtain ⟨av, cv, rfl⟩ := own_slice hown
    have hsh := hr.short
    go_wp2_with fail
    refine (word_any b s1 false _ hr).mono ?_
    rintro e w1 ⟨rfl, q, rfl⟩
    cases hw : (Pu.word s1 == Pu.sDone)
    · have hwb : (Pu.word s1 == [100, 111, 110, 101]) = false := hw
      cases hbd : (Pu.readOne s1 false).2
      · have HE2 : Hid (R = Pu.readAllF ((Pu.readOne s1 false).1.length + 1) (Pu.readOne s1 false).1 false (n + 1)) := by
          show _ = _
          rw [HE.out, Pu.readAllF_step _ _ _ hw hbd, hbd]
        have hlt := Pu.readOne_lt' s1 false hbd
        have HB : Hid ((Pu.readOne s1 false).2 = false) := hbd
        clear HE hw hbd
        go_wp2_with fail
        refine (readOne_any b s1 false _ (hr.drewN q)).mono ?_
        rintro e w2 ⟨⟨v, ⟨a0, a1, a2, a3, a4, a5, a6, a7, a8, a9, n9, c9, a10, n10, c10, rfl⟩, rfl⟩, hr2, hk2⟩
        rw [HB.out] at hr2
        generalize (Pu.readOne s1 false).1 = s2 at *
        have hown2 := own_kept (own_kept hown ((Kx.refl (Only b) _).drewN q) hb) hk2 hb
        have hr3 := hr2.alloc (.cells #[.string a0, .string a1, .int .i64 a2, .string a3, .string a4, .int .i64 a5, .string a6, .int .i64 a7, .string a8, .slice a9 n9 c9, .slice a10 n10 c10] 153)
        have hk3 := ((hk.drewN q).trans hk2).alloc (.cells #[.string a0, .string a1, .int .i64 a2, .string a3, .string a4, .int .i64 a5, .string a6, .int .i64 a7, .string a8, .slice a9 n9 c9, .slice a10 n10 c10] 153)
        have hz3 : (w2.alloc (.cells #[.string a0, .string a1, .int .i64 a2, .string a3, .string a4, .int .i64 a5, .string a6, .int .i64 a7, .string a8, .slice a9 n9 c9, .slice a10 n10 c10] 153)).heap.size = w2.heap.size + 1 := by simp
        have hw2 := hk2.size
        have hC := Cb.new #[.string a0, .string a1, .int .i64 a2, .string a3, .string a4, .int .i64 a5, .string a6, .int .i64 a7, .string a8, .slice a9 n9 c9, .slice a10 n10 c10] 153 w2
        obtain ⟨c0, c1, f0, f1, pos, ⟨m, hm⟩, short⟩ := hr3
        go_wp2_with (at_builtin; refine wpList_append_own _ rfl (.tmp 18) (.tmp 20) 78 rfl w.heap.size 153 i0 _ 11 168 Tryz.underlying78 hi hz0 hz1 hz2 rfl (by decide) _ _ _ rfl ((hown2.alloc _).alloc _) ⟨w2.heap.size + 1, 0, none⟩ 1 1 [.string a0, .string a1, .int .i64 a2, .string a3, .string a4, .int .i64 a5, .string a6, .int .i64 a7, .string a8, .slice a9 n9 c9, .slice a10 n10 c10] rfl rfl ?c1 ?c2 ?c3 ?c4 ?c5 ?_)
        case c1 =>
          have hcn := cells_new (w2.alloc (.cells #[.string a0, .string a1, .int .i64 a2, .string a3, .string a4, .int .i64 a5, .string a6, .int .i64 a7, .string a8, .slice a9 n9 c9, .slice a10 n10 c10] 153)) [.string a0, .string a1, .int .i64 a2, .string a3, .string a4, .int .i64 a5, .string a6, .int .i64 a7, .string a8, .slice a9 n9 c9, .slice a10 n10 c10] 153
          rw [World.size_alloc] at hcn
          exact hcn
        case c2 => simp [Value.oneCell']
        case c3 => unfold maxLen; omega
        case c4 => omega
        case c5 => simp at hw2 ⊢; omega
        intro v4 w4 hown4 hgrow4 _
        have hk4 : Kx (Only b) w w4 := (hk3.alloc _).grown hgrow4 (fun k he => (hown2.lt k he).1)
        have hr4 : Rd b s2 false w4 := ((hr2.alloc _).alloc _).grown hgrow4 (fun k he => by have := (hown2.lt k he).1; omega)
        go_wp2
        go_roundw
        case rel => exact ⟨n + 1, s2, _, by omega, hr4, hk4, hown4, HE2.out⟩
        case measure => rw [hr4.left, hr.left]; exact hlt
      · have HE2 : Hid (R = (n, (Pu.readOne s1 false).1, (Pu.readOne s1 false).2)) := by
          show _ = _
          rw [HE.out, Pu.readAllF_bad _ _ _ _ hw hbd]
        have HB : Hid ((Pu.readOne s1 false).2 = true) := hbd
        clear HE hw hbd
        go_wp2_with fail
        refine (readOne_any b s1 false _ (hr.drewN q)).mono ?_
        rintro e w2 ⟨⟨v, ⟨a0, a1, a2, a3, a4, a5, a6, a7, a8, a9, n9, c9, a10, n10, c10, rfl⟩, rfl⟩, hr2, hk2⟩
        rw [HB.out] at hr2 HE2
        generalize (Pu.readOne s1 false).1 = s2 at *
        have hr3 := hr2.alloc (.cells #[.string a0, .string a1, .int .i64 a2, .string a3, .string a4, .int .i64 a5, .string a6, .int .i64 a7, .string a8, .slice a9 n9 c9, .slice a10 n10 c10] 153)
        have hr4 := hr3
        have hk3 := ((hk.drewN q).trans hk2).alloc (.cells #[.string a0, .string a1, .int .i64 a2, .string a3, .string a4, .int .i64 a5, .string a6, .int .i64 a7, .string a8, .slice a9 n9 c9, .slice a10 n10 c10] 153)
        obtain ⟨c0, c1, f0, f1, pos, ⟨m, hm⟩, short⟩ := hr3
        go_wp2
        go_ret
        refine ⟨⟨av, cv, ?_⟩, ?_, ?_, hk3⟩
        · rw [HE2.out]; rfl
        · rw [HE2.out]; exact hr4
        · rw [HE2.out]; show n ≤ 8000; omega
    · have hwb : Pu.word s1 = [100, 111, 110, 101] := beq_iff_eq.1 hw
      have HE2 : Hid (R = (n, (Pu.exactly Pu.sDone s1 false).1, (Pu.exactly Pu.sDone s1 false).2)) := by
        show _ = _
        rw [HE.out, Pu.readAllF_done _ _ _ _ hw]
      clear HE hw
      rw [hwb]
      clear hwb
      go_wp2_with fail
      refine (exactly_any b s1 false Pu.sDone _ (hr.drewN q)).mono ?_
      rintro e w2 ⟨rfl, hr2, hk2⟩
      generalize Pu.exactly Pu.sDone s1 false = st at *
      obtain ⟨s2, bad2⟩ := st
      go_wp2
      go_ret
      refine ⟨⟨av, cv, ?_⟩, ?_, ?_, (hk.drewN q).trans hk2⟩
      · rw [HE2.out]; rfl
      · rw [HE2.out]; exact hr2
      · rw [HE2.out]; show n ≤ 8000; omega

end Go.Proofs.YtgokbjgojmlhmaaGreatDoor
