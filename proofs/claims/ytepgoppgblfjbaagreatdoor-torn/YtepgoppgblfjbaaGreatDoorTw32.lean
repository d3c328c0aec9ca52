import Derived.Test.YtepgoppgblfjbaaGreatDoorTw31
import Derived.Test.YtepgoppgblfjbaaGreatDoorTw26
import Derived.Deep.CutRange
/- braidkeep.Torn itself. -/
namespace Go.Proofs.YtepgoppgblfjbaaGreatDoor
open Go.RowKit

theorem wq_enter {P : Program} {ops : Array Oper} {C : World → Prop} {Q : Act → Prop} {a : Act} {o : Oper} {rest : List Oper} (hg : o.guard = none) (f : Nat) (args : Array Value) (v : Value) (hrun : ∀ w, (execOp a.eval o).run P w = .ok (.enter f args) w)
    (hcall : ∀ w, C w → Calls P f args w fun e w' => e = .returned v ∧ C w') (h : WQ P ops C Q rest (a.put o.dst v)) : WQ P ops C Q (o :: rest) a := ⟨quiet_enter hg f args v hrun hcall h.out⟩

set_option maxHeartbeats 400000 in
theorem pick_wide (c : Int) (n : Nat) (w : World) (h1 : 0 < n) (h2 : n ≤ 100000000) (hc1 : -9223372036854775808 ≤ c) (hc2 : c ≤ 9223372036854775807) :
    Calls Tryz.prog 19 #[.int .i64 c, .int .i64 (n : Int)] w fun e w' => e = .returned (.int .i64 (pickN c n : Nat)) ∧ w' = w := by
  by_cases h : c < 0
  · have HE : Hid ((pickN c n : Int) = -(c + 1).tmod (n : Int)) := by
      show _ = _
      unfold pickN
      rw [if_pos h, toNat_mod _ _ (by omega), ← Int.tmod_eq_emod_of_nonneg (by omega), Int.neg_tmod]
    have hn : ¬ (n : Int) = 0 := by omega
    go_enter Tryz.func19, Tryz.ntmps19
    go_wp2
    go_ret
    exact ⟨ret_int HE.out.symm, rfl⟩
  · have HE : Hid ((pickN c n : Int) = c % (n : Int)) := by
      show _ = _
      unfold pickN; rw [if_neg h, toNat_mod _ _ (by omega)]
    have hn : ¬ (n : Int) = 0 := by omega
    go_enter Tryz.func19, Tryz.ntmps19
    go_wp2
    go_ret
    exact ⟨ret_int HE.out.symm, rfl⟩

/-- The streams that came in. -/
structure ActsL (W : World) (a : Option Addr) (len : Nat) (y : Nat → List UInt8) : Prop where
  small : len ≤ maxLen
  ylen : ∀ i, (y i).length ≤ 2405
  at' : len ≠ 0 → ∃ b off, a = some ⟨b, off, none⟩ ∧ ∀ i, i < len → ∃ a' l' c', W.cell? ⟨b, off + i, none⟩ = some (.slice a' l' c') ∧
    ∀ w1, Kx (fun _ => False) W w1 → Calls Tryz.prog 17 #[.slice a' l' c'] w1 fun e w' => e = .returned (.string ⟨(y i).toArray⟩) ∧ Kx (fun _ => False) w1 w'

theorem ActsL.get {W wr : World} {b off i : Nat} {v : Value} (h : W.cell? ⟨b, off + i, none⟩ = some v) (hk : Kx (fun _ => False) W wr) : wr.cell? ⟨b, off + i, none⟩ = some v :=
  (hk.cell (p := ⟨b, off + i, none⟩) (lt_of_cell (p := ⟨b, off + i, none⟩) h) id).trans h

namespace Pd
theorem runT_len (KK : List Int) (y : Nat → List UInt8) : ∀ i, (runT KK y i).length ≤ i
  | 0 => Nat.le_refl _
  | i + 1 => by
    have ih := runT_len KK y i
    show (took KK (runS KK y i) (runT KK y i) (y i)).length ≤ i + 1
    unfold took
    split
    · rw [List.length_append, List.length_singleton]; omega
    · omega

theorem runJ_len (KK : List Int) (y : Nat → List UInt8) (i : Nat) : (runJ KK y i).length ≤ 8037 * i := by
  have h1 := total_le (runT KK y i) (fun x hx => ((run_took KK y i).len x hx).2)
  have h2 := runT_len KK y i
  show (entries KK [] (runT KK y i)).length ≤ _
  rw [entries_len]
  exact Nat.le_trans h1 (Nat.mul_le_mul_left _ h2)

/-- The last of the first m that lies whole in n bytes. -/
theorem at_ex (KK : List Int) (y : Nat → List UInt8) (n : Nat) : ∀ m, ∃ a, a ≤ m ∧ (runJ KK y a).length ≤ n ∧ ∀ k, a < k → k ≤ m → n < (runJ KK y k).length
  | 0 => ⟨0, Nat.le_refl _, Nat.zero_le _, fun k h1 h2 => by omega⟩
  | m + 1 => by
    by_cases h : (runJ KK y (m + 1)).length ≤ n
    · exact ⟨m + 1, Nat.le_refl _, h, fun k h1 h2 => by omega⟩
    · obtain ⟨a, h1, h2, h3⟩ := at_ex KK y n m
      refine ⟨a, by omega, h2, fun k h4 h5 => ?_⟩
      by_cases e : k = m + 1
      · rw [e]; omega
      · exact h3 k h4 (by omega)

theorem openS_at (KK : List Int) (y : Nat → List UInt8) (m i n : Nat) (hi : i ≤ m) (h1 : (runJ KK y i).length ≤ n) (h2 : ∀ k, i < k → k ≤ m → n < (runJ KK y k).length) :
    readJ KK (((runJ KK y m).take n).length + 1) ((runJ KK y m).take n) [] [] = some (runT KK y i) ∧ openS KK ((runJ KK y m).take n) = some (runS KK y i, runT KK y i) := by
  have h := read_at KK y m i n (((runJ KK y m).take n).length + 1) hi h1 h2 (Nat.lt_succ_self _)
  refine ⟨h, ?_⟩
  unfold openS
  rw [h]
  show (replay KK St.empty (runT KK y i)).map _ = _
  rw [(run_took KK y i).rep]
  rfl
end Pd

def lensJ (J : Nat → List UInt8) (i : Nat) : List Nat := (List.range (i + 1)).map fun k => (J k).length
theorem lensJ_succ (J : Nat → List UInt8) (i : Nat) : lensJ J (i + 1) = lensJ J i ++ [(J (i + 1)).length] := by
  unfold lensJ
  rw [List.range_succ, List.map_append]
  rfl
theorem lensJ_len (J : Nat → List UInt8) (i : Nat) : (lensJ J i).length = i + 1 := by simp [lensJ]
theorem lensJ_at (J : Nat → List UInt8) (i k : Nat) (h : k ≤ i) : (intsV (lensJ J i))[k]? = some (.int .i64 ((J k).length : Int)) := by
  unfold intsV lensJ
  rw [List.getElem?_map, List.getElem?_map, List.getElem?_range (by omega)]
  rfl

/-- What was shown, so far. -/
def Shows (S : Nat → St) (O : List (List UInt8)) : Prop := ∀ k x, O[k]? = some x → ShownR (S k) x
theorem Shows.snoc {S : Nat → St} {O : List (List UInt8)} {i : Nat} {x : List UInt8} (h : Shows S O) (hl : O.length = i) (hx : ShownR (S i) x) : Shows S (O ++ [x]) := by
  intro k z hz
  by_cases hk : k < O.length
  · rw [List.getElem?_append_left hk] at hz
    exact h k z hz
  · rw [List.getElem?_append_right (by omega)] at hz
    have h0 : k - O.length = 0 := by
      by_cases h0 : k - O.length = 0
      · exact h0
      · rw [List.getElem?_eq_none (by simp; omega)] at hz; cases hz
    rw [h0] at hz
    obtain rfl : x = z := by simpa using hz
    have : k = i := by omega
    rw [this]
    exact hx
theorem shown_empty : ShownR St.empty [] := ⟨[], [], [], ⟨List.Pairwise.nil, fun k => by simp [St.empty]⟩, ⟨List.Pairwise.nil, fun k => by simp [St.empty]⟩, ⟨List.Pairwise.nil, fun k => by simp [St.empty]⟩, rfl⟩

/-- The stores behind the first i streams, and their journals. -/
structure Run (y : Nat → List UInt8) (S : Nat → St) (J : Nat → List UInt8) : Prop where
  s0 : S 0 = St.empty
  j0 : J 0 = []
  s1 : ∀ i, (Pd.imp Sh.K (S i) (y i)).2 = S (i + 1)
  j1 : ∀ i, (if (Pd.imp Sh.K (S i) (y i)).1.2 = 0 then Pd.record Sh.K (J i) (y i) else J i) = J (i + 1)
  jr : ∀ i, ¬ (Pd.imp Sh.K (S i) (y i)).1.2 = 0 → J (i + 1) = J i
  len : ∀ i, (J i).length ≤ 8037 * i
  pre : ∀ i k, (J (i + k)).take (J i).length = J i ∧ (J i).length ≤ (J (i + k)).length
  ats : ∀ n m, ∃ a, a ≤ m ∧ (J a).length ≤ n ∧ ∀ k, a < k → k ≤ m → n < (J k).length
  op : ∀ m i n, i ≤ m → (J i).length ≤ n → (∀ k, i < k → k ≤ m → n < (J k).length) → ∃ xs, xs.length ≤ i ∧ Pd.entries Sh.K [] xs = J i ∧ Pd.readJ Sh.K (((J m).take n).length + 1) ((J m).take n) [] [] = some xs ∧ Pd.openS Sh.K ((J m).take n) = some (S i, xs)

theorem run_ex (y : Nat → List UInt8) : ∃ S J, Run y S J := by
  refine ⟨Pd.runS Sh.K y, Pd.runJ Sh.K y, rfl, rfl, fun i => rfl, fun i => (Pd.runJ_succ Sh.K y i).symm, fun i h0 => by rw [Pd.runJ_succ, if_neg h0], Pd.runJ_len Sh.K y, Pd.runJ_pre Sh.K y, fun n m => Pd.at_ex Sh.K y n m, fun m i n h1 h2 h3 => ?_⟩
  obtain ⟨g1, g2⟩ := Pd.openS_at Sh.K y m i n h1 h2 h3
  exact ⟨Pd.runT Sh.K y i, Pd.runT_len Sh.K y i, rfl, g1, g2⟩

set_option maxHeartbeats 6400000 in
set_option maxRecDepth 100000 in
theorem torn_any (a : Option Addr) (len cap : Nat) (cut : Int) (y : Nat → List UInt8) (S : Nat → St) (J : Nat → List UInt8) (hrun : Run y S J) (w : World) (hgl : Gl w) (h7 : 7 ≤ w.heap.size) (hA : ActsL w a len y) (hcut : I64 cut) :
    Calls Tryz.prog 10 #[.slice a len cap, .int .i64 cut] w fun e w' => e = .returned (.bool true) ∧ Kx (fun _ => False) w w' := by
  have hmx : maxLen = 9223372036854775807 := rfl
  obtain ⟨i9, hi9, hz0, hz1, hz2⟩ := info_parts info9
  obtain ⟨i3, hi3, hy0, hy1, hy2⟩ := info_parts info3
  have hls := hA.small
  rw [hmx] at hls
  have HA : Hid (ActsL w a len y) := hA
  obtain ⟨m, hm1, hm2, hm3⟩ : ∃ m : Nat, m ≤ len ∧ m ≤ 5 ∧ (m < 5 → len ≤ m) := ⟨min len 5, by omega, by omega, by omega⟩
  clear hA
  go_enter Tryz.func10, Tryz.ntmps10
  go_wp2_with fail
  refine (opened_any w hgl h7).mono ?_
  rintro _ w1 ⟨rfl, hk1⟩
  have hgl1 := hgl.kept hk1 (fun _ _ => id)
  have h71 : 7 ≤ w1.heap.size := Nat.le_trans h7 hk1.size
  go_wp2_with fail
  refine (new_any (fun _ => False) w1 (fun _ h => h.elim) h71).mono ?_
  rintro _ w2 ⟨s, h, o, c, r, t, rfl, hN⟩
  have hT2 := Tn.start hk1 hN (hgl1.kept hN.kx (fun _ _ => id)) h7
  have hrun0 := hrun.s0
  have hrun1 := hrun.j0
  clear hN hk1 hgl hgl1 h71
  go_wp2_with fail
  revert hT2
  generalize (w2.alloc (.cells #[.string ⟨#[]⟩] 9)).alloc (.cells #[.int .i64 0] 3) = w3
  generalize w2.heap.size + 1 = eb
  generalize w2.heap.size = sb
  intro hT3
  have hby := hT3.bytes (by decide)
  refine hby.mono ?_
  rintro _ w4 ⟨vb, rfl, hrow, hk4⟩
  clear hby
  have hT4 := hT3.kept hk4
  have hcv := (BytesAt.of_own hrow rfl).conv
  clear hT3 hk4 hrow
  go_wp2_with fail
  clear hcv
  go_loopw [11, 9, 7, 8] (fun iv lv sv ev wr => ∃ (i : Nat) (O : List (List UInt8)), iv = .int .i64 i ∧ i ≤ m ∧ lv = .string ⟨(J i).toArray⟩ ∧ O.length = i + 1 ∧ Hid (Shows S O) ∧ Tn w wr s (S i) (J i) (800000 * i) sv O ev (lensJ J i)) (fun iv _ _ _ _ => m - (intOf iv).toNat)
  case atStart => exact ⟨0, [[]], rfl, by omega, by rw [hrun1], rfl, fun k x hx => by
      have hk : k = 0 := by
        have := (List.getElem?_eq_some_iff.1 hx).1
        simpa using this
      subst hk
      obtain rfl : [] = x := by simpa using hx
      show ShownR (S 0) []
      rw [hrun0]
      exact shown_empty, by rw [hrun0, hrun1, show lensJ J 0 = [0] from by unfold lensJ; simp [hrun1]]; exact hT4⟩
  case round =>
    obtain ⟨i, O, rfl, hi, rfl, hOl, HSh, hT⟩ := hrel
    clear hT4 hrun0 hrun1
    obtain ⟨sa, sc, hsv⟩ := hT.st.slice
    obtain ⟨ea, ec, hev⟩ := hT.en.slice
    subst hsv
    subst hev
    have hsl : (strsV O).length = i + 1 := by unfold strsV; rw [List.length_map]; exact hOl
    have hel : (intsV (lensJ J i)).length = i + 1 := by unfold intsV; rw [List.length_map, lensJ_len]
    rw [hsl, hel] at hT
    rw [hsl, hel]
    by_cases him : i < m
    · have hil : (i : Int) < (len : Int) := by omega
      have hi5 : (i : Int) < 5 := by omega
      obtain ⟨b, off, rfl, hcells⟩ := HA.out.at' (by omega)
      obtain ⟨a', l', c', hc0, hcall⟩ := hcells i (by omega)
      have hc := ActsL.get hc0 hT.kx
      have hstr := hcall wr hT.kx
      have hyl := HA.out.ylen i
      have hjl := hrun.len i
      have hjl2 := hrun.len (i + 1)
      have hJp := hrun.pre i 1
      have hJs := hrun.j1 i
      have hJ3 := hrun.jr i
      clear hcells hc0 hcall
      go_wp2_with fail
      refine hstr.mono ?_
      rintro _ w5 ⟨rfl, hk5⟩
      clear hstr hc
      have hT5 := hT.kept hk5
      have himp := hT5.import (y i) (by omega) (by omega) (by omega)
      rw [hJs, hrun.s1 i] at himp
      clear hJs hT hk5
      generalize (Pd.imp Sh.K (S i) (y i)).1.1 = n1 at *
      generalize (Pd.imp Sh.K (S i) (y i)).1.2 = e1 at *
      generalize y i = yi at *
      go_wp2_with fail
      refine himp.mono ?_
      rintro _ w6 ⟨rfl, hT6⟩
      clear himp hT5
      have hby := hT6.bytes (by omega)
      go_wp2_with fail
      refine hby.mono ?_
      rintro _ w7 ⟨vb7, rfl, hrow, hk7⟩
      clear hby
      have hcv := (BytesAt.of_own hrow rfl).conv
      have hT7 := hT6.kept hk7
      have hsh := hT7.shown (by omega)
      have HL : Hid (lensJ J (i + 1) = lensJ J i ++ [(J (i + 1)).length]) := lensJ_succ J i
      clear hT6 hk7 hrow
      obtain ⟨hJ2, hJ1⟩ := hJp
      have hext : (⟨(J (i + 1)).toArray⟩ : ByteArray).extract 0 (J i).length = ⟨(J i).toArray⟩ := by rw [ext_take, hJ2]
      clear hJ2
      generalize hJn : J (i + 1) = Jn at *
      have HJn : Hid (J (i + 1) = Jn) := hJn
      clear hJn
      generalize J i = Ji at *
      have hlt0 : ¬ (Jn.length : Int) < (Ji.length : Int) := by omega
      have hle0 : (Ji.length : Int) ≤ (Jn.length : Int) := by omega
      by_cases he1 : e1 = 0
      · subst he1
        clear hJ3
        go_wp2_with fail
        refine hsh.mono ?_
        rintro _ w8 ⟨out, rfl, hSR, hol, hk8⟩
        clear hsh
        have hT8 := hT7.kept hk8
        have HSh2 : Hid (Shows S (O ++ [out])) := HSh.out.snoc hOl hSR
        clear hT7 hk8 hSR
        have hst8 := hT8.st.alloc (.cells #[.string ⟨out.toArray⟩] 9)
        go_wp2_with (at_builtin; refine wpList_append_B _ rfl (.tmp 82) (.tmp 85) 35 rfl w.heap.size 9 i9 _ 16 Tryz.underlying35 hi9 hz0 hz1 hz2 rfl _ (strsV O) rfl hst8 ⟨w8.heap.size, 0, none⟩ 1 1 [.string ⟨out.toArray⟩] rfl rfl (by decide) ?cx1 ?cx2 ?cx3 ?cx4 ?cx5 ?_)
        case cx1 => exact cells_new w8 [.string ⟨out.toArray⟩] 9
        case cx2 => simp [Value.oneCell']
        case cx5 => have := hT8.kx.size; simp; omega
        all_goals try (first | omega | (unfold maxLen; omega))
        intro v9 w9 hown9 hgr9 hb9
        have hT9 := hT8.growS h7 hown9 hgr9 hb9
        clear hT8 hst8 hown9 hgr9 hb9
        have hen9 := hT9.en.alloc (.cells #[.int .i64 (Jn.length : Int)] 3)
        go_wp2_with (at_builtin; refine wpList_append_B _ rfl (.tmp 87) (.tmp 90) 49 rfl w.heap.size 3 i3 _ 8 Tryz.underlying49 hi3 hy0 hy1 hy2 rfl _ (intsV (lensJ J i)) rfl hen9 ⟨w9.heap.size, 0, none⟩ 1 1 [.int .i64 (Jn.length : Int)] rfl rfl (by decide) ?dx1 ?dx2 ?dx3 ?dx4 ?dx5 ?_)
        case dx1 => exact cells_new w9 [.int .i64 (Jn.length : Int)] 3
        case dx2 => simp [Value.oneCell']
        case dx5 => have := hT9.kx.size; simp; omega
        all_goals try (first | omega | (unfold maxLen; omega))
        intro v10 w10 hown10 hgr10 hb10
        have hT10 := (hT9.growE h7 hown10 hgr10 hb10).more (n' := 800000 * (i + 1)) (by omega)
        rw [← HL.out] at hT10
        clear hT9 hen9 hown10 hgr10 hb10
        go_wp2
        go_roundw
        case rel => exact ⟨i + 1, O ++ [out], by go_num, by omega, by rw [HJn.out], by rw [List.length_append, List.length_singleton, hOl], HSh2, by rw [HJn.out]; exact hT10⟩
        case measure => simp [intOf]; omega
      · have he2 : (e1 == 0) = false := by simpa using he1
        have hJ4 := hJ3 he1
        subst hJ4
        clear hJ3
        go_wp2_with fail
        refine hsh.mono ?_
        rintro _ w8 ⟨out, rfl, hSR, hol, hk8⟩
        clear hsh
        have hT8 := hT7.kept hk8
        have HSh2 : Hid (Shows S (O ++ [out])) := HSh.out.snoc hOl hSR
        clear hT7 hk8 hSR
        have hst8 := hT8.st.alloc (.cells #[.string ⟨out.toArray⟩] 9)
        go_wp2_with (at_builtin; refine wpList_append_B _ rfl (.tmp 82) (.tmp 85) 35 rfl w.heap.size 9 i9 _ 16 Tryz.underlying35 hi9 hz0 hz1 hz2 rfl _ (strsV O) rfl hst8 ⟨w8.heap.size, 0, none⟩ 1 1 [.string ⟨out.toArray⟩] rfl rfl (by decide) ?cy1 ?cy2 ?cy3 ?cy4 ?cy5 ?_)
        case cy1 => exact cells_new w8 [.string ⟨out.toArray⟩] 9
        case cy2 => simp [Value.oneCell']
        case cy5 => have := hT8.kx.size; simp; omega
        all_goals try (first | omega | (unfold maxLen; omega))
        intro v9 w9 hown9 hgr9 hb9
        have hT9 := hT8.growS h7 hown9 hgr9 hb9
        clear hT8 hst8 hown9 hgr9 hb9
        have hen9 := hT9.en.alloc (.cells #[.int .i64 (Jn.length : Int)] 3)
        go_wp2_with (at_builtin; refine wpList_append_B _ rfl (.tmp 87) (.tmp 90) 49 rfl w.heap.size 3 i3 _ 8 Tryz.underlying49 hi3 hy0 hy1 hy2 rfl _ (intsV (lensJ J i)) rfl hen9 ⟨w9.heap.size, 0, none⟩ 1 1 [.int .i64 (Jn.length : Int)] rfl rfl (by decide) ?dy1 ?dy2 ?dy3 ?dy4 ?dy5 ?_)
        case dy1 => exact cells_new w9 [.int .i64 (Jn.length : Int)] 3
        case dy2 => simp [Value.oneCell']
        case dy5 => have := hT9.kx.size; simp; omega
        all_goals try (first | omega | (unfold maxLen; omega))
        intro v10 w10 hown10 hgr10 hb10
        have hT10 := (hT9.growE h7 hown10 hgr10 hb10).more (n' := 800000 * (i + 1)) (by omega)
        rw [← HL.out] at hT10
        clear hT9 hen9 hown10 hgr10 hb10
        go_wp2
        go_roundw
        case rel => exact ⟨i + 1, O ++ [out], by go_num, by omega, by rw [HJn.out], by rw [List.length_append, List.length_singleton, hOl], HSh2, by rw [HJn.out]; exact hT10⟩
        case measure => simp [intOf]; omega
    · obtain rfl : i = m := by omega
      have hq : ¬ ((i : Int) < (len : Int)) ∨ ((i : Int) < (len : Int) ∧ ¬ (i : Int) < 5) := by omega
      have hi5 : i ≤ 5 := by omega
      have hjl : (J i).length ≤ 40185 := by have := hrun.len i; omega
      obtain ⟨hc1, hc2⟩ := hcut
      have hpick := fun w => pick_wide cut ((J i).length + 1) w (by omega) (by omega) hc1 hc2
      have hnl := pickN_lt cut ((J i).length + 1) (by omega)
      generalize pickN cut ((J i).length + 1) = nn at *
      have ecast : (((J i).length + 1 : Nat) : Int) = ((J i).length : Int) + 1 := by omega
      rw [ecast] at hpick
      have hext := ext_take (J i) nn
      have hnn : (nn : Int) ≤ ((J i).length : Int) := by omega
      obtain ⟨a0, ha1, ha2, ha3⟩ := hrun.ats nn i
      obtain ⟨xs, hrl, hxe0, hrd0, hop00⟩ := hrun.op i a0 nn ha1 ha2 ha3
      have HXE : Hid (Pd.entries Sh.K [] xs = J a0) := hxe0
      have HRD : Hid (Pd.readJ Sh.K (((J i).take nn).length + 1) ((J i).take nn) [] [] = some xs) := hrd0
      have HOP : Hid (Pd.openS Sh.K ((J i).take nn) = some (S a0, xs)) := hop00
      clear hxe0 hrd0 hop00
      have HJP : Hid ((J i).take (J a0).length = J a0) := by
        have := (hrun.pre a0 (i - a0)).1
        rw [show a0 + (i - a0) = i from by omega] at this
        exact this
      have HA3 : Hid (∀ k, a0 < k → k ≤ i → nn < (J k).length) := ha3
      clear ecast ha3 him hc1 hc2
      rcases hq with hq | ⟨hq, hq2⟩
      all_goals (
        go_wp2_with fail
        refine (hpick _).mono ?_
        rintro _ w5 ⟨rfl, hw5⟩
        subst hw5
        go_wp2_with (refine wpList_bytesOf _ rfl 9 58 5 _ rfl Tryz.underlying9 Tryz.underlying58 Tryz.underlying5 ((J i).take nn) rfl (by rw [List.length_take]; omega) ?_)
        intro v6 w6 hown6 hk6
        have hT6 := hT.kept hk6
        have hop := open_any (fun _ => False) v6 ((J i).take nn) w6 (fun _ h => h.elim) hT6.gl (BytesAt.of_ownB hown6) (by rw [List.length_take]; omega) (Nat.le_trans h7 hT6.kx.size) (fun xs hx => by rw [HRD.out] at hx; cases hx; omega)
        rw [HOP.out] at hop
        have hk06 := hT6.kx
        clear hown6 hpick hext
        go_wp2_with fail
        refine hop.mono ?_
        rintro e w7 ⟨hR, hk7⟩
        obtain ⟨t1, rfl, M7, X7, hU7, _, _, hX7⟩ : ∃ t1, e = .returned (.tuple #[.pointer (some ⟨t1, 0, none⟩), .int .i64 0]) ∧ OpenOk (fun _ => False) w6 w7 t1 (S a0) (Pd.entries Sh.K [] xs) (800000 * xs.length) := hR
        rw [HXE.out] at hU7
        clear hop
        have hT7 := hT6.kept hk7
        have hU7 := hU7.more (n' := 800000 * a0) (by omega)
        have hgl7 := hT7.gl
        have hws : w6.heap.size ≤ w7.heap.size := hk7.size
        go_wp2_with fail
        go_loopw [18, 19] (fun av kv wq => ∃ (q k : Nat), av = .int .i64 q ∧ kv = .int .i64 k ∧ k ≤ i + 1 ∧ q ≤ i ∧ (J q).length ≤ nn ∧ Hid (∀ z, q < z → z < k → nn < (J z).length) ∧ wq = w7) (fun _ kv _ => i + 1 - (intOf kv).toNat)
        case atStart => exact ⟨0, 0, rfl, rfl, by omega, by omega, by rw [hrun.j0]; exact Nat.zero_le _, fun z h1 h2 => by omega, rfl⟩
        case round =>
          obtain ⟨q, k, rfl, rfl, hk, hqi, hqn, HQ, hwq⟩ := hrel
          subst hwq
          by_cases hki : k < i + 1
          · have hki2 : (k : Int) < (i : Int) + 1 := by omega
            obtain ⟨ge, ec', he, _, _, _, hcell⟩ := hT7.en.cell (fun e => by have := hel; rw [e] at this; simp at this)
            rw [hel] at he
            cases he
            have hc := hcell k _ (lensJ_at J i k (by omega))
            clear hcell
            by_cases hle : (J k).length ≤ nn
            · have hle2 : ((J k).length : Int) ≤ (nn : Int) := by omega
              have HQ2 : Hid (∀ z, k < z → z < k + 1 → nn < (J z).length) := fun z h1 h2 => by omega
              go_wp2
              go_roundw
              case rel => exact ⟨k, k + 1, rfl, by go_num, by omega, by omega, hle, HQ2, trivial⟩
              case measure => simp [intOf]; omega
            · have hle2 : ¬ ((J k).length : Int) ≤ (nn : Int) := by omega
              have HQ2 : Hid (∀ z, q < z → z < k + 1 → nn < (J z).length) := fun z h1 h2 => by
                by_cases e : z = k
                · rw [e]; omega
                · exact HQ.out z h1 (by omega)
              go_wp2
              go_roundw
              case rel => exact ⟨q, k + 1, rfl, by go_num, by omega, hqi, hqn, HQ2, trivial⟩
              case measure => simp [intOf]; omega
          · obtain rfl : k = i + 1 := by omega
            have hki2 : ¬ ((i + 1 : Nat) : Int) < (i : Int) + 1 := by omega
            obtain rfl : q = a0 := by
              rcases Nat.lt_trichotomy q a0 with h | h | h
              · have := HQ.out a0 h (by omega); omega
              · exact h
              · have := HA3.out q h hqi; omega
        
            have hqO : q < O.length := by omega
            have hOA : O[q]? = some O[q] := List.getElem?_eq_getElem hqO
            have hSR := HSh.out q _ hOA
            have hjq : (J q).length ≤ 40185 := by omega
            have hby := hU7.bytes (by omega)
            have hk67 : Kx (fun _ => False) w6 wr := hk7
            go_wp2_with fail
            refine hby.mono ?_
            rintro _ w8 ⟨vb8, rfl, hrow8, hk8⟩
            clear hby
            have hcv := (BytesAt.of_own hrow8 rfl).conv
            have hT8 := hT7.kept hk8
            have hU8 := hU7.kept hk8
            have hk68 := hk67.trans hk8
            obtain ⟨gs, sc', hes, _, _, _, hcs⟩ := hT8.st.cell (fun e => by have := hsl; rw [e] at this; simp at this)
            rw [hsl] at hes
            cases hes
            obtain ⟨ge, ec', hee, _, _, _, hce⟩ := hT8.en.cell (fun e => by have := hel; rw [e] at this; simp at this)
            rw [hel] at hee
            cases hee
            have hcO : w8.cell? ⟨gs, q, none⟩ = some (.string ⟨O[q].toArray⟩) := hcs q _ (by unfold strsV; rw [List.getElem?_map, hOA]; rfl)
            have hcE := hce q _ (lensJ_at J i q hqi)
            clear hcs hce hrow8 hOA
            have hcall : ∀ w', Kx (fun _ => False) w8 w' → Calls Tryz.prog 37 #[.pointer (some ⟨t1, 0, none⟩)] w' fun e w'' => e = .returned (.string ⟨O[q].toArray⟩) ∧ Kx (fun _ => False) w8 w'' := fun w' hC => ((hU8.kept hC).shown (by omega)).mono (fun e w'' ⟨out, he, hs, _, hk⟩ => ⟨by rw [he, hs.one hSR], hC.trans hk⟩)
            have hxq := ext_take (J i) (J q).length
            rw [HJP.out] at hxq
            have hqle : ((J q).length : Int) ≤ ((J i).length : Int) := by
              have := (hrun.pre q (i - q)).2
              rw [show q + (i - q) = i from by omega] at this
              omega
            have hqi2 : (q : Int) < (i : Int) + 1 := by omega
            have HX7 : Hid (∀ k, X7 k → w6.heap.size ≤ k) := hX7
            have HU8 : Hid (Oj M7 w8 t1 (S q) (J q) (800000 * q) X7) := hU8
            have HT6 : Hid (Tn w w6 s (S i) (J i) (800000 * i) (.slice (some ⟨gs, 0, none⟩) (i + 1) sc) O (.slice (some ⟨ge, 0, none⟩) (i + 1) ec) (lensJ J i)) := hT6
            have HG8 : Hid (Gl w8) := hT8.gl
            clear hT hT6 hT7 hT8 hU7 hU8 hX7 hk7 hk8 hk67 hSR HQ hgl7
            generalize hOQ : O[q] = OA at *
            clear hOQ
            go_upto_region 30 with fail
            go_cut [165] from 127 to 165 (fun bv wx => bv = .bool false ∧ Kx (fun _ => False) w8 wx)
            case first =>
              by_cases hq0 : q = 0
              · subst hq0
                have hj0 := hrun.j0
                rw [hj0] at hxq hqle hcE hjq hqn
                go_wp2_with fail
                refine wp_region_wq (C := fun w' => Kx (fun _ => False) w8 w') 38 (by kernel_rfl) (by kernel_rfl) (Kx.refl _ _).drew ?_
                simp only [List.take_succ_cons, List.take_zero, List.drop_succ_cons, List.drop_zero]
                refine wq_val rfl (.pointer (some ⟨t1, 0, none⟩)) (fun w' hC => by go_simp) ?_
                simp only [Act.put, List.setIfInBounds_toArray, List.set_cons_succ, List.set_cons_zero]
                refine wq_enter rfl 37 #[.pointer (some ⟨t1, 0, none⟩)] (.string ⟨OA.toArray⟩) (fun w' => by go_simp) hcall ?_
                simp only [Act.put, List.setIfInBounds_toArray, List.set_cons_succ, List.set_cons_zero]
                refine wq_val rfl (.slice (some ⟨gs, 0, none⟩) (i + 1) sc) (fun w' hC => by go_simp) ?_
                simp only [Act.put, List.setIfInBounds_toArray, List.set_cons_succ, List.set_cons_zero]
                refine wq_val rfl (.int .i64 0) (fun w' hC => by go_simp) ?_
                simp only [Act.put, List.setIfInBounds_toArray, List.set_cons_succ, List.set_cons_zero]
                refine wq_val rfl (.pointer (some ⟨gs, 0, none⟩)) (fun w' hC => by go_simp) ?_
                simp only [Act.put, List.setIfInBounds_toArray, List.set_cons_succ, List.set_cons_zero]
                refine wq_val rfl (.string ⟨OA.toArray⟩) (fun w' hC => by
                  have hc0 := (hC.cell (p := ⟨gs, 0, none⟩) (lt_of_cell (p := ⟨gs, 0, none⟩) hcO) id).trans hcO
                  go_simp) ?_
                simp only [Act.put, List.setIfInBounds_toArray, List.set_cons_succ, List.set_cons_zero]
                refine wq_val rfl (.bool false) (fun w' hC => by go_simp) ?_
                simp only [Act.put, List.setIfInBounds_toArray, List.set_cons_succ, List.set_cons_zero]
                refine wq_val rfl (.bool false) (fun w' hC => by go_simp) ?_
                simp only [Act.put, List.setIfInBounds_toArray, List.set_cons_succ, List.set_cons_zero]
                refine wq_valG (by kernel_rfl) (.int .i64 0) (fun w' hC => by go_simp) ?_
                simp only [Act.put, List.setIfInBounds_toArray, List.set_cons_succ, List.set_cons_zero]
                refine wq_valG (by kernel_rfl) (.bool true) (fun w' hC => by go_simp) ?_
                simp only [Act.put, List.setIfInBounds_toArray, List.set_cons_succ, List.set_cons_zero]
                refine wq_valG (by kernel_rfl) (.bool true) (fun w' hC => by go_simp) ?_
                simp only [Act.put, List.setIfInBounds_toArray, List.set_cons_succ, List.set_cons_zero]
                refine wq_valG (by kernel_rfl) (.string ⟨#[]⟩) (fun w' hC => by go_simp) ?_
                simp only [Act.put, List.setIfInBounds_toArray, List.set_cons_succ, List.set_cons_zero]
                refine wq_valG (by kernel_rfl) (.string ⟨#[]⟩) (fun w' hC => by go_simp) ?_
                simp only [Act.put, List.setIfInBounds_toArray, List.set_cons_succ, List.set_cons_zero]
                refine wq_valG (by kernel_rfl) (.bool false) (fun w' hC => by go_simp) ?_
                simp only [Act.put, List.setIfInBounds_toArray, List.set_cons_succ, List.set_cons_zero]
                refine wq_valG (by kernel_rfl) (.bool false) (fun w' hC => by go_simp) ?_
                simp only [Act.put, List.setIfInBounds_toArray, List.set_cons_succ, List.set_cons_zero]
                refine wq_val rfl (.bool false) (fun w' hC => by go_simp) ?_
                simp only [Act.put, List.setIfInBounds_toArray, List.set_cons_succ, List.set_cons_zero]
                refine wq_val rfl (.bool false) (fun w' hC => by go_simp) ?_
                simp only [Act.put, List.setIfInBounds_toArray, List.set_cons_succ, List.set_cons_zero]
                refine wq_valG (by kernel_rfl) (.int .i64 0) (fun w' hC => by go_simp) ?_
                simp only [Act.put, List.setIfInBounds_toArray, List.set_cons_succ, List.set_cons_zero]
                refine wq_valG (by kernel_rfl) (.bool false) (fun w' hC => by go_simp) ?_
                simp only [Act.put, List.setIfInBounds_toArray, List.set_cons_succ, List.set_cons_zero]
                refine wq_valG (by kernel_rfl) (.bool false) (fun w' hC => by go_simp) ?_
                simp only [Act.put, List.setIfInBounds_toArray, List.set_cons_succ, List.set_cons_zero]
                refine wq_skip (by kernel_rfl) ?_
                simp only [Act.put, List.setIfInBounds_toArray, List.set_cons_succ, List.set_cons_zero]
                refine wq_skip (by kernel_rfl) ?_
                simp only [Act.put, List.setIfInBounds_toArray, List.set_cons_succ, List.set_cons_zero]
                refine wq_skip (by kernel_rfl) ?_
                simp only [Act.put, List.setIfInBounds_toArray, List.set_cons_succ, List.set_cons_zero]
                refine wq_skip (by kernel_rfl) ?_
                simp only [Act.put, List.setIfInBounds_toArray, List.set_cons_succ, List.set_cons_zero]
                refine wq_skip (by kernel_rfl) ?_
                simp only [Act.put, List.setIfInBounds_toArray, List.set_cons_succ, List.set_cons_zero]
                refine wq_skip (by kernel_rfl) ?_
                simp only [Act.put, List.setIfInBounds_toArray, List.set_cons_succ, List.set_cons_zero]
                refine wq_skip (by kernel_rfl) ?_
                simp only [Act.put, List.setIfInBounds_toArray, List.set_cons_succ, List.set_cons_zero]
                refine wq_valG (by kernel_rfl) (.bool false) (fun w' hC => by go_simp) ?_
                simp only [Act.put, List.setIfInBounds_toArray, List.set_cons_succ, List.set_cons_zero]
                refine wq_valG (by kernel_rfl) (.bool false) (fun w' hC => by go_simp) ?_
                simp only [Act.put, List.setIfInBounds_toArray, List.set_cons_succ, List.set_cons_zero]
                refine wq_skip (by kernel_rfl) ?_
                simp only [Act.put, List.setIfInBounds_toArray, List.set_cons_succ, List.set_cons_zero]
                refine wq_skip (by kernel_rfl) ?_
                simp only [Act.put, List.setIfInBounds_toArray, List.set_cons_succ, List.set_cons_zero]
                refine wq_skip (by kernel_rfl) ?_
                simp only [Act.put, List.setIfInBounds_toArray, List.set_cons_succ, List.set_cons_zero]
                refine wq_skip (by kernel_rfl) ?_
                simp only [Act.put, List.setIfInBounds_toArray, List.set_cons_succ, List.set_cons_zero]
                refine wq_skip (by kernel_rfl) ?_
                simp only [Act.put, List.setIfInBounds_toArray, List.set_cons_succ, List.set_cons_zero]
                refine wq_skip (by kernel_rfl) ?_
                simp only [Act.put, List.setIfInBounds_toArray, List.set_cons_succ, List.set_cons_zero]
                refine wq_skip (by kernel_rfl) ?_
                simp only [Act.put, List.setIfInBounds_toArray, List.set_cons_succ, List.set_cons_zero]
                refine wq_skip (by kernel_rfl) ?_
                simp only [Act.put, List.setIfInBounds_toArray, List.set_cons_succ, List.set_cons_zero]
                refine wq_valG (by kernel_rfl) (.bool false) (fun w' hC => by go_simp) ?_
                simp only [Act.put, List.setIfInBounds_toArray, List.set_cons_succ, List.set_cons_zero]
                refine wq_nil (fun w' hC => ?_)
                go_wp2
                go_meet
                case rel => exact ⟨rfl, hC⟩
              · have hq1 : ¬ (q : Int) = 0 := by omega
                have hq2' : (0 : Int) < (q : Int) := by omega
                by_cases hz : (J q).length = 0
                · have hz1 : ¬ (0 : Int) < ((J q).length : Int) := by omega
                  go_wp2_with fail
                  refine wp_region_wq (C := fun w' => Kx (fun _ => False) w8 w') 38 (by kernel_rfl) (by kernel_rfl) (Kx.refl _ _).drew ?_
                  simp only [List.take_succ_cons, List.take_zero, List.drop_succ_cons, List.drop_zero]
                  refine wq_val rfl (.pointer (some ⟨t1, 0, none⟩)) (fun w' hC => by go_simp) ?_
                  simp only [Act.put, List.setIfInBounds_toArray, List.set_cons_succ, List.set_cons_zero]
                  refine wq_enter rfl 37 #[.pointer (some ⟨t1, 0, none⟩)] (.string ⟨OA.toArray⟩) (fun w' => by go_simp) hcall ?_
                  simp only [Act.put, List.setIfInBounds_toArray, List.set_cons_succ, List.set_cons_zero]
                  refine wq_val rfl (.slice (some ⟨gs, 0, none⟩) (i + 1) sc) (fun w' hC => by go_simp) ?_
                  simp only [Act.put, List.setIfInBounds_toArray, List.set_cons_succ, List.set_cons_zero]
                  refine wq_val rfl (.int .i64 (q : Int)) (fun w' hC => by go_simp) ?_
                  simp only [Act.put, List.setIfInBounds_toArray, List.set_cons_succ, List.set_cons_zero]
                  refine wq_val rfl (.pointer (some ⟨gs, q, none⟩)) (fun w' hC => by go_simp) ?_
                  simp only [Act.put, List.setIfInBounds_toArray, List.set_cons_succ, List.set_cons_zero]
                  refine wq_val rfl (.string ⟨OA.toArray⟩) (fun w' hC => by
                    have hc0 := (hC.cell (p := ⟨gs, q, none⟩) (lt_of_cell (p := ⟨gs, q, none⟩) hcO) id).trans hcO
                    go_simp) ?_
                  simp only [Act.put, List.setIfInBounds_toArray, List.set_cons_succ, List.set_cons_zero]
                  refine wq_val rfl (.bool false) (fun w' hC => by go_simp) ?_
                  simp only [Act.put, List.setIfInBounds_toArray, List.set_cons_succ, List.set_cons_zero]
                  refine wq_val rfl (.bool false) (fun w' hC => by go_simp) ?_
                  simp only [Act.put, List.setIfInBounds_toArray, List.set_cons_succ, List.set_cons_zero]
                  refine wq_valG (by kernel_rfl) (.int .i64 (q : Int)) (fun w' hC => by go_simp) ?_
                  simp only [Act.put, List.setIfInBounds_toArray, List.set_cons_succ, List.set_cons_zero]
                  refine wq_valG (by kernel_rfl) (.bool false) (fun w' hC => by go_simp) ?_
                  simp only [Act.put, List.setIfInBounds_toArray, List.set_cons_succ, List.set_cons_zero]
                  refine wq_valG (by kernel_rfl) (.bool false) (fun w' hC => by go_simp) ?_
                  simp only [Act.put, List.setIfInBounds_toArray, List.set_cons_succ, List.set_cons_zero]
                  refine wq_skip (by kernel_rfl) ?_
                  simp only [Act.put, List.setIfInBounds_toArray, List.set_cons_succ, List.set_cons_zero]
                  refine wq_skip (by kernel_rfl) ?_
                  simp only [Act.put, List.setIfInBounds_toArray, List.set_cons_succ, List.set_cons_zero]
                  refine wq_skip (by kernel_rfl) ?_
                  simp only [Act.put, List.setIfInBounds_toArray, List.set_cons_succ, List.set_cons_zero]
                  refine wq_valG (by kernel_rfl) (.bool false) (fun w' hC => by go_simp) ?_
                  simp only [Act.put, List.setIfInBounds_toArray, List.set_cons_succ, List.set_cons_zero]
                  refine wq_val rfl (.bool false) (fun w' hC => by go_simp) ?_
                  simp only [Act.put, List.setIfInBounds_toArray, List.set_cons_succ, List.set_cons_zero]
                  refine wq_val rfl (.bool false) (fun w' hC => by go_simp) ?_
                  simp only [Act.put, List.setIfInBounds_toArray, List.set_cons_succ, List.set_cons_zero]
                  refine wq_valG (by kernel_rfl) (.int .i64 (q : Int)) (fun w' hC => by go_simp) ?_
                  simp only [Act.put, List.setIfInBounds_toArray, List.set_cons_succ, List.set_cons_zero]
                  refine wq_valG (by kernel_rfl) (.bool true) (fun w' hC => by go_simp; omega) ?_
                  simp only [Act.put, List.setIfInBounds_toArray, List.set_cons_succ, List.set_cons_zero]
                  refine wq_valG (by kernel_rfl) (.bool true) (fun w' hC => by go_simp) ?_
                  simp only [Act.put, List.setIfInBounds_toArray, List.set_cons_succ, List.set_cons_zero]
                  refine wq_valG (by kernel_rfl) (.slice (some ⟨ge, 0, none⟩) (i + 1) ec) (fun w' hC => by go_simp) ?_
                  simp only [Act.put, List.setIfInBounds_toArray, List.set_cons_succ, List.set_cons_zero]
                  refine wq_valG (by kernel_rfl) (.int .i64 (q : Int)) (fun w' hC => by go_simp) ?_
                  simp only [Act.put, List.setIfInBounds_toArray, List.set_cons_succ, List.set_cons_zero]
                  refine wq_valG (by kernel_rfl) (.pointer (some ⟨ge, q, none⟩)) (fun w' hC => by go_simp) ?_
                  simp only [Act.put, List.setIfInBounds_toArray, List.set_cons_succ, List.set_cons_zero]
                  refine wq_valG (by kernel_rfl) (.int .i64 ((J q).length : Int)) (fun w' hC => by
                    have hc0 := (hC.cell (p := ⟨ge, q, none⟩) (lt_of_cell (p := ⟨ge, q, none⟩) hcE) id).trans hcE
                    go_simp) ?_
                  simp only [Act.put, List.setIfInBounds_toArray, List.set_cons_succ, List.set_cons_zero]
                  refine wq_valG (by kernel_rfl) (.string ⟨#[]⟩) (fun w' hC => by go_simp) ?_
                  simp only [Act.put, List.setIfInBounds_toArray, List.set_cons_succ, List.set_cons_zero]
                  refine wq_valG (by kernel_rfl) (.int .i64 0) (fun w' hC => by go_simp) ?_
                  simp only [Act.put, List.setIfInBounds_toArray, List.set_cons_succ, List.set_cons_zero]
                  refine wq_valG (by kernel_rfl) (.bool false) (fun w' hC => by go_simp) ?_
                  simp only [Act.put, List.setIfInBounds_toArray, List.set_cons_succ, List.set_cons_zero]
                  refine wq_valG (by kernel_rfl) (.bool false) (fun w' hC => by go_simp) ?_
                  simp only [Act.put, List.setIfInBounds_toArray, List.set_cons_succ, List.set_cons_zero]
                  refine wq_valG (by kernel_rfl) (.bool false) (fun w' hC => by go_simp) ?_
                  simp only [Act.put, List.setIfInBounds_toArray, List.set_cons_succ, List.set_cons_zero]
                  refine wq_skip (by kernel_rfl) ?_
                  simp only [Act.put, List.setIfInBounds_toArray, List.set_cons_succ, List.set_cons_zero]
                  refine wq_skip (by kernel_rfl) ?_
                  simp only [Act.put, List.setIfInBounds_toArray, List.set_cons_succ, List.set_cons_zero]
                  refine wq_skip (by kernel_rfl) ?_
                  simp only [Act.put, List.setIfInBounds_toArray, List.set_cons_succ, List.set_cons_zero]
                  refine wq_skip (by kernel_rfl) ?_
                  simp only [Act.put, List.setIfInBounds_toArray, List.set_cons_succ, List.set_cons_zero]
                  refine wq_skip (by kernel_rfl) ?_
                  simp only [Act.put, List.setIfInBounds_toArray, List.set_cons_succ, List.set_cons_zero]
                  refine wq_skip (by kernel_rfl) ?_
                  simp only [Act.put, List.setIfInBounds_toArray, List.set_cons_succ, List.set_cons_zero]
                  refine wq_skip (by kernel_rfl) ?_
                  simp only [Act.put, List.setIfInBounds_toArray, List.set_cons_succ, List.set_cons_zero]
                  refine wq_skip (by kernel_rfl) ?_
                  simp only [Act.put, List.setIfInBounds_toArray, List.set_cons_succ, List.set_cons_zero]
                  refine wq_valG (by kernel_rfl) (.bool false) (fun w' hC => by go_simp) ?_
                  simp only [Act.put, List.setIfInBounds_toArray, List.set_cons_succ, List.set_cons_zero]
                  refine wq_nil (fun w' hC => ?_)
                  go_wp2
                  go_meet
                  case rel => exact ⟨rfl, hC⟩
                · have hz1 : (0 : Int) < ((J q).length : Int) := by omega
                  go_wp2_with fail
                  refine wp_region_wq (C := fun w' => Kx (fun _ => False) w8 w') 38 (by kernel_rfl) (by kernel_rfl) (Kx.refl _ _).drew ?_
                  simp only [List.take_succ_cons, List.take_zero, List.drop_succ_cons, List.drop_zero]
                  refine wq_val rfl (.pointer (some ⟨t1, 0, none⟩)) (fun w' hC => by go_simp) ?_
                  simp only [Act.put, List.setIfInBounds_toArray, List.set_cons_succ, List.set_cons_zero]
                  refine wq_enter rfl 37 #[.pointer (some ⟨t1, 0, none⟩)] (.string ⟨OA.toArray⟩) (fun w' => by go_simp) hcall ?_
                  simp only [Act.put, List.setIfInBounds_toArray, List.set_cons_succ, List.set_cons_zero]
                  refine wq_val rfl (.slice (some ⟨gs, 0, none⟩) (i + 1) sc) (fun w' hC => by go_simp) ?_
                  simp only [Act.put, List.setIfInBounds_toArray, List.set_cons_succ, List.set_cons_zero]
                  refine wq_val rfl (.int .i64 (q : Int)) (fun w' hC => by go_simp) ?_
                  simp only [Act.put, List.setIfInBounds_toArray, List.set_cons_succ, List.set_cons_zero]
                  refine wq_val rfl (.pointer (some ⟨gs, q, none⟩)) (fun w' hC => by go_simp) ?_
                  simp only [Act.put, List.setIfInBounds_toArray, List.set_cons_succ, List.set_cons_zero]
                  refine wq_val rfl (.string ⟨OA.toArray⟩) (fun w' hC => by
                    have hc0 := (hC.cell (p := ⟨gs, q, none⟩) (lt_of_cell (p := ⟨gs, q, none⟩) hcO) id).trans hcO
                    go_simp) ?_
                  simp only [Act.put, List.setIfInBounds_toArray, List.set_cons_succ, List.set_cons_zero]
                  refine wq_val rfl (.bool false) (fun w' hC => by go_simp) ?_
                  simp only [Act.put, List.setIfInBounds_toArray, List.set_cons_succ, List.set_cons_zero]
                  refine wq_val rfl (.bool false) (fun w' hC => by go_simp) ?_
                  simp only [Act.put, List.setIfInBounds_toArray, List.set_cons_succ, List.set_cons_zero]
                  refine wq_valG (by kernel_rfl) (.int .i64 (q : Int)) (fun w' hC => by go_simp) ?_
                  simp only [Act.put, List.setIfInBounds_toArray, List.set_cons_succ, List.set_cons_zero]
                  refine wq_valG (by kernel_rfl) (.bool false) (fun w' hC => by go_simp) ?_
                  simp only [Act.put, List.setIfInBounds_toArray, List.set_cons_succ, List.set_cons_zero]
                  refine wq_valG (by kernel_rfl) (.bool false) (fun w' hC => by go_simp) ?_
                  simp only [Act.put, List.setIfInBounds_toArray, List.set_cons_succ, List.set_cons_zero]
                  refine wq_skip (by kernel_rfl) ?_
                  simp only [Act.put, List.setIfInBounds_toArray, List.set_cons_succ, List.set_cons_zero]
                  refine wq_skip (by kernel_rfl) ?_
                  simp only [Act.put, List.setIfInBounds_toArray, List.set_cons_succ, List.set_cons_zero]
                  refine wq_skip (by kernel_rfl) ?_
                  simp only [Act.put, List.setIfInBounds_toArray, List.set_cons_succ, List.set_cons_zero]
                  refine wq_valG (by kernel_rfl) (.bool false) (fun w' hC => by go_simp) ?_
                  simp only [Act.put, List.setIfInBounds_toArray, List.set_cons_succ, List.set_cons_zero]
                  refine wq_val rfl (.bool false) (fun w' hC => by go_simp) ?_
                  simp only [Act.put, List.setIfInBounds_toArray, List.set_cons_succ, List.set_cons_zero]
                  refine wq_val rfl (.bool false) (fun w' hC => by go_simp) ?_
                  simp only [Act.put, List.setIfInBounds_toArray, List.set_cons_succ, List.set_cons_zero]
                  refine wq_valG (by kernel_rfl) (.int .i64 (q : Int)) (fun w' hC => by go_simp) ?_
                  simp only [Act.put, List.setIfInBounds_toArray, List.set_cons_succ, List.set_cons_zero]
                  refine wq_valG (by kernel_rfl) (.bool true) (fun w' hC => by go_simp; omega) ?_
                  simp only [Act.put, List.setIfInBounds_toArray, List.set_cons_succ, List.set_cons_zero]
                  refine wq_valG (by kernel_rfl) (.bool true) (fun w' hC => by go_simp) ?_
                  simp only [Act.put, List.setIfInBounds_toArray, List.set_cons_succ, List.set_cons_zero]
                  refine wq_valG (by kernel_rfl) (.slice (some ⟨ge, 0, none⟩) (i + 1) ec) (fun w' hC => by go_simp) ?_
                  simp only [Act.put, List.setIfInBounds_toArray, List.set_cons_succ, List.set_cons_zero]
                  refine wq_valG (by kernel_rfl) (.int .i64 (q : Int)) (fun w' hC => by go_simp) ?_
                  simp only [Act.put, List.setIfInBounds_toArray, List.set_cons_succ, List.set_cons_zero]
                  refine wq_valG (by kernel_rfl) (.pointer (some ⟨ge, q, none⟩)) (fun w' hC => by go_simp) ?_
                  simp only [Act.put, List.setIfInBounds_toArray, List.set_cons_succ, List.set_cons_zero]
                  refine wq_valG (by kernel_rfl) (.int .i64 ((J q).length : Int)) (fun w' hC => by
                    have hc0 := (hC.cell (p := ⟨ge, q, none⟩) (lt_of_cell (p := ⟨ge, q, none⟩) hcE) id).trans hcE
                    go_simp) ?_
                  simp only [Act.put, List.setIfInBounds_toArray, List.set_cons_succ, List.set_cons_zero]
                  refine wq_valG (by kernel_rfl) (.string ⟨#[]⟩) (fun w' hC => by go_simp) ?_
                  simp only [Act.put, List.setIfInBounds_toArray, List.set_cons_succ, List.set_cons_zero]
                  refine wq_valG (by kernel_rfl) (.int .i64 0) (fun w' hC => by go_simp) ?_
                  simp only [Act.put, List.setIfInBounds_toArray, List.set_cons_succ, List.set_cons_zero]
                  refine wq_valG (by kernel_rfl) (.bool true) (fun w' hC => by go_simp; omega) ?_
                  simp only [Act.put, List.setIfInBounds_toArray, List.set_cons_succ, List.set_cons_zero]
                  refine wq_valG (by kernel_rfl) (.bool true) (fun w' hC => by go_simp) ?_
                  simp only [Act.put, List.setIfInBounds_toArray, List.set_cons_succ, List.set_cons_zero]
                  refine wq_valG (by kernel_rfl) (.bool true) (fun w' hC => by go_simp) ?_
                  simp only [Act.put, List.setIfInBounds_toArray, List.set_cons_succ, List.set_cons_zero]
                  refine wq_valG (by kernel_rfl) (.string ⟨(J q).toArray⟩) (fun w' hC => by go_simp) ?_
                  simp only [Act.put, List.setIfInBounds_toArray, List.set_cons_succ, List.set_cons_zero]
                  refine wq_valG (by kernel_rfl) (.string ⟨(J i).toArray⟩) (fun w' hC => by go_simp) ?_
                  simp only [Act.put, List.setIfInBounds_toArray, List.set_cons_succ, List.set_cons_zero]
                  refine wq_valG (by kernel_rfl) (.slice (some ⟨ge, 0, none⟩) (i + 1) ec) (fun w' hC => by go_simp) ?_
                  simp only [Act.put, List.setIfInBounds_toArray, List.set_cons_succ, List.set_cons_zero]
                  refine wq_valG (by kernel_rfl) (.int .i64 (q : Int)) (fun w' hC => by go_simp) ?_
                  simp only [Act.put, List.setIfInBounds_toArray, List.set_cons_succ, List.set_cons_zero]
                  refine wq_valG (by kernel_rfl) (.pointer (some ⟨ge, q, none⟩)) (fun w' hC => by go_simp) ?_
                  simp only [Act.put, List.setIfInBounds_toArray, List.set_cons_succ, List.set_cons_zero]
                  refine wq_valG (by kernel_rfl) (.int .i64 ((J q).length : Int)) (fun w' hC => by
                    have hc0 := (hC.cell (p := ⟨ge, q, none⟩) (lt_of_cell (p := ⟨ge, q, none⟩) hcE) id).trans hcE
                    go_simp) ?_
                  simp only [Act.put, List.setIfInBounds_toArray, List.set_cons_succ, List.set_cons_zero]
                  refine wq_valG (by kernel_rfl) (.string ⟨(J q).toArray⟩) (fun w' hC => by go_simp) ?_
                  simp only [Act.put, List.setIfInBounds_toArray, List.set_cons_succ, List.set_cons_zero]
                  refine wq_valG (by kernel_rfl) (.bool false) (fun w' hC => by go_simp) ?_
                  simp only [Act.put, List.setIfInBounds_toArray, List.set_cons_succ, List.set_cons_zero]
                  refine wq_valG (by kernel_rfl) (.bool false) (fun w' hC => by go_simp) ?_
                  simp only [Act.put, List.setIfInBounds_toArray, List.set_cons_succ, List.set_cons_zero]
                  refine wq_nil (fun w' hC => ?_)
                  go_wp2
                  go_meet
                  case rel => exact ⟨rfl, hC⟩
            case rest =>
              obtain ⟨rfl, hk9⟩ := hcut
              have hk69 := hk68.trans hk9
              have HI : Hid (∃ (M X : Nat → Prop), Oj M wc t1 (S q) (J q) (800000 * q) X ∧ (∀ z, X z → w6.heap.size ≤ z) ∧ Gl wc ∧ Kx (fun _ => False) w6 wc) := ⟨M7, X7, HU8.out.kept hk9, HX7.out, HG8.out.kept hk9 (fun _ _ => id), hk69⟩
              clear hk68 hk9 hk69 HU8 HX7 HG8 hcall hcO hcE hxq
              go_wp2_with fail
              go_loopw [21] (fun iv wq => ∃ k : Nat, iv = .int .i64 k ∧ k ≤ i ∧ Hid (∃ (M X : Nat → Prop), Oj M wq t1 (S k) (J k) (800000 * k) X ∧ (∀ z, X z → w6.heap.size ≤ z) ∧ Gl wq ∧ Kx (fun _ => False) w6 wq)) (fun iv _ => i - (intOf iv).toNat)
              case atStart => exact ⟨q, rfl, hqi, HI⟩
              case round =>
                obtain ⟨k, rfl, hki, HJ⟩ := hrel
                obtain ⟨M, X, g1, g2, g3, g4⟩ := HJ.out
                clear HJ HI
                by_cases hlt : k < i
                · have hkl : (k : Int) < (len : Int) := by omega
                  have hk5 : (k : Int) < 5 := by omega
                  obtain ⟨b, off, rfl, hcells⟩ := HA.out.at' (by omega)
                  obtain ⟨a', l', c', hc0, hcall⟩ := hcells k (by omega)
                  have hkw := HT6.out.kx.trans g4
                  have hc := ActsL.get hc0 hkw
                  have hstr := hcall _ hkw
                  have hyl := HA.out.ylen k
                  have hjk : (J k).length ≤ 40185 := by have := hrun.len k; omega
                  have hJs := hrun.j1 k
                  have hSs := hrun.s1 k
                  clear hcells hc0 hcall
                  go_wp2_with fail
                  refine hstr.mono ?_
                  rintro _ w10 ⟨rfl, hk10⟩
                  have h11 := g1.kept hk10
                  have hgl11 := g3.kept hk10 (fun _ _ => id)
                  have himp := h11.import hgl11 (y k) (by omega) (by omega) (by omega)
                  rw [hJs, hSs] at himp
                  have hk611 := g4.trans hk10
                  clear hJs hSs hc hstr hkw
                  generalize (Pd.imp Sh.K (S k) (y k)).1.1 = n1 at *
                  generalize (Pd.imp Sh.K (S k) (y k)).1.2 = e1 at *
                  generalize y k = yk at *
                  go_wp2_with fail
                  refine himp.mono ?_
                  rintro _ w12 ⟨rfl, M', X', f1, f2, f3, f4, f5⟩
                  have HJ2 : Hid (∃ (M X : Nat → Prop), Oj M w12 t1 (S (k + 1)) (J (k + 1)) (800000 * (k + 1)) X ∧ (∀ z, X z → w6.heap.size ≤ z) ∧ Gl w12 ∧ Kx (fun _ => False) w6 w12) :=
                    ⟨M', X', f1.more (by omega), fun z hz => (f4 z hz).elim (g2 z) (fun e => Nat.le_trans hk611.size e), hgl11.kept f5 (fun z hz e => by have := (h11.low z (h11.inM z e)).1; omega), hk611.join f5 (fun z hz e => absurd (g2 z e) (by omega))⟩
                  clear himp f1 f2 f3 f4 f5 g1 g2 g3 g4 h11 hgl11 hk611 hk10
                  go_wp2
                  go_roundw
                  case rel => exact ⟨k + 1, by go_num, by omega, HJ2⟩
                  case measure => simp [intOf]; omega
                · obtain rfl : k = i := by omega
                  have hsh1 := g1.shown (by omega)
                  have hTs := HT6.out.kept g4
                  go_wp2_with fail
                  refine hsh1.mono ?_
                  rintro _ w10 ⟨o1, rfl, hS1, _, hk10⟩
                  have hT10 := hTs.kept hk10
                  have hsh2 := hT10.shown (by omega)
                  clear hsh1
                  go_wp2_with fail
                  refine hsh2.mono ?_
                  rintro _ w11 ⟨o2, rfl, hS2, _, hk11⟩
                  obtain rfl := hS1.one hS2
                  have hF := hT10.kx.trans hk11
                  clear hsh2 g1 g2 g3 g4 hTs hT10 hk10 hk11
                  go_wp2
                  go_ret
                  exact ⟨rfl, hF⟩)

end Go.Proofs.YtepgoppgblfjbaaGreatDoor
