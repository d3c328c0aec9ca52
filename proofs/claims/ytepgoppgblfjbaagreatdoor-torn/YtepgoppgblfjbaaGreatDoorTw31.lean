import Derived.Test.YtepgoppgblfjbaaGreatDoorTw30
import Derived.Test.YtepgoppgblfjbaaGreatDoorTw25
import Derived.Test.YtepgoppgblfjbaaGreatDoorTw29
import Derived.Deep.QuietTactic
import Derived.BigQuiet
import Derived.Test.YtepgoppgblfjbaaGreatDoorTw26
/- Bytes that came in; package journal: Read. -/
namespace Go.Proofs.YtepgoppgblfjbaaGreatDoor
open Go.RowKit

/-- A slice reads as these bytes. -/
def BytesAt (w : World) (v : Value) (b : List UInt8) : Prop :=
  (v = .slice none 0 0 ∧ b = []) ∨ ∃ a c, v = .slice (some a) b.length c ∧ ∀ i x, (A8 b)[i]? = some x → w.cell? (a.add i) = some x

theorem BytesAt.kept {w w' : World} {v : Value} {b : List UInt8} (h : BytesAt w v b) (hk : Kx (fun _ => False) w w') : BytesAt w' v b := by
  rcases h with h | ⟨a, c, h1, h2⟩
  · exact .inl h
  · exact .inr ⟨a, c, h1, fun i x hx => (hk.cell (lt_of_cell (h2 i x hx)) id).trans (h2 i x hx)⟩

set_option maxRecDepth 100000 in
theorem conv_nil (w : World) : (convert 58 9 (.slice none 0 0)).run Tryz.prog w = .ok (.string ⟨#[]⟩) w := rfl

theorem BytesAt.conv {w : World} {v : Value} {b : List UInt8} (h : BytesAt w v b) : (convert 58 9 v).run Tryz.prog w = .ok (.string ⟨b.toArray⟩) w := by
  rcases h with ⟨rfl, rfl⟩ | ⟨a, c, rfl, h2⟩
  · exact conv_nil w
  · refine run_convert_bytes_back (P := Tryz.prog) w 58 9 5 a c b Tryz.underlying58 Tryz.underlying5 Tryz.underlying9 ?_
    intro j hj
    exact h2 j _ (by simp [A8, hj])

theorem BytesAt.of_own {w : World} {base n : Nat} {v : Value} {b : List UInt8} (h : w.ownsRow base 5 1 v n (A8 b)) (hn : n = b.length) : BytesAt w v b := by
  rcases h.2 with ⟨h1, h2⟩ | ⟨g, cap, cur, rfl, hb, hg, hc, hm, hs, ht⟩
  · exact .inl ⟨h1, List.length_eq_zero_iff.1 (by omega)⟩
  · refine .inr ⟨⟨g, 0, none⟩, cap, by rw [hn], fun i x hx => ?_⟩
    have hi := (List.getElem?_eq_some_iff.1 hx).1
    rw [A8_len] at hi
    rw [← ht, List.getElem?_take_of_lt (by omega)] at hx
    have hadd : (⟨g, 0, none⟩ : Addr).add i = ⟨g, i, none⟩ := by unfold Addr.add; split <;> simp_all
    rw [hadd]
    unfold World.cell?
    rw [hg]
    simpa using hx

theorem BytesAt.of_ownB {w : World} {base : Nat} {v : Value} {b : List UInt8} (h : OwnB w base 5 v (A8 b)) : BytesAt w v b := by
  rcases h with ⟨h1, h2⟩ | ⟨g, cap, cur, fz, rfl, hb, hg, hz, hc, hm, hs, ht⟩
  · refine .inl ⟨h1, ?_⟩
    cases b with
    | nil => rfl
    | cons x l => simp [A8] at h2
  · refine .inr ⟨⟨g, 0, none⟩, cap, by rw [A8_len], fun i x hx => ?_⟩
    have hi := (List.getElem?_eq_some_iff.1 hx).1
    rw [← ht, List.getElem?_take_of_lt hi] at hx
    have hadd : (⟨g, 0, none⟩ : Addr).add i = ⟨g, i, none⟩ := by unfold Addr.add; split <;> simp_all
    rw [hadd]
    unfold World.cell?
    rw [hg]
    simpa using hx

theorem number_ge {t : List UInt8} {lo hi N : Int} (h : Pu.number t lo hi = (N, true)) : lo ≤ N := by
  unfold Pu.number at h
  split at h
  · cases (Prod.mk.inj h).2
  · split at h
    · cases (Prod.mk.inj h).2
    · have := (Prod.mk.inj h).1
      omega

theorem cutE_short (t : List UInt8) (h : ¬ ((Pd.cutE t).1 = [] ∧ (Pd.cutE t).2.1 = [])) : (Pd.cutE t).2.2.1.length < t.length ∧ (1 ≤ (Pd.cutE t).1.length ∧ (Pd.cutE t).1.length ≤ 8000) ∧ (Pd.cutE t).2.1.length = 32 := by
  have hbl := (Pu.cut_lens t [10]).2
  obtain ⟨l, b, e, hc⟩ : ∃ l b e, Lib.cut t [10] = (l, b, e) := ⟨_, _, _, rfl⟩
  have hle := Pu.number_le l 1 8000 (by decide) (by decide)
  obtain ⟨N, ok, hN⟩ : ∃ N ok, Pu.number l 1 8000 = (N, ok) := ⟨_, _, rfl⟩
  rw [hc] at hbl
  rw [hN] at hle
  simp only at hbl hle
  rw [cutE_eq hc hN] at h ⊢
  split at h
  · exact absurd ⟨rfl, rfl⟩ h
  · rename_i h1
    split at h
    · exact absurd ⟨rfl, rfl⟩ h
    · rename_i h2
      rw [if_neg h1, if_neg h2]
      have h3 : ¬ (b.length : Int) < N + 32 := fun e => h2 (.inr e)
      have h4 : (1 : Int) ≤ N := by
        cases ok with
        | false => exact absurd rfl h1
        | true => exact number_ge hN
      simp only [List.length_drop, List.length_take]
      omega

theorem strsV_snoc (a : List (List UInt8)) (x : List UInt8) : strsV (a ++ [x]) = strsV a ++ [.string ⟨x.toArray⟩] := by simp [strsV]

/-- What Read gives. -/
def ReadR (base : Nat) (r : Option (List (List UInt8))) (e : Ending) (w' : World) : Prop :=
  match r with
  | none => e = .returned (.tuple #[.slice none 0 0, .int .i64 6])
  | some xs => ∃ v, e = .returned (.tuple #[v, .int .i64 0]) ∧ w'.ownsRow base 9 1 v xs.length (strsV xs)

def lenS : Value → Nat
  | .string s => s.size
  | _ => 0

theorem readJ_nil (KK : List Int) (f : Nat) (last : List UInt8) (acc : List (List UInt8)) : Pd.readJ KK f [] last acc = some acc := by
  cases f <;> rfl
theorem readJ_step (KK : List Int) (f : Nat) (t last : List UInt8) (acc : List (List UInt8)) (h : t ≠ []) : Pd.readJ KK (f + 1) t last acc =
    if (Pd.cutE t).2.2.2 = false then none else if (Pd.cutE t).1 = [] ∧ (Pd.cutE t).2.1 = [] then some acc else if (Pd.cutE t).2.1 ≠ Pd.sealOf KK last (Pd.cutE t).1 then none else Pd.readJ KK f (Pd.cutE t).2.2.1 (Pd.cutE t).2.1 (acc ++ [(Pd.cutE t).1]) := by
  conv => lhs; unfold Pd.readJ
  rw [if_neg h]

set_option maxHeartbeats 1600000 in
set_option maxRecDepth 100000 in
theorem jread_any (vb : Value) (b : List UInt8) (w : World) (hgl : Gl w) (hv : BytesAt w vb b) (hbl : b.length ≤ 90000) :
    Calls Tryz.prog 61 #[vb] w fun e w' => ReadR w.heap.size (Pd.readJ Sh.K (b.length + 1) b [] []) e w' ∧ Kx (fun _ => False) w w' := by
  have hmx : maxLen = 9223372036854775807 := rfl
  obtain ⟨i9, hi9, hz0, hz1, hz2⟩ := info_parts info9
  have hnc := newConstants_any w
  obtain ⟨arr, harr⟩ : ∃ arr, A32 Sh.K = arr := ⟨_, rfl⟩
  rw [harr] at hnc
  have hsz : arr.size = 72 := by rw [← harr]; rfl
  have hi : (Tryz.prog.info? 176).map (·.size) = some arr.size := by rw [hsz]; kernel_rfl
  have hall : arr.all (·.oneCell') = true := by rw [← harr]; exact A32_all _
  have hzs : Tryz.zeroCells176.size = arr.size := by rw [hsz]; kernel_rfl
  have hseal := fun (W : World) (cb : Nat) (last s : List UInt8) (hW : Cb cb (A32 Sh.K) 176 W) => sealOf_any cb 176 last s W hW
  rw [harr] at hseal
  have HV : Hid (BytesAt w vb b) := hv
  clear harr hv
  go_enter Tryz.func61, Tryz.ntmps61
  go_wp2_with fail
  refine hnc.mono ?_
  rintro _ w1 ⟨rfl, hk1⟩
  have hB0 := Cb.new Tryz.zeroCells176 176 w1
  have hk2 := hk1.alloc (.cells Tryz.zeroCells176 176)
  have hk3 : Kx (fun _ => False) w ((w1.alloc (.cells Tryz.zeroCells176 176)).setRow w1.heap.size arr) := hk2.setRow (fun h => absurd h (by have := hk1.size; omega)) arr
  have hcb := hB0.row arr
  have hcv := (HV.out.kept hk3).conv
  clear hnc hk2
  go_wp2_with (first | refine wpList_storeAll _ rfl 176 _ _ rfl rfl rfl hB0 hi hzs hall ?_ | fail)
  clear hB0 hcv
  revert hk3 hcb
  generalize (w1.alloc (.cells Tryz.zeroCells176 176)).setRow w1.heap.size arr = w3
  generalize w1.heap.size = cb
  intro hk3 hcb
  have hgl3 := hgl.kept hk3 (fun _ _ => id)
  clear hk1 HV
  go_loopw [7, 6, 5] (fun rv lv sv wr => ∃ (f : Nat) (t last : List UInt8) (acc : List (List UInt8)), rv = .string ⟨t.toArray⟩ ∧ lv = .string ⟨last.toArray⟩ ∧ t.length < f ∧ Hid (Pd.readJ Sh.K (b.length + 1) b [] [] = Pd.readJ Sh.K f t last acc) ∧ t.length + acc.length ≤ 90000 ∧ last.length ≤ 32 ∧ wr.ownsRow w3.heap.size 9 1 sv acc.length (strsV acc) ∧ Kx (fun _ => False) w3 wr) (fun rv _ _ _ => lenS rv)
  case atStart => exact ⟨b.length + 1, b, [], [], rfl, rfl, by omega, rfl, by simpa using hbl, by simp, World.ownsRow_nil _ _ _ _, Kx.refl _ _⟩
  case round =>
    obtain ⟨f, t, last, acc, rfl, rfl, hf, HE, hlen, hll, hown, hkr⟩ := hrel
    obtain ⟨av, cv, rfl⟩ := row_shape hown
    by_cases h0 : t = []
    · subst h0
      have HE2 : Hid (Pd.readJ Sh.K (b.length + 1) b [] [] = some acc) := by show _ = _; rw [HE.out, readJ_nil]
      have hk4 := hk3.trans hkr
      have hown4 := own_mono hown hk3.size
      go_wp2
      go_ret2
      rw [HE2.out]
      exact ⟨⟨_, rfl, hown4⟩, hk4⟩
    · have hne : (t == ([] : List UInt8)) = false := by simpa using h0
      obtain ⟨f', rfl⟩ : ∃ f', f = f' + 1 := ⟨f - 1, by omega⟩
      have hcut := cutEntry_any t wr (hgl3.kept hkr (fun _ _ => id)) (by omega)
      have HS := readJ_step Sh.K f' t last acc h0
      have hsh := cutE_short t
      generalize (Pd.cutE t).1 = st at *
      generalize (Pd.cutE t).2.1 = sl at *
      generalize (Pd.cutE t).2.2.1 = bh at *
      generalize (Pd.cutE t).2.2.2 = ok at *
      have HS2 : Hid (Pd.readJ Sh.K (b.length + 1) b [] [] = if ok = false then none else if st = [] ∧ sl = [] then some acc else if sl ≠ Pd.sealOf Sh.K last st then none else Pd.readJ Sh.K f' bh sl (acc ++ [st])) := HE.out.trans HS
      clear HS HE
      go_wp2_with fail
      refine hcut.mono ?_
      rintro _ w4 ⟨rfl, hk4⟩
      clear hcut
      have hk34 := hkr.trans hk4
      have hown4 := own_kept' hown hk4 (fun _ _ _ => id)
      cases ok with
      | false =>
        have HE2 : Hid (Pd.readJ Sh.K (b.length + 1) b [] [] = none) := by show _ = _; rw [HS2.out, if_pos rfl]
        have hk5 := (hk3.trans hk34).alloc (.cells #[.string ⟨st.toArray⟩, .string ⟨sl.toArray⟩] 191)
        go_wp2
        go_ret2
        rw [HE2.out]
        exact ⟨rfl, hk5⟩
      | true =>
        rw [if_neg (by decide)] at HS2
        by_cases hee : st = [] ∧ sl = []
        · have HE2 : Hid (Pd.readJ Sh.K (b.length + 1) b [] [] = some acc) := by show _ = _; rw [HS2.out, if_pos hee]
          obtain ⟨rfl, rfl⟩ := hee
          have hk5 := (hk3.trans hk34).alloc (.cells #[.string ⟨([] : List UInt8).toArray⟩, .string ⟨([] : List UInt8).toArray⟩] 191)
          have hown5 := (own_mono hown4 hk3.size).alloc (.cells #[.string ⟨([] : List UInt8).toArray⟩, .string ⟨([] : List UInt8).toArray⟩] 191)
          go_wp2
          go_ret2
          rw [HE2.out]
          exact ⟨⟨_, rfl, hown5⟩, hk5⟩
        · obtain ⟨hb1, ⟨hb2, hb3⟩, hb4⟩ := hsh hee
          have hst : (st == ([] : List UInt8)) = false := by cases st with | nil => simp at hb2 | cons a l => rfl
          have HS3 : Hid (Pd.readJ Sh.K (b.length + 1) b [] [] = if sl ≠ Pd.sealOf Sh.K last st then none else Pd.readJ Sh.K f' bh sl (acc ++ [st])) := by show _ = _; rw [HS2.out, if_neg hee]
          clear HS2 hsh
          have hbx := Cb.new #[.string ⟨st.toArray⟩, .string ⟨sl.toArray⟩] 191 w4
          have hk5 := hk34.alloc (.cells #[.string ⟨st.toArray⟩, .string ⟨sl.toArray⟩] 191)
          have hown5 := hown4.alloc (.cells #[.string ⟨st.toArray⟩, .string ⟨sl.toArray⟩] 191)
          go_wp2_with fail
          revert hbx hk5 hown5
          generalize w4.alloc (.cells #[.string ⟨st.toArray⟩, .string ⟨sl.toArray⟩] 191) = w5
          have hneb : ∀ y, (Value.slice av acc.length cv).ownBlock = some y → y ≠ w4.heap.size := fun y h e => absurd (hown4.lt y h).2 (by omega)
          revert hneb
          generalize w4.heap.size = eb
          intro hneb hbx hk5 hown5
          have hcb5 := hcb.kept hk5 id
          refine wp_region_quiet_tail (C := fun w' => Kx (fun _ => False) w5 w') 6 (by kernel_rfl) (by kernel_rfl) (Kx.refl _ _).drew ?_
          refine quiet_val rfl (.pointer (some ⟨eb, 1, none⟩)) (fun w' hC => by go_simp) ?_
          refine quiet_val rfl (.string ⟨sl.toArray⟩) (fun w' hC => by
            have hc0 : w'.cell? ⟨eb, 1, none⟩ = some (.string ⟨sl.toArray⟩) := Cb.cell (hbx.kept hC id) 1
            go_simp) ?_
          refine quiet_val rfl (.string ⟨last.toArray⟩) (fun w' hC => by go_simp) ?_
          refine quiet_val rfl (.pointer (some ⟨eb, 0, none⟩)) (fun w' hC => by go_simp) ?_
          refine quiet_val rfl (.string ⟨st.toArray⟩) (fun w' hC => by
            have hc0 : w'.cell? ⟨eb, 0, none⟩ = some (.string ⟨st.toArray⟩) := Cb.cell (hbx.kept hC id) 0
            go_simp) ?_
          refine quiet_enter rfl 84 #[.pointer (some ⟨cb, 0, none⟩), .string ⟨last.toArray⟩, .string ⟨st.toArray⟩] (.string ⟨(Sh.ofK Sh.K (last ++ st)).toArray⟩) (fun w' => by go_simp) (fun w' hC => (hseal w' cb last st (hcb5.kept hC id) (by omega)).mono (fun e w'' h => ⟨h.1, hC.trans h.2⟩)) ?_
          refine wpQuiet_nil (fun w6 hk56 => ?_)
          simp only [Act.put, List.setIfInBounds_toArray, List.set_cons_succ, List.set_cons_zero, List.drop_succ_cons, List.drop_zero]
          have hk36 := hk5.trans hk56
          have hbx6 := hbx.kept hk56 id
          have hown6 := own_kept' hown5 hk56 (fun _ _ _ => id)
          unfold Pd.sealOf at HS3
          generalize Sh.ofK Sh.K (last ++ st) = sea at *
          clear hbx hown5 hcb5
          by_cases hse : sl = sea
          · subst hse
            have HE2 : Hid (Pd.readJ Sh.K (b.length + 1) b [] [] = Pd.readJ Sh.K f' bh sl (acc ++ [st])) := by show _ = _; rw [HS3.out, if_neg (by simp)]
            have hebx : ∀ y, y = eb → ¬ (Value.slice av acc.length cv).ownBlock = some y := fun y e h => hneb y h e
            have c0 : w6.cell? ⟨eb, 0, none⟩ = some (.string ⟨st.toArray⟩) := Cb.cell hbx6 0
            have c1 : w6.cell? ⟨eb, 1, none⟩ = some (.string ⟨sl.toArray⟩) := Cb.cell hbx6 1
            go_wp2_with (at_builtin; refine wpList_append_own _ rfl (.tmp 34) (.tmp 37) 35 rfl w3.heap.size 9 i9 _ 1 16 Tryz.underlying35 hi9 hz0 hz1 hz2 rfl (by decide) _ _ (strsV acc) rfl (hown6.alloc _) ⟨w6.heap.size, 0, none⟩ 1 1 [.string ⟨st.toArray⟩] rfl rfl ?c1 ?c2 ?c3 ?c4 ?c5 ?_)
            case c1 => exact cells_new w6 [.string ⟨st.toArray⟩] 9
            case c2 => simp [Value.oneCell']
            all_goals try (first | omega | (unfold maxLen; omega) | (have := hk36.size; simp; omega))
            intro v7 w7 hown7 hgrow7 _
            have hk7 : Kx (fun _ => False) w3 w7 := (hk36.alloc _).grown hgrow7 (fun k he => (hown6.lt k he).1)
            have hk67 : Kx (fun k => (Value.slice av acc.length cv).ownBlock = some k) w6 w7 := ((Kx.refl _ _).alloc _).trans ((Kx.of_grown hgrow7).mono (fun k _ e => e.symm))
            have hc1' : w7.cell? ⟨eb, 1, none⟩ = some (.string ⟨sl.toArray⟩) := (hk67.cell (p := ⟨eb, 1, none⟩) (lt_of_cell (p := ⟨eb, 1, none⟩) c1) (hebx eb rfl)).trans c1
            have hown8 : w7.ownsRow w3.heap.size 9 1 v7 (acc ++ [st]).length (strsV (acc ++ [st])) := by
              rw [List.length_append, strsV_snoc]
              exact hown7
            clear hown7 hgrow7 c0 c1
            go_wp2_with fail
            go_quiet (fail)
            go_wp2
            go_roundw
            case rel => exact ⟨f', bh, sl, acc ++ [st], rfl, rfl, by omega, HE2, by rw [List.length_append, List.length_singleton]; omega, by omega, hown8, hk7.drewN _⟩
            case measure => simp [lenS, ByteArray.size]; omega
          · have hse2 : (sl == sea) = false := by simpa using hse
            have HE2 : Hid (Pd.readJ Sh.K (b.length + 1) b [] [] = none) := by show _ = _; rw [HS3.out, if_pos hse]
            have hk7 := hk3.trans hk36
            go_wp2
            go_ret2
            rw [HE2.out]
            exact ⟨rfl, hk7⟩

end Go.Proofs.YtepgoppgblfjbaaGreatDoor

/- braid.Open. -/
namespace Go.Proofs.YtepgoppgblfjbaaGreatDoor
open Go.RowKit

namespace Pd
/-- Open: the store and the streams that made it, or nothing. -/
def openS (KK : List Int) (b : List UInt8) : Option (St × List (List UInt8)) :=
  match readJ KK (b.length + 1) b [] [] with
  | none => none
  | some xs => (replay KK St.empty xs).map fun S => (S, xs)

theorem readJ_mem (KK : List Int) : ∀ (f : Nat) (t last : List UInt8) (acc xs : List (List UInt8)), readJ KK f t last acc = some xs → (∀ x ∈ acc, 1 ≤ x.length ∧ x.length ≤ 8000) → ∀ x ∈ xs, 1 ≤ x.length ∧ x.length ≤ 8000 := by
  intro f
  induction f with
  | zero => intro t last acc xs h ha; cases h; exact ha
  | succ f ih =>
    intro t last acc xs h ha
    by_cases h0 : t = []
    · subst h0
      rw [readJ_nil] at h
      cases h
      exact ha
    · rw [readJ_step KK f t last acc h0] at h
      split at h
      · cases h
      · split at h
        · cases h
          exact ha
        · rename_i h2
          split at h
          · cases h
          · refine ih _ _ _ _ h (fun x hx => ?_)
            rcases List.mem_append.1 hx with hx | hx
            · exact ha x hx
            · rw [List.mem_singleton.1 hx]
              exact (cutE_short t h2).2.1

theorem elen_le {x : List UInt8} (h : x.length ≤ 8000) : elen x ≤ 8037 := by
  unfold elen
  have := dec_len x.length h
  rw [Lib.itoa_nonneg]
  omega

theorem total_le : ∀ (xs : List (List UInt8)), (∀ x ∈ xs, x.length ≤ 8000) → total xs ≤ 8037 * xs.length
  | [], _ => Nat.le_refl _
  | x :: xs, h => by
    have h1 := total_le xs (fun y hy => h y (List.mem_cons_of_mem _ hy))
    have h2 := elen_le (h x (List.mem_cons_self ..))
    have e : total (x :: xs) = elen x + total xs := by simp [total]
    rw [e, List.length_cons]
    omega

theorem replay_take {KK : List Int} {xs : List (List UInt8)} {i : Nat} {S : St} (hi : i < xs.length) (h : replay KK St.empty (xs.take i) = some S) :
    ((imp KK S xs[i]).1.2 = 0 → replay KK St.empty (xs.take (i + 1)) = some (imp KK S xs[i]).2) ∧ (¬ (imp KK S xs[i]).1.2 = 0 → replay KK St.empty xs = none) := by
  refine ⟨fun h0 => ?_, fun h0 => ?_⟩
  · rw [List.take_succ_eq_append_getElem hi, replay_app KK _ _ _ _ h]
    unfold replay
    rw [if_pos h0]
    rfl
  · have e : xs = xs.take i ++ xs[i] :: xs.drop (i + 1) := by rw [← List.drop_eq_getElem_cons hi, List.take_append_drop]
    have h1 := replay_app KK (xs.take i) (xs[i] :: xs.drop (i + 1)) _ _ h
    rw [← e] at h1
    rw [h1]
    unfold replay
    rw [if_neg h0]
end Pd

/-- A store that was opened. -/
def OpenOk (M : Nat → Prop) (w w' : World) (s : Nat) (S : St) (j : List UInt8) (n : Nat) : Prop :=
  ∃ M' X, Oj M' w' s S j n X ∧ (∀ k, M' k → M k ∨ w.heap.size ≤ k) ∧ (∀ k, M k → M' k) ∧ ∀ k, X k → w.heap.size ≤ k

/-- What Open gives. -/
def OpenR (M : Nat → Prop) (r : Option (St × List (List UInt8))) (w : World) (e : Ending) (w' : World) : Prop :=
  match r with
  | none => e = .returned (.tuple #[.pointer none, .int .i64 6])
  | some x => ∃ s, e = .returned (.tuple #[.pointer (some ⟨s, 0, none⟩), .int .i64 0]) ∧ OpenOk M w w' s x.1 (Pd.entries Sh.K [] x.2) (800000 * x.2.length)

set_option maxHeartbeats 1600000 in
set_option maxRecDepth 100000 in
theorem open_any (M : Nat → Prop) (vb : Value) (b : List UInt8) (w : World) (hM : ∀ k, M k → 7 ≤ k ∧ k < w.heap.size) (hgl : Gl w) (hv : BytesAt w vb b) (hbl : b.length ≤ 90000) (h7 : 7 ≤ w.heap.size)
    (hfew : ∀ xs, Pd.readJ Sh.K (b.length + 1) b [] [] = some xs → xs.length ≤ 1000) :
    Calls Tryz.prog 38 #[vb] w fun e w' => OpenR M (Pd.openS Sh.K b) w e w' ∧ Kx (fun _ => False) w w' := by
  have hmx : maxLen = 9223372036854775807 := rfl
  have hread := jread_any vb b w hgl hv hbl
  cases hr : Pd.readJ Sh.K (b.length + 1) b [] [] with
  | none =>
    have HO : Hid (Pd.openS Sh.K b = none) := by show _ = _; unfold Pd.openS; rw [hr]
    rw [hr] at hread
    clear hv hgl hr hfew
    go_enter Tryz.func38, Tryz.ntmps38
    go_wp2_with fail
    refine hread.mono ?_
    rintro e w1 ⟨hR, hk1⟩
    obtain rfl : e = .returned (.tuple #[.slice none 0 0, .int .i64 6]) := hR
    clear hread
    go_wp2
    go_ret2
    rw [HO.out]
    exact ⟨rfl, hk1⟩
  | some xs =>
    have HO : Hid (Pd.openS Sh.K b = (Pd.replay Sh.K St.empty xs).map fun S => (S, xs)) := by show _ = _; unfold Pd.openS; rw [hr]
    have hx8 := Pd.readJ_mem Sh.K _ _ _ _ _ hr (fun x hx => by cases hx)
    have hxl := hfew xs hr
    rw [hr] at hread
    clear hv hr hfew
    go_enter Tryz.func38, Tryz.ntmps38
    go_wp2_with fail
    refine hread.mono ?_
    rintro e w1 ⟨hR, hk1⟩
    obtain ⟨v, rfl, hrow⟩ : ∃ v, e = .returned (.tuple #[v, .int .i64 0]) ∧ w1.ownsRow w.heap.size 9 1 v xs.length (strsV xs) := hR
    obtain ⟨av, cv, rfl⟩ := row_shape hrow
    have hM1 : ∀ k, M k → 7 ≤ k ∧ k < w1.heap.size := fun k e => ⟨(hM k e).1, Nat.lt_of_lt_of_le (hM k e).2 hk1.size⟩
    have h71 : 7 ≤ w1.heap.size := Nat.le_trans h7 hk1.size
    have hgl1 := hgl.kept hk1 (fun _ _ => id)
    clear hread hgl
    go_wp2_with fail
    refine (new_any M w1 hM1 h71).mono ?_
    rintro _ w2 ⟨s, h, o, c, r, t, rfl, hN⟩
    obtain ⟨hO2, hX2⟩ := Oj.start hN
    have hn2 := hN.new
    have hkN := hN.kx
    have hM2 : ∀ k, (M k ∨ k = s ∨ Fo o c r t k) → M k ∨ w1.heap.size ≤ k := fun k e => by
      rcases e with e | e | e
      · exact .inl e
      · right; omega
      · right; unfold Fo at e; omega
    have hMM2 : ∀ k, M k → (M k ∨ k = s ∨ Fo o c r t k) := fun k e => .inl e
    have hgl2 := hgl1.kept hkN (fun _ _ => id)
    have HI : Hid (∃ (S : St) (M' X : Nat → Prop), Pd.replay Sh.K St.empty (xs.take 0) = some S ∧ Oj M' w2 s S (Pd.entries Sh.K [] (xs.take 0)) (800000 * 0) X ∧ (∀ k, M' k → M k ∨ w1.heap.size ≤ k) ∧ (∀ k, M k → M' k) ∧ (∀ k, X k → w1.heap.size ≤ k) ∧ Gl w2 ∧ Kx (fun _ => False) w1 w2) :=
      ⟨St.empty, _, _, rfl, hO2, hM2, hMM2, hX2, hgl2, hkN⟩
    clear hN hO2 hX2 hn2 hkN hM2 hMM2 hgl2 hgl1 hM1 h71
    go_wp2_with fail
    go_loopw [22] (fun iv wr => ∃ i : Nat, iv = .int .i64 i ∧ i ≤ xs.length ∧ Hid (∃ (S : St) (M' X : Nat → Prop), Pd.replay Sh.K St.empty (xs.take i) = some S ∧ Oj M' wr s S (Pd.entries Sh.K [] (xs.take i)) (800000 * i) X ∧ (∀ k, M' k → M k ∨ w1.heap.size ≤ k) ∧ (∀ k, M k → M' k) ∧ (∀ k, X k → w1.heap.size ≤ k) ∧ Gl wr ∧ Kx (fun _ => False) w1 wr)) (fun iv _ => xs.length - (intOf iv).toNat)
    case atStart => exact ⟨0, rfl, by omega, HI⟩
    case round =>
      obtain ⟨i, rfl, hi, HJ⟩ := hrel
      obtain ⟨S, M', X, h1, h2, h3, h4, h5, h6, h8⟩ := HJ.out
      clear HJ HI
      by_cases hlt : i < xs.length
      · have hlt2 : (i : Int) < (xs.length : Int) := by omega
        obtain ⟨g, cap, he, hc0⟩ := row_cell (own_kept' hrow h8 (fun _ _ _ => id)) i hlt
        cases he
        have hjl : (Pd.entries Sh.K [] (xs.take i)).length ≤ 100000000 := by
          rw [Pd.entries_len]
          have := Pd.total_le (xs.take i) (fun x hx => (hx8 x (List.mem_of_mem_take hx)).2)
          rw [List.length_take] at this
          omega
        have hxi := (hx8 xs[i] (List.getElem_mem hlt)).2
        have himp := h2.import h6 xs[i] (by omega) (by omega) hjl
        obtain ⟨r1, r2⟩ := Pd.replay_take hlt h1
        have hje : (Pd.imp Sh.K S xs[i]).1.2 = 0 → (if (Pd.imp Sh.K S xs[i]).1.2 = 0 then Pd.record Sh.K (Pd.entries Sh.K [] (xs.take i)) xs[i] else Pd.entries Sh.K [] (xs.take i)) = Pd.entries Sh.K [] (xs.take (i + 1)) := fun h0 => by
          rw [if_pos h0, Pd.record_entries, List.take_succ_eq_append_getElem hlt]
        have HJ : Hid ((Pd.imp Sh.K S xs[i]).1.2 = 0 → Pd.replay Sh.K St.empty (xs.take (i + 1)) = some (Pd.imp Sh.K S xs[i]).2 ∧ (if (Pd.imp Sh.K S xs[i]).1.2 = 0 then Pd.record Sh.K (Pd.entries Sh.K [] (xs.take i)) xs[i] else Pd.entries Sh.K [] (xs.take i)) = Pd.entries Sh.K [] (xs.take (i + 1))) := fun h0 => ⟨r1 h0, hje h0⟩
        have HN : Hid (¬ (Pd.imp Sh.K S xs[i]).1.2 = 0 → Pd.replay Sh.K St.empty xs = none) := r2
        clear r1 r2 hje h1
        generalize hq : (if (Pd.imp Sh.K S xs[i]).1.2 = 0 then Pd.record Sh.K (Pd.entries Sh.K [] (xs.take i)) xs[i] else Pd.entries Sh.K [] (xs.take i)) = j2 at *
        clear hq
        generalize (Pd.imp Sh.K S xs[i]).2 = S2 at *
        generalize (Pd.imp Sh.K S xs[i]).1.1 = n1 at *
        generalize (Pd.imp Sh.K S xs[i]).1.2 = e1 at *
        go_wp2_with fail
        refine himp.mono ?_
        rintro _ w3 ⟨rfl, M3, X3, g1, g2, g3, g4, g5⟩
        clear himp hc0
        have hk3 : Kx (fun _ => False) w1 w3 := h8.join g5 (fun k hk e => absurd (h5 k e) (by omega))
        by_cases he0 : e1 = 0
        · subst he0
          obtain ⟨q1, rfl⟩ := HJ.out rfl
          have hgl3 := h6.kept g5 (fun k hk e => by have := (h2.low k (h2.inM k e)).1; omega)
          have HJ3 : Hid (∃ (S : St) (M' X : Nat → Prop), Pd.replay Sh.K St.empty (xs.take (i + 1)) = some S ∧ Oj M' w3 s S (Pd.entries Sh.K [] (xs.take (i + 1))) (800000 * (i + 1)) X ∧ (∀ k, M' k → M k ∨ w1.heap.size ≤ k) ∧ (∀ k, M k → M' k) ∧ (∀ k, X k → w1.heap.size ≤ k) ∧ Gl w3 ∧ Kx (fun _ => False) w1 w3) :=
            ⟨S2, M3, X3, q1, g1.more (by omega), fun k e => (g2 k e).elim (h3 k) (fun e => .inr (Nat.le_trans h8.size e)), fun k e => g3 k (h4 k e), fun k e => (g4 k e).elim (h5 k) (fun e => Nat.le_trans h8.size e), hgl3, hk3⟩
          clear g1 g2 g3 g4 g5 h2 h3 h4 h5 h6 h8 hk3 q1 HJ HN hgl3
          go_wp2
          go_roundw
          case rel => exact ⟨i + 1, by go_num, hlt, HJ3⟩
          case measure => simp [intOf]; omega
        · have he2 : (e1 == 0) = false := by simpa using he0
          have HN2 : Hid (Pd.openS Sh.K b = none) := by show _ = _; rw [HO.out, HN.out he0]; rfl
          have hkF := hk1.trans hk3
          clear g1 g2 g3 g4 g5 h2 h3 h4 h5 h6 h8 hk3 HJ HN
          go_wp2
          go_ret2
          rw [HN2.out]
          exact ⟨rfl, hkF⟩
      · obtain rfl : i = xs.length := by omega
        have hlt2 : ¬ (xs.length : Int) < (xs.length : Int) := by omega
        rw [List.take_of_length_le (Nat.le_refl _)] at h1 h2
        have HN2 : Hid (Pd.openS Sh.K b = some (S, xs)) := by show _ = _; rw [HO.out, h1]; rfl
        have hkF := hk1.trans h8
        have HF : Hid (OpenOk M w wr s S (Pd.entries Sh.K [] xs) (800000 * xs.length)) := ⟨M', X, h2, fun k e => (h3 k e).imp id (fun e => Nat.le_trans hk1.size e), h4, fun k e => Nat.le_trans hk1.size (h5 k e)⟩
        clear h1 h2 h3 h4 h5 h6 h8
        go_wp2
        go_ret2
        rw [HN2.out]
        exact ⟨⟨s, rfl, HF.out⟩, hkF⟩

end Go.Proofs.YtepgoppgblfjbaaGreatDoor

/- braidkeep.opened. -/
namespace Go.Proofs.YtepgoppgblfjbaaGreatDoor
open Go.RowKit

/-- A journal of one stream. -/
structure OneJ (KK : List Int) (x : List UInt8) (S : St) (j : List UInt8) : Prop where
  pos : 1 ≤ j.length
  le : j.length ≤ 9000
  read : Pd.readJ KK (j.length + 1) j [] [] = some [x]
  opens : Pd.openS KK j = some (S, [x])
  cread : Pd.readJ KK ((j.take (j.length - 1)).length + 1) (j.take (j.length - 1)) [] [] = some []
  copens : Pd.openS KK (j.take (j.length - 1)) = some (St.empty, [])

theorem oneJ (KK : List Int) (x : List UInt8) (S : St) (n : Int) (h : Pd.imp KK St.empty x = ((n, 0), S)) : OneJ KK x S (Pd.record KK [] x) := by
  have hS : Pd.runS KK (fun _ => x) 1 = S := by
    show (Pd.imp KK St.empty x).2 = S
    rw [h]
  have hT : Pd.runT KK (fun _ => x) 1 = [x] := by
    show Pd.took KK St.empty [] x = _
    unfold Pd.took
    rw [h]
    rfl
  have hJ : Pd.runJ KK (fun _ => x) 1 = Pd.record KK [] x := by
    have := Pd.runJ_succ KK (fun _ => x) 0
    rw [this]
    show (if (Pd.imp KK St.empty x).1.2 = 0 then Pd.record KK [] x else _) = _
    rw [h]
    exact if_pos rfl
  have hlen : (Pd.record KK [] x).length = Pd.elen x := by
    rw [← hJ]
    show (Pd.entries KK [] (Pd.runT KK (fun _ => x) 1)).length = _
    rw [Pd.entries_len, hT]
    simp [Pd.total]
  have hx := (Pd.run_took KK (fun _ => x) 1).len x (by rw [hT]; exact List.mem_singleton.2 rfl)
  have he := Pd.elen_le hx.2
  have hrep : Pd.replay KK St.empty [x] = some S := by
    have := (Pd.run_took KK (fun _ => x) 1).rep
    rw [hT, hS] at this
    exact this
  have hr : Pd.readJ KK ((Pd.record KK [] x).length + 1) (Pd.record KK [] x) [] [] = some [x] := by
    have h := Pd.read_at KK (fun _ => x) 1 1 (Pd.record KK [] x).length ((Pd.record KK [] x).length + 1) (Nat.le_refl _) (by rw [hJ]; exact Nat.le_refl _) (fun k h1 h2 => absurd h1 (by omega)) (by rw [List.length_take]; omega)
    rw [hT, hJ, List.take_length] at h
    exact h
  have hpos : 1 ≤ (Pd.record KK [] x).length := by rw [hlen]; unfold Pd.elen; omega
  have hc : Pd.readJ KK (((Pd.record KK [] x).take ((Pd.record KK [] x).length - 1)).length + 1) ((Pd.record KK [] x).take ((Pd.record KK [] x).length - 1)) [] [] = some [] := by
    have h := Pd.read_at KK (fun _ => x) 1 0 ((Pd.record KK [] x).length - 1) (((Pd.record KK [] x).take ((Pd.record KK [] x).length - 1)).length + 1) (Nat.zero_le _) (Nat.zero_le _) (fun k h1 h2 => by
      obtain rfl : k = 1 := by omega
      rw [hJ]
      omega) (by rw [hJ]; exact Nat.lt_succ_self _)
    rw [hJ] at h
    exact h
  refine ⟨hpos, by omega, hr, ?_, hc, ?_⟩
  · unfold Pd.openS
    rw [hr]
    show (Pd.replay KK St.empty [x]).map _ = _
    rw [hrep]
    rfl
  · unfold Pd.openS
    rw [hc]
    rfl

theorem ex_journal : ∃ j, OneJ Sh.K exampleL Ex.st j ∧ Pd.record Sh.K [] exampleL = j := ⟨_, oneJ Sh.K exampleL Ex.st 2 Ex.imp, rfl⟩

set_option maxHeartbeats 1600000 in
set_option maxRecDepth 100000 in
theorem opened_any (w : World) (hgl : Gl w) (h7 : 7 ≤ w.heap.size) :
    Calls Tryz.prog 35 #[] w fun e w' => e = .returned (.bool true) ∧ Kx (fun _ => False) w w' := by
  have hmx : maxLen = 9223372036854775807 := rfl
  obtain ⟨jl, ⟨hjp, hjl, hjr, hjo, hcr, hco⟩, hjn⟩ := ex_journal
  go_enter Tryz.func35, Tryz.ntmps35
  go_wp2_with fail
  refine (imported_any w hgl h7).mono ?_
  rintro _ w1 ⟨rfl, hk1⟩
  have hgl1 := hgl.kept hk1 (fun _ _ => id)
  have h71 : 7 ≤ w1.heap.size := Nat.le_trans h7 hk1.size
  go_wp2_with fail
  refine (new_any (fun _ => False) w1 (fun _ h => h.elim) h71).mono ?_
  rintro _ w2 ⟨s, h, o, c, r, t, rfl, hN⟩
  obtain ⟨hO, hX⟩ := Oj.start hN
  have hk2 := hk1.trans hN.kx
  have hgl2 := hgl1.kept hN.kx (fun _ _ => id)
  have himp := hO.import hgl2 exampleL (by decide) (by decide) (by decide)
  rw [Ex.imp, if_pos rfl, hjn] at himp
  have HO : Hid (Oj (fun k => False ∨ k = s ∨ Fo o c r t k) w2 s St.empty [] 0 (StX s o c r t (.slice none 0 0))) := hO
  have hN1 := hN.kx
  clear hN hO hgl hgl1
  go_wp2_with fail
  refine (example_any _).mono ?_
  rintro _ _ ⟨rfl, rfl⟩
  go_wp2_with fail
  refine himp.mono ?_
  rintro _ w3 ⟨rfl, M3, X3, g1, g2, g3, g4, g5⟩
  clear himp
  have hk13 : Kx (fun _ => False) w1 w3 := hN1.join g5 (fun k hk e => absurd (hX k e) (by omega))
  have hk3 := hk1.trans hk13
  have hgl3 := hgl2.kept g5 (fun k hk e => by have := (HO.out.low k (HO.out.inM k e)).1; omega)
  have h73 : 7 ≤ w3.heap.size := Nat.le_trans h7 hk3.size
  have hbytes := g1.bytes (by omega)
  clear HO g2 g3 g4 g5 hX hN1 hk13 hk2 hgl2 h71
  go_wp2_with fail
  refine hbytes.mono ?_
  rintro _ w4 ⟨vb, rfl, hrow, hk4⟩
  clear hbytes
  have hs4 := g1.kept hk4
  have hgl4 := hgl3.kept hk4 (fun _ _ => id)
  have h74 : 7 ≤ w4.heap.size := Nat.le_trans h73 hk4.size
  have hB4 := BytesAt.of_own hrow rfl
  obtain ⟨g, cap, rfl, hcell⟩ : ∃ g cap, vb = .slice (some ⟨g, 0, none⟩) jl.length cap ∧ jl.length ≤ cap := by
    rcases hrow.2 with ⟨_, h2⟩ | ⟨g, cap, cur, h1, _, _, h2, _⟩
    · omega
    · exact ⟨g, cap, h1, h2⟩
  have hk04 := hk3.trans hk4
  have hop := open_any (fun _ => False) _ jl w4 (fun _ h => h.elim) hgl4 hB4 (by omega) h74 (fun xs hx => by rw [hjr] at hx; cases hx; decide)
  rw [hjo] at hop
  clear g1 hgl3 h73 hk3 hk4 hrow
  go_wp2_with fail
  refine hop.mono ?_
  rintro e w5 ⟨hR, hk5⟩
  obtain ⟨t1, rfl, M5, X5, hT5, _, _, _⟩ : ∃ t1, e = .returned (.tuple #[.pointer (some ⟨t1, 0, none⟩), .int .i64 0]) ∧ OpenOk (fun _ => False) w4 w5 t1 Ex.st (Pd.entries Sh.K [] [exampleL]) (800000 * 1) := hR
  clear hop
  have hB5 : BytesAt w5 (.slice (some ⟨g, 0, none⟩) (jl.length - 1) cap) (jl.take (jl.length - 1)) := by
    rcases hB4.kept hk5 with ⟨h1, _⟩ | ⟨a, c2, h1, h2⟩
    · cases h1
    · cases h1
      refine .inr ⟨_, cap, by rw [List.length_take, Nat.min_eq_left (by omega)], fun i x hx => h2 i x ?_⟩
      unfold A8 at hx ⊢
      rw [List.map_take] at hx
      have hi : i < jl.length - 1 := by
        have := (List.getElem?_eq_some_iff.1 hx).1
        rw [List.length_take] at this
        omega
      rw [List.getElem?_take_of_lt hi] at hx
      exact hx
  have hs5 := hs4.kept hk5
  have hgl5 := hgl4.kept hk5 (fun _ _ => id)
  have h75 : 7 ≤ w5.heap.size := Nat.le_trans h74 hk5.size
  have hk05 := hk04.trans hk5
  have hop2 := open_any (fun _ => False) _ _ w5 (fun _ h => h.elim) hgl5 hB5 (by rw [List.length_take]; omega) h75 (fun xs hx => by rw [hcr] at hx; cases hx; decide)
  rw [hco] at hop2
  clear hB4 hB5 hs4 hgl4 h74 hk04 hk5 hgl5 h75
  have hj0 : ¬ (jl.length : Int) = 0 := by omega
  have hj1 : ((jl.length : Int) == 0) = false := by simpa using hj0
  have hj2 : ((jl.length : Int) - 1) = ((jl.length - 1 : Nat) : Int) := by omega
  generalize hJ : jl.length = J at *
  go_wp2_with fail
  refine hop2.mono ?_
  rintro e w6 ⟨hR, hk6⟩
  obtain ⟨t2, rfl, M6, X6, hU6, _, _, _⟩ : ∃ t2, e = .returned (.tuple #[.pointer (some ⟨t2, 0, none⟩), .int .i64 0]) ∧ OpenOk (fun _ => False) w5 w6 t2 St.empty (Pd.entries Sh.K [] []) (800000 * 0) := hR
  clear hop2
  have hk06 := hk05.trans hk6
  have hs6 := hs5.kept hk6
  have hsh1 := (hT5.kept hk6).shown (by decide)
  clear hT5 hs5 hk05 hk6
  go_wp2_with fail
  refine hsh1.mono ?_
  rintro _ w7 ⟨o1, rfl, hS1, _, hk7⟩
  clear hsh1
  have hsh2 := (hs6.kept hk7).shown (by decide)
  have hU7 := hU6.kept hk7
  have hk07 := hk06.trans hk7
  clear hs6 hU6 hk06 hk7
  go_wp2_with fail
  refine hsh2.mono ?_
  rintro _ w8 ⟨o2, rfl, hS2, _, hk8⟩
  clear hsh2
  obtain rfl := hS1.one hS2
  have hsh3 := (hU7.kept hk8).shown (by decide)
  have hk08 := hk07.trans hk8
  clear hU7 hk07 hk8 hS1 hS2
  go_wp2_with fail
  refine hsh3.mono ?_
  rintro _ w9 ⟨o3, rfl, hS3, _, hk9⟩
  clear hsh3
  obtain rfl := hS3.empty
  have hk09 := hk08.trans hk9
  go_wp2
  go_ret
  exact ⟨rfl, hk09⟩

end Go.Proofs.YtepgoppgblfjbaaGreatDoor

/- Torn: a store and two rows beside it. -/
namespace Go.Proofs.YtepgoppgblfjbaaGreatDoor
open Go.RowKit

/-- Numbers as cells. -/
def intsV (l : List Nat) : List Value := l.map fun (j : Nat) => Value.int .i64 (j : Int)
theorem info3 : (Tryz.prog.info? 3).map (fun i => (i.zero, i.size, i.bytes)) = some (some (.int .i64 0), 1, 8) := by kernel_rfl
theorem intsV_app (a b : List Nat) : intsV (a ++ b) = intsV a ++ intsV b := List.map_append

structure Tn (w wr : World) (s : Nat) (S : St) (j : List UInt8) (n : Nat) (sv : Value) (so : List (List UInt8)) (ev : Value) (eo : List Nat) : Prop where
  ex : ∃ M X, Oj M wr s S j n X ∧ (∀ k, sv.ownBlock = some k → M k ∧ ¬ X k) ∧ (∀ k, ev.ownBlock = some k → M k ∧ ¬ X k) ∧ (∀ k, M k → w.heap.size ≤ k)
  st : OwnB wr w.heap.size 9 sv (strsV so)
  en : OwnB wr w.heap.size 3 ev (intsV eo)
  ne : ∀ k, sv.ownBlock = some k → ev.ownBlock ≠ some k
  gl : Gl wr
  kx : Kx (fun _ => False) w wr

section
variable {w wr w' : World} {s n : Nat} {S : St} {j : List UInt8} {sv ev : Value} {so : List (List UInt8)} {eo : List Nat}

theorem Tn.kept (h : Tn w wr s S j n sv so ev eo) (hk : Kx (fun _ => False) wr w') : Tn w w' s S j n sv so ev eo := by
  obtain ⟨M, X, h1, h2, h3, h4⟩ := h.ex
  exact ⟨⟨M, X, h1.kept hk, h2, h3, h4⟩, h.st.kept hk (fun _ _ _ => id), h.en.kept hk (fun _ _ _ => id), h.ne, h.gl.kept hk (fun _ _ => id), h.kx.trans hk⟩

theorem Tn.more {n' : Nat} (h : Tn w wr s S j n sv so ev eo) (hn : n ≤ n') : Tn w wr s S j n' sv so ev eo := by
  obtain ⟨M, X, h1, h2, h3, h4⟩ := h.ex
  exact ⟨⟨M, X, h1.more hn, h2, h3, h4⟩, h.st, h.en, h.ne, h.gl, h.kx⟩

theorem Tn.import (h : Tn w wr s S j n sv so ev eo) (x : List UInt8) (hx : x.length ≤ maxLen) (hn : n ≤ 900000000) (hj : j.length ≤ 100000000) :
    Calls Tryz.prog 24 #[.pointer (some ⟨s, 0, none⟩), .string ⟨x.toArray⟩] wr fun e w' => e = .returned (.tuple #[.int .i64 (Pd.imp Sh.K S x).1.1, .int .i64 (Pd.imp Sh.K S x).1.2]) ∧
      Tn w w' s (Pd.imp Sh.K S x).2 (if (Pd.imp Sh.K S x).1.2 = 0 then Pd.record Sh.K j x else j) (n + 800000) sv so ev eo := by
  obtain ⟨M, X, h1, h2, h3, h4⟩ := h.ex
  refine (h1.import h.gl x hx hn hj).mono ?_
  rintro e w' ⟨rfl, M', X', g1, g2, g3, g4, g5⟩
  have hs : ∀ v : Value, (∀ k, v.ownBlock = some k → M k ∧ ¬ X k) → ∀ k, v.ownBlock = some k → M' k ∧ ¬ X' k := fun v hv k e => by
    obtain ⟨a1, a2⟩ := hv k e
    refine ⟨g3 k a1, fun hx => ?_⟩
    rcases g4 k hx with hx | hx
    · exact a2 hx
    · have := (h1.low k a1).2
      omega
  refine ⟨rfl, ⟨M', X', g1, hs sv h2, hs ev h3, fun k e => ?_⟩, h.st.kept g5 (fun k _ e => (h2 k e).2), h.en.kept g5 (fun k _ e => (h3 k e).2), h.ne, h.gl.kept g5 (fun k hk e => ?_), h.kx.join g5 (fun k hk e => ?_)⟩
  · rcases g2 k e with e | e
    · exact h4 k e
    · exact Nat.le_trans h.kx.size e
  · have := (h1.low k (h1.inM k e)).1
    omega
  · have := h4 k (h1.inM k e)
    omega

theorem Tn.shown (h : Tn w wr s S j n sv so ev eo) (hn : n ≤ 1000000000) :
    Calls Tryz.prog 37 #[.pointer (some ⟨s, 0, none⟩)] wr fun e w' => ∃ out, e = .returned (.string ⟨out.toArray⟩) ∧ ShownR S out ∧ out.length ≤ 10000000000000 ∧ Kx (fun _ => False) wr w' := by
  obtain ⟨M, X, h1, h2, h3, h4⟩ := h.ex
  exact h1.shown hn

theorem Tn.bytes (h : Tn w wr s S j n sv so ev eo) (hj : j.length ≤ 100000000) :
    Calls Tryz.prog 36 #[.pointer (some ⟨s, 0, none⟩)] wr fun e w' => ∃ v, e = .returned v ∧ w'.ownsRow wr.heap.size 5 1 v j.length (A8 j) ∧ Kx (fun _ => False) wr w' := by
  obtain ⟨M, X, h1, h2, h3, h4⟩ := h.ex
  exact h1.bytes hj

theorem Tn.growS (h : Tn w wr s S j n sv so ev eo) (h7 : 7 ≤ w.heap.size) {o : Obj} {v' : Value} {x : List UInt8} (ho : OwnB w' w.heap.size 9 v' (strsV so ++ [.string ⟨x.toArray⟩])) (hg : (wr.alloc o).grownBy w' sv.ownBlock)
    (hb : v'.ownBlock = sv.ownBlock ∨ v'.ownBlock = some (wr.heap.size + 1)) : Tn w w' s S j n v' (so ++ [x]) ev eo := by
  obtain ⟨M, X, h1, h2, h3, h4⟩ := h.ex
  have hk : Kx (fun k => sv.ownBlock = some k) wr w' := ((Kx.refl _ _).alloc o).trans ((Kx.of_grown hg).mono (fun k _ e => e.symm))
  have hlt := ho.lt
  have hst := h.st.lt
  have hen := h.en.lt
  have hws := h.kx.size
  have hkz := hk.size
  refine ⟨⟨fun k => M k ∨ v'.ownBlock = some k, X, h1.move (fun k hk e => ?_) (fun k e => .inl e) hk (fun k _ e => (h2 k e).1) (fun k e e2 => (h2 k e2).2 e) (fun k e => ?_), fun k e => ⟨.inr e, fun hx => ?_⟩, fun k e => ⟨.inl (h3 k e).1, (h3 k e).2⟩, fun k e => ?_⟩,
    ?_, h.en.kept hk (fun k _ e e2 => h.ne k e2 e), fun k e e2 => ?_, h.gl.kept hk (fun k hk e => ?_), h.kx.join hk (fun k hk e => ?_)⟩
  · rcases e with e | e
    · exact e
    · rcases hb with hb | hb
      · rw [hb] at e; exact (h2 k e).1
      · rw [hb] at e; cases e; omega
  · rcases e with e | e
    · have := h1.low k e; omega
    · have := hlt k e; omega
  · rcases hb with hb | hb
    · rw [hb] at e; exact (h2 k e).2 hx
    · rw [hb] at e
      cases e
      have := (h1.low _ (h1.inM _ hx)).2
      omega
  · rcases e with e | e
    · exact h4 k e
    · exact (hlt k e).1
  · rw [strsV_snoc]; exact ho
  · rcases hb with hb | hb
    · rw [hb] at e; exact h.ne k e e2
    · rw [hb] at e
      cases e
      have := (hen _ e2).2
      omega
  · have := (hst k e).1; omega
  · have := (hst k e).1; omega

theorem Tn.growE (h : Tn w wr s S j n sv so ev eo) (h7 : 7 ≤ w.heap.size) {o : Obj} {v' : Value} {x : Nat} (ho : OwnB w' w.heap.size 3 v' (intsV eo ++ [.int .i64 (x : Int)])) (hg : (wr.alloc o).grownBy w' ev.ownBlock)
    (hb : v'.ownBlock = ev.ownBlock ∨ v'.ownBlock = some (wr.heap.size + 1)) : Tn w w' s S j n sv so v' (eo ++ [x]) := by
  obtain ⟨M, X, h1, h2, h3, h4⟩ := h.ex
  have hk : Kx (fun k => ev.ownBlock = some k) wr w' := ((Kx.refl _ _).alloc o).trans ((Kx.of_grown hg).mono (fun k _ e => e.symm))
  have hlt := ho.lt
  have hst := h.st.lt
  have hen := h.en.lt
  have hws := h.kx.size
  have hkz := hk.size
  refine ⟨⟨fun k => M k ∨ v'.ownBlock = some k, X, h1.move (fun k hk e => ?_) (fun k e => .inl e) hk (fun k _ e => (h3 k e).1) (fun k e e2 => (h3 k e2).2 e) (fun k e => ?_), fun k e => ⟨.inl (h2 k e).1, (h2 k e).2⟩, fun k e => ⟨.inr e, fun hx => ?_⟩, fun k e => ?_⟩,
    h.st.kept hk (fun k _ e e2 => h.ne k e e2), ?_, fun k e e2 => ?_, h.gl.kept hk (fun k hk e => ?_), h.kx.join hk (fun k hk e => ?_)⟩
  · rcases e with e | e
    · exact e
    · rcases hb with hb | hb
      · rw [hb] at e; exact (h3 k e).1
      · rw [hb] at e; cases e; omega
  · rcases e with e | e
    · have := h1.low k e; omega
    · have := hlt k e; omega
  · rcases hb with hb | hb
    · rw [hb] at e; exact (h3 k e).2 hx
    · rw [hb] at e
      cases e
      have := (h1.low _ (h1.inM _ hx)).2
      omega
  · rcases e with e | e
    · exact h4 k e
    · exact (hlt k e).1
  · rw [intsV_app]; exact ho
  · rcases hb with hb | hb
    · rw [hb] at e2; exact h.ne k e e2
    · rw [hb] at e2
      cases e2
      have := (hst _ e).2
      omega
  · have := (hen k e).1; omega
  · have := (hen k e).1; omega
end

/-- A row of one cell that was just made. -/
theorem ownB_new {w : World} {base : Nat} {e : TypeId} (x : Value) (hb : base ≤ w.heap.size) : OwnB (w.alloc (.cells #[x] e)) base e (.slice (some ⟨w.heap.size, 0, none⟩) 1 1) [x] :=
  .inr ⟨w.heap.size, 1, #[x], (0, 0), rfl, hb, heap_alloc_new w _, .inl rfl, Nat.le_refl _, by unfold maxLen; omega, rfl, rfl⟩

theorem Tn.start {w w1 w2 : World} {s h o c r t : Nat} (hk : Kx (fun _ => False) w w1) (hN : StrNew (fun _ => False) w1 w2 s h o c r t) (hgl : Gl w2) (h7 : 7 ≤ w.heap.size) :
    Tn w ((w2.alloc (.cells #[.string ⟨#[]⟩] 9)).alloc (.cells #[.int .i64 0] 3)) s St.empty [] 0 (.slice (some ⟨w2.heap.size, 0, none⟩) 1 1) [[]] (.slice (some ⟨w2.heap.size + 1, 0, none⟩) 1 1) [0] := by
  obtain ⟨hO, hX⟩ := Oj.start hN
  have hn := hN.new
  have hk1 := hk.size
  have hk2 := hN.kx.size
  have hA := ((Kx.refl (fun _ => False) w2).alloc (.cells #[.string ⟨#[]⟩] 9)).alloc (.cells #[.int .i64 0] 3)
  have hsz : ((w2.alloc (.cells #[.string ⟨#[]⟩] 9)).alloc (.cells #[.int .i64 0] 3)).heap.size = w2.heap.size + 2 := by simp
  have hsz1 : (w2.alloc (.cells #[.string ⟨#[]⟩] 9)).heap.size = w2.heap.size + 1 := by simp
  have hb1 := (ownB_new (base := w.heap.size) (e := 9) (.string ⟨#[]⟩) (w := w2) (by omega)).alloc (.cells #[.int .i64 0] 3)
  have hb2 := ownB_new (base := w.heap.size) (e := 3) (.int .i64 0) (w := w2.alloc (.cells #[.string ⟨#[]⟩] 9)) (by omega)
  rw [hsz1] at hb2
  refine ⟨⟨fun k => (False ∨ k = s ∨ Fo o c r t k) ∨ k = w2.heap.size ∨ k = w2.heap.size + 1, _, hO.move (fun k hk e => ?_) (fun k e => .inl e) hA (fun _ _ e => e.elim) (fun _ _ => id) (fun k e => ?_), fun k e => ?_, fun k e => ?_, fun k e => ?_⟩, hb1, hb2, fun k e e2 => ?_,
    hgl.kept hA (fun _ _ => id), (hk.trans hN.kx).trans hA⟩
  · rcases e with e | e
    · exact e
    · omega
  · rw [hsz]
    rcases e with e | e
    · have := hO.low k e; omega
    · omega
  · obtain rfl : w2.heap.size = k := Option.some.inj e
    refine ⟨.inr (.inl rfl), fun hx => ?_⟩
    have := (hO.low _ (hO.inM _ hx)).2
    omega
  · obtain rfl : w2.heap.size + 1 = k := Option.some.inj e
    refine ⟨.inr (.inr rfl), fun hx => ?_⟩
    have := (hO.low _ (hO.inM _ hx)).2
    omega
  · rcases e with (e | e | e) | e
    · exact e.elim
    · omega
    · unfold Fo at e; omega
    · omega
  · have a1 : w2.heap.size = k := Option.some.inj e
    have a2 : w2.heap.size + 1 = k := Option.some.inj e2
    omega

end Go.Proofs.YtepgoppgblfjbaaGreatDoor
