import Derived.Test.YtepgoppgblfjbaaGreatDoorGw26
namespace Go.Proofs.YtepgoppgblfjbaaGreatDoor
open Go.RowKit

def BytesAt (w : World) (v : Value) (b : List UInt8) : Prop :=
  (v = .slice none 0 0 ∧ b = []) ∨ ∃ a c, v = .slice (some a) b.length c ∧ ∀ i x, (A8 b)[i]? = some x → w.cell? (a.add i) = some x

theorem BytesAt.kept {w w' : World} {v : Value} {b : List UInt8} (h : BytesAt w v b) (hk : Kx (fun _ => False) w w') : BytesAt w' v b := by
  rcases h with h | ⟨a, c, h1, h2⟩
  · exact .inl h
  · exact .inr ⟨a, c, h1, fun i x hx => (hk.cell (lt_of_cell (h2 i x hx)) id).trans (h2 i x hx)⟩

set_option maxRecDepth 100000 in
theorem conv_nil (w : World) : (convert 58 9 (.slice none 0 0)).run Tryz.prog w = .ok (.string ⟨#[]⟩) w := rfl

theorem BytesAt.conv {w : World} {v : Value} {b : List UInt8} (h : BytesAt w v b) : (convert 58 9 v).run Tryz.prog w = .ok (.string ⟨b.toArray⟩) w := by
  rcases h with ⟨rfl, rfl⟩ | ⟨a, c, rfl, h2⟩
  · exact conv_nil w
  · refine run_convert_bytes_back (P := Tryz.prog) w 58 9 5 a c b Tryz.underlying58 Tryz.underlying5 Tryz.underlying9 ?_
    intro j hj
    exact h2 j _ (by simp [A8, hj])

theorem BytesAt.of_own {w : World} {base n : Nat} {v : Value} {b : List UInt8} (h : w.ownsRow base 5 1 v n (A8 b)) (hn : n = b.length) : BytesAt w v b := by
  rcases h.2 with ⟨h1, h2⟩ | ⟨g, cap, cur, rfl, hb, hg, hc, hm, hs, ht⟩
  · exact .inl ⟨h1, List.length_eq_zero_iff.1 (by omega)⟩
  · refine .inr ⟨⟨g, 0, none⟩, cap, by rw [hn], fun i x hx => ?_⟩
    have hi := (List.getElem?_eq_some_iff.1 hx).1
    rw [A8_len] at hi
    rw [← ht, List.getElem?_take_of_lt (by omega)] at hx
    have hadd : (⟨g, 0, none⟩ : Addr).add i = ⟨g, i, none⟩ := by unfold Addr.add; split <;> simp_all
    rw [hadd]
    unfold World.cell?
    rw [hg]
    simpa using hx

theorem BytesAt.of_ownB {w : World} {base : Nat} {v : Value} {b : List UInt8} (h : OwnB w base 5 v (A8 b)) : BytesAt w v b := by
  rcases h with ⟨h1, h2⟩ | ⟨g, cap, cur, fz, rfl, hb, hg, hz, hc, hm, hs, ht⟩
  · refine .inl ⟨h1, ?_⟩
    cases b with
    | nil => rfl
    | cons x l => simp [A8] at h2
  · refine .inr ⟨⟨g, 0, none⟩, cap, by rw [A8_len], fun i x hx => ?_⟩
    have hi := (List.getElem?_eq_some_iff.1 hx).1
    rw [← ht, List.getElem?_take_of_lt hi] at hx
    have hadd : (⟨g, 0, none⟩ : Addr).add i = ⟨g, i, none⟩ := by unfold Addr.add; split <;> simp_all
    rw [hadd]
    unfold World.cell?
    rw [hg]
    simpa using hx

theorem number_ge {t : List UInt8} {lo hi N : Int} (h : Pu.number t lo hi = (N, true)) : lo ≤ N := by
  unfold Pu.number at h
  split at h
  · cases (Prod.mk.inj h).2
  · split at h
    · cases (Prod.mk.inj h).2
    · have := (Prod.mk.inj h).1
      omega

theorem cutE_short (t : List UInt8) (h : ¬ ((Pd.cutE t).1 = [] ∧ (Pd.cutE t).2.1 = [])) : (Pd.cutE t).2.2.1.length < t.length ∧ (1 ≤ (Pd.cutE t).1.length ∧ (Pd.cutE t).1.length ≤ 8000) ∧ (Pd.cutE t).2.1.length = 32 := by
  have hbl := (Pu.cut_lens t [10]).2
  obtain ⟨l, b, e, hc⟩ : ∃ l b e, Lib.cut t [10] = (l, b, e) := ⟨_, _, _, rfl⟩
  have hle := Pu.number_le l 1 8000 (by decide) (by decide)
  obtain ⟨N, ok, hN⟩ : ∃ N ok, Pu.number l 1 8000 = (N, ok) := ⟨_, _, rfl⟩
  rw [hc] at hbl
  rw [hN] at hle
  simp only at hbl hle
  rw [cutE_eq hc hN] at h ⊢
  split at h
  · exact absurd ⟨rfl, rfl⟩ h
  · rename_i h1
    split at h
    · exact absurd ⟨rfl, rfl⟩ h
    · rename_i h2
      rw [if_neg h1, if_neg h2]
      have h3 : ¬ (b.length : Int) < N + 32 := fun e => h2 (.inr e)
      have h4 : (1 : Int) ≤ N := by
        cases ok with
        | false => exact absurd rfl h1
        | true => exact number_ge hN
      simp only [List.length_drop, List.length_take]
      omega

theorem strsV_snoc (a : List (List UInt8)) (x : List UInt8) : strsV (a ++ [x]) = strsV a ++ [.string ⟨x.toArray⟩] := by simp [strsV]

def ReadR (base : Nat) (r : Option (List (List UInt8))) (e : Ending) (w' : World) : Prop :=
  match r with
  | none => e = .returned (.tuple #[.slice none 0 0, .int .i64 6])
  | some xs => ∃ v, e = .returned (.tuple #[v, .int .i64 0]) ∧ w'.ownsRow base 9 1 v xs.length (strsV xs)

def lenS : Value → Nat
  | .string s => s.size
  | _ => 0

theorem readJ_nil (KK : List Int) (f : Nat) (last : List UInt8) (acc : List (List UInt8)) : Pd.readJ KK f [] last acc = some acc := by
  cases f <;> rfl
theorem readJ_step (KK : List Int) (f : Nat) (t last : List UInt8) (acc : List (List UInt8)) (h : t ≠ []) : Pd.readJ KK (f + 1) t last acc =
    if (Pd.cutE t).2.2.2 = false then none else if (Pd.cutE t).1 = [] ∧ (Pd.cutE t).2.1 = [] then some acc else if (Pd.cutE t).2.1 ≠ Pd.sealOf KK last (Pd.cutE t).1 then none else Pd.readJ KK f (Pd.cutE t).2.2.1 (Pd.cutE t).2.1 (acc ++ [(Pd.cutE t).1]) := by
  conv => lhs; unfold Pd.readJ
  rw [if_neg h]

set_option maxHeartbeats 1600000 in
set_option maxRecDepth 100000 in
theorem jread_any (vb : Value) (b : List UInt8) (w : World) (hgl : Gl w) (hv : BytesAt w vb b) (hbl : b.length ≤ 2000000) :
    Calls Tryz.prog 61 #[vb] w fun e w' => ReadR w.heap.size (Pd.readJ Sh.K (b.length + 1) b [] []) e w' ∧ Kx (fun _ => False) w w' := by
  have hmx : maxLen = 9223372036854775807 := rfl
  obtain ⟨i9, hi9, hz0, hz1, hz2⟩ := info_parts info9
  have hnc := newConstants_any w
  obtain ⟨arr, harr⟩ : ∃ arr, A32 Sh.K = arr := ⟨_, rfl⟩
  rw [harr] at hnc
  have hsz : arr.size = 72 := by rw [← harr]; rfl
  have hi : (Tryz.prog.info? 176).map (·.size) = some arr.size := by rw [hsz]; kernel_rfl
  have hall : arr.all (·.oneCell') = true := by rw [← harr]; exact A32_all _
  have hzs : Tryz.zeroCells176.size = arr.size := by rw [hsz]; kernel_rfl
  have hseal := fun (W : World) (cb : Nat) (last s : List UInt8) (hW : Cb cb (A32 Sh.K) 176 W) => sealOf_any cb 176 last s W hW
  rw [harr] at hseal
  have HV : Hid (BytesAt w vb b) := hv
  clear harr hv
  go_enter Tryz.func61, Tryz.ntmps61
  go_wp2_with fail
  refine hnc.mono ?_
  rintro _ w1 ⟨rfl, hk1⟩
  have hB0 := Cb.new Tryz.zeroCells176 176 w1
  have hk2 := hk1.alloc (.cells Tryz.zeroCells176 176)
  have hk3 : Kx (fun _ => False) w ((w1.alloc (.cells Tryz.zeroCells176 176)).setRow w1.heap.size arr) := hk2.setRow (fun h => absurd h (by have := hk1.size; omega)) arr
  have hcb := hB0.row arr
  have hcv := (HV.out.kept hk3).conv
  clear hnc hk2
  go_wp2_with (first | refine wpList_storeAll _ rfl 176 _ _ rfl rfl rfl hB0 hi hzs hall ?_ | fail)
  clear hB0 hcv
  revert hk3 hcb
  generalize (w1.alloc (.cells Tryz.zeroCells176 176)).setRow w1.heap.size arr = w3
  generalize w1.heap.size = cb
  intro hk3 hcb
  have hgl3 := hgl.kept hk3 (fun _ _ => id)
  clear hk1 HV
  go_loopw [7, 6, 5] (fun rv lv sv wr => ∃ (f : Nat) (t last : List UInt8) (acc : List (List UInt8)), rv = .string ⟨t.toArray⟩ ∧ lv = .string ⟨last.toArray⟩ ∧ t.length < f ∧ Hid (Pd.readJ Sh.K (b.length + 1) b [] [] = Pd.readJ Sh.K f t last acc) ∧ t.length + acc.length ≤ 2000000 ∧ last.length ≤ 32 ∧ wr.ownsRow w3.heap.size 9 1 sv acc.length (strsV acc) ∧ Kx (fun _ => False) w3 wr) (fun rv _ _ _ => lenS rv)
  case atStart => exact ⟨b.length + 1, b, [], [], rfl, rfl, by omega, rfl, by simpa using hbl, by simp, World.ownsRow_nil _ _ _ _, Kx.refl _ _⟩
  case round =>
    obtain ⟨f, t, last, acc, rfl, rfl, hf, HE, hlen, hll, hown, hkr⟩ := hrel
    obtain ⟨av, cv, rfl⟩ := row_shape hown
    by_cases h0 : t = []
    · subst h0
      have HE2 : Hid (Pd.readJ Sh.K (b.length + 1) b [] [] = some acc) := by show _ = _; rw [HE.out, readJ_nil]
      have hk4 := hk3.trans hkr
      have hown4 := own_mono hown hk3.size
      go_wp2
      go_ret2
      rw [HE2.out]
      exact ⟨⟨_, rfl, hown4⟩, hk4⟩
    · have hne : (t == ([] : List UInt8)) = false := by simpa using h0
      obtain ⟨f', rfl⟩ : ∃ f', f = f' + 1 := ⟨f - 1, by omega⟩
      have hcut := cutEntry_any t wr (hgl3.kept hkr (fun _ _ => id)) (by omega)
      have HS := readJ_step Sh.K f' t last acc h0
      have hsh := cutE_short t
      generalize (Pd.cutE t).1 = st at *
      generalize (Pd.cutE t).2.1 = sl at *
      generalize (Pd.cutE t).2.2.1 = bh at *
      generalize (Pd.cutE t).2.2.2 = ok at *
      have HS2 : Hid (Pd.readJ Sh.K (b.length + 1) b [] [] = if ok = false then none else if st = [] ∧ sl = [] then some acc else if sl ≠ Pd.sealOf Sh.K last st then none else Pd.readJ Sh.K f' bh sl (acc ++ [st])) := HE.out.trans HS
      clear HS HE
      go_wp2_with fail
      refine hcut.mono ?_
      rintro _ w4 ⟨rfl, hk4⟩
      clear hcut
      have hk34 := hkr.trans hk4
      have hown4 := own_kept' hown hk4 (fun _ _ _ => id)
      cases ok with
      | false =>
        have HE2 : Hid (Pd.readJ Sh.K (b.length + 1) b [] [] = none) := by show _ = _; rw [HS2.out, if_pos rfl]
        have hk5 := (hk3.trans hk34).alloc (.cells #[.string ⟨st.toArray⟩, .string ⟨sl.toArray⟩] 191)
        go_wp2
        go_ret2
        rw [HE2.out]
        exact ⟨rfl, hk5⟩
      | true =>
        rw [if_neg (by decide)] at HS2
        by_cases hee : st = [] ∧ sl = []
        · have HE2 : Hid (Pd.readJ Sh.K (b.length + 1) b [] [] = some acc) := by show _ = _; rw [HS2.out, if_pos hee]
          obtain ⟨rfl, rfl⟩ := hee
          have hk5 := (hk3.trans hk34).alloc (.cells #[.string ⟨([] : List UInt8).toArray⟩, .string ⟨([] : List UInt8).toArray⟩] 191)
          have hown5 := (own_mono hown4 hk3.size).alloc (.cells #[.string ⟨([] : List UInt8).toArray⟩, .string ⟨([] : List UInt8).toArray⟩] 191)
          go_wp2
          go_ret2
          rw [HE2.out]
          exact ⟨⟨_, rfl, hown5⟩, hk5⟩
        · obtain ⟨hb1, ⟨hb2, hb3⟩, hb4⟩ := hsh hee
          have hst : (st == ([] : List UInt8)) = false := by cases st with | nil => simp at hb2 | cons a l => rfl
          have HS3 : Hid (Pd.readJ Sh.K (b.length + 1) b [] [] = if sl ≠ Pd.sealOf Sh.K last st then none else Pd.readJ Sh.K f' bh sl (acc ++ [st])) := by show _ = _; rw [HS2.out, if_neg hee]
          clear HS2 hsh
          have hbx := Cb.new #[.string ⟨st.toArray⟩, .string ⟨sl.toArray⟩] 191 w4
          have hk5 := hk34.alloc (.cells #[.string ⟨st.toArray⟩, .string ⟨sl.toArray⟩] 191)
          have hown5 := hown4.alloc (.cells #[.string ⟨st.toArray⟩, .string ⟨sl.toArray⟩] 191)
          go_wp2_with fail
          revert hbx hk5 hown5
          generalize w4.alloc (.cells #[.string ⟨st.toArray⟩, .string ⟨sl.toArray⟩] 191) = w5
          have hneb : ∀ y, (Value.slice av acc.length cv).ownBlock = some y → y ≠ w4.heap.size := fun y h e => absurd (hown4.lt y h).2 (by omega)
          revert hneb
          generalize w4.heap.size = eb
          intro hneb hbx hk5 hown5
          have hcb5 := hcb.kept hk5 id
          refine wp_region_quiet_tail (C := fun w' => Kx (fun _ => False) w5 w') 6 (by kernel_rfl) (by kernel_rfl) (Kx.refl _ _).drew ?_
          refine quiet_val rfl (.pointer (some ⟨eb, 1, none⟩)) (fun w' hC => by go_simp) ?_
          refine quiet_val rfl (.string ⟨sl.toArray⟩) (fun w' hC => by
            have hc0 : w'.cell? ⟨eb, 1, none⟩ = some (.string ⟨sl.toArray⟩) := Cb.cell (hbx.kept hC id) 1
            go_simp) ?_
          refine quiet_val rfl (.string ⟨last.toArray⟩) (fun w' hC => by go_simp) ?_
          refine quiet_val rfl (.pointer (some ⟨eb, 0, none⟩)) (fun w' hC => by go_simp) ?_
          refine quiet_val rfl (.string ⟨st.toArray⟩) (fun w' hC => by
            have hc0 : w'.cell? ⟨eb, 0, none⟩ = some (.string ⟨st.toArray⟩) := Cb.cell (hbx.kept hC id) 0
            go_simp) ?_
          refine quiet_enter rfl 84 #[.pointer (some ⟨cb, 0, none⟩), .string ⟨last.toArray⟩, .string ⟨st.toArray⟩] (.string ⟨(Sh.ofK Sh.K (last ++ st)).toArray⟩) (fun w' => by go_simp) (fun w' hC => (hseal w' cb last st (hcb5.kept hC id) (by omega)).mono (fun e w'' h => ⟨h.1, hC.trans h.2⟩)) ?_
          refine wpQuiet_nil (fun w6 hk56 => ?_)
          simp only [Act.put, sI, sS, sZ, List.drop_succ_cons, List.drop_zero]
          have hk36 := hk5.trans hk56
          have hbx6 := hbx.kept hk56 id
          have hown6 := own_kept' hown5 hk56 (fun _ _ _ => id)
          unfold Pd.sealOf at HS3
          generalize Sh.ofK Sh.K (last ++ st) = sea at *
          clear hbx hown5 hcb5
          by_cases hse : sl = sea
          · subst hse
            have HE2 : Hid (Pd.readJ Sh.K (b.length + 1) b [] [] = Pd.readJ Sh.K f' bh sl (acc ++ [st])) := by show _ = _; rw [HS3.out, if_neg (by simp)]
            have hebx : ∀ y, y = eb → ¬ (Value.slice av acc.length cv).ownBlock = some y := fun y e h => hneb y h e
            have c0 : w6.cell? ⟨eb, 0, none⟩ = some (.string ⟨st.toArray⟩) := Cb.cell hbx6 0
            have c1 : w6.cell? ⟨eb, 1, none⟩ = some (.string ⟨sl.toArray⟩) := Cb.cell hbx6 1
            go_wp2_with (at_builtin; refine wpList_append_own _ rfl (.tmp 34) (.tmp 37) 35 rfl w3.heap.size 9 i9 _ 1 16 Tryz.underlying35 hi9 hz0 hz1 hz2 rfl (by decide) _ _ (strsV acc) rfl (hown6.alloc _) ⟨w6.heap.size, 0, none⟩ 1 1 [.string ⟨st.toArray⟩] rfl rfl ?c1 ?c2 ?c3 ?c4 ?c5 ?_)
            case c1 => exact cells_new w6 [.string ⟨st.toArray⟩] 9
            case c2 => simp [Value.oneCell']
            all_goals try (first | omega | (unfold maxLen; omega) | (have := hk36.size; simp; omega))
            intro v7 w7 hown7 hgrow7 _
            have hk7 : Kx (fun _ => False) w3 w7 := (hk36.alloc _).grown hgrow7 (fun k he => (hown6.lt k he).1)
            have hk67 : Kx (fun k => (Value.slice av acc.length cv).ownBlock = some k) w6 w7 := ((Kx.refl _ _).alloc _).trans ((Kx.of_grown hgrow7).mono (fun k _ e => e.symm))
            have hc1' : w7.cell? ⟨eb, 1, none⟩ = some (.string ⟨sl.toArray⟩) := (hk67.cell (p := ⟨eb, 1, none⟩) (lt_of_cell (p := ⟨eb, 1, none⟩) c1) (hebx eb rfl)).trans c1
            have hown8 : w7.ownsRow w3.heap.size 9 1 v7 (acc ++ [st]).length (strsV (acc ++ [st])) := by
              rw [List.length_append, strsV_snoc]
              exact hown7
            clear hown7 hgrow7 c0 c1
            go_wp2_with fail
            go_quiet (fail)
            go_wp2
            go_roundw
            case rel => exact ⟨f', bh, sl, acc ++ [st], rfl, rfl, by omega, HE2, by rw [List.length_append, List.length_singleton]; omega, by omega, hown8, hk7.drewN _⟩
            case measure => simp [lenS, ByteArray.size]; omega
          · have hse2 : (sl == sea) = false := by simpa using hse
            have HE2 : Hid (Pd.readJ Sh.K (b.length + 1) b [] [] = none) := by show _ = _; rw [HS3.out, if_pos hse]
            have hk7 := hk3.trans hk36
            go_wp2
            go_ret2
            rw [HE2.out]
            exact ⟨rfl, hk7⟩

namespace Pd
def openS (KK : List Int) (b : List UInt8) : Option (St × List (List UInt8)) :=
  match readJ KK (b.length + 1) b [] [] with
  | none => none
  | some xs => (replay KK St.empty xs).map fun S => (S, xs)

theorem readJ_mem (KK : List Int) : ∀ (f : Nat) (t last : List UInt8) (acc xs : List (List UInt8)), readJ KK f t last acc = some xs → (∀ x ∈ acc, 1 ≤ x.length ∧ x.length ≤ 8000) → ∀ x ∈ xs, 1 ≤ x.length ∧ x.length ≤ 8000 := by
  intro f
  induction f with
  | zero => intro t last acc xs h ha; cases h; exact ha
  | succ f ih =>
    intro t last acc xs h ha
    by_cases h0 : t = []
    · subst h0
      rw [readJ_nil] at h
      cases h
      exact ha
    · rw [readJ_step KK f t last acc h0] at h
      split at h
      · cases h
      · split at h
        · cases h
          exact ha
        · rename_i h2
          split at h
          · cases h
          · refine ih _ _ _ _ h (fun x hx => ?_)
            rcases List.mem_append.1 hx with hx | hx
            · exact ha x hx
            · rw [List.mem_singleton.1 hx]
              exact (cutE_short t h2).2.1

theorem elen_le {x : List UInt8} (h : x.length ≤ 8000) : elen x ≤ 8037 := by
  unfold elen
  have := dec_len x.length h
  rw [Lib.itoa_nonneg]
  omega

theorem total_le : ∀ (xs : List (List UInt8)), (∀ x ∈ xs, x.length ≤ 8000) → total xs ≤ 8037 * xs.length
  | [], _ => Nat.le_refl _
  | x :: xs, h => by
    have h1 := total_le xs (fun y hy => h y (List.mem_cons_of_mem _ hy))
    have h2 := elen_le (h x (List.mem_cons_self ..))
    have e : total (x :: xs) = elen x + total xs := by simp [total]
    rw [e, List.length_cons]
    omega

theorem replay_take {KK : List Int} {xs : List (List UInt8)} {i : Nat} {S : St} (hi : i < xs.length) (h : replay KK St.empty (xs.take i) = some S) :
    ((imp KK S xs[i]).1.2 = 0 → replay KK St.empty (xs.take (i + 1)) = some (imp KK S xs[i]).2) ∧ (¬ (imp KK S xs[i]).1.2 = 0 → replay KK St.empty xs = none) := by
  refine ⟨fun h0 => ?_, fun h0 => ?_⟩
  · rw [List.take_succ_eq_append_getElem hi, replay_app KK _ _ _ _ h]
    unfold replay
    rw [if_pos h0]
    rfl
  · have e : xs = xs.take i ++ xs[i] :: xs.drop (i + 1) := by rw [← List.drop_eq_getElem_cons hi, List.take_append_drop]
    have h1 := replay_app KK (xs.take i) (xs[i] :: xs.drop (i + 1)) _ _ h
    rw [← e] at h1
    rw [h1]
    unfold replay
    rw [if_neg h0]
end Pd

def OpenOk (M : Nat → Prop) (w w' : World) (s : Nat) (S : St) (j : List UInt8) (n : Nat) : Prop :=
  ∃ M' X, Oj M' w' s S j n X ∧ (∀ k, M' k → M k ∨ w.heap.size ≤ k) ∧ (∀ k, M k → M' k) ∧ ∀ k, X k → w.heap.size ≤ k

def OpenR (M : Nat → Prop) (r : Option (St × List (List UInt8))) (w : World) (e : Ending) (w' : World) : Prop :=
  match r with
  | none => e = .returned (.tuple #[.pointer none, .int .i64 6])
  | some x => ∃ s, e = .returned (.tuple #[.pointer (some ⟨s, 0, none⟩), .int .i64 0]) ∧ OpenOk M w w' s x.1 (Pd.entries Sh.K [] x.2) (800000 * x.2.length)

set_option maxHeartbeats 1600000 in
set_option maxRecDepth 100000 in
theorem open_any (M : Nat → Prop) (vb : Value) (b : List UInt8) (w : World) (hM : ∀ k, M k → 7 ≤ k ∧ k < w.heap.size) (hgl : Gl w) (hv : BytesAt w vb b) (hbl : b.length ≤ 2000000) (h7 : 7 ≤ w.heap.size)
    (hfew : ∀ xs, Pd.readJ Sh.K (b.length + 1) b [] [] = some xs → xs.length ≤ 31000) :
    Calls Tryz.prog 38 #[vb] w fun e w' => OpenR M (Pd.openS Sh.K b) w e w' ∧ Kx (fun _ => False) w w' := by
  have hmx : maxLen = 9223372036854775807 := rfl
  have hread := jread_any vb b w hgl hv hbl
  cases hr : Pd.readJ Sh.K (b.length + 1) b [] [] with
  | none =>
    have HO : Hid (Pd.openS Sh.K b = none) := by show _ = _; unfold Pd.openS; rw [hr]
    rw [hr] at hread
    clear hv hgl hr hfew
    go_enter Tryz.func38, Tryz.ntmps38
    go_wp2_with fail
    refine hread.mono ?_
    rintro e w1 ⟨hR, hk1⟩
    obtain rfl : e = .returned (.tuple #[.slice none 0 0, .int .i64 6]) := hR
    clear hread
    go_wp2
    go_ret2
    rw [HO.out]
    exact ⟨rfl, hk1⟩
  | some xs =>
    have HO : Hid (Pd.openS Sh.K b = (Pd.replay Sh.K St.empty xs).map fun S => (S, xs)) := by show _ = _; unfold Pd.openS; rw [hr]
    have hx8 := Pd.readJ_mem Sh.K _ _ _ _ _ hr (fun x hx => by cases hx)
    have hxl := hfew xs hr
    rw [hr] at hread
    clear hv hr hfew
    go_enter Tryz.func38, Tryz.ntmps38
    go_wp2_with fail
    refine hread.mono ?_
    rintro e w1 ⟨hR, hk1⟩
    obtain ⟨v, rfl, hrow⟩ : ∃ v, e = .returned (.tuple #[v, .int .i64 0]) ∧ w1.ownsRow w.heap.size 9 1 v xs.length (strsV xs) := hR
    obtain ⟨av, cv, rfl⟩ := row_shape hrow
    have hM1 : ∀ k, M k → 7 ≤ k ∧ k < w1.heap.size := fun k e => ⟨(hM k e).1, Nat.lt_of_lt_of_le (hM k e).2 hk1.size⟩
    have h71 : 7 ≤ w1.heap.size := Nat.le_trans h7 hk1.size
    have hgl1 := hgl.kept hk1 (fun _ _ => id)
    clear hread hgl
    go_wp2_with fail
    refine (new_any M w1 hM1 h71).mono ?_
    rintro _ w2 ⟨s, h, o, c, r, t, rfl, hN⟩
    obtain ⟨hO2, hX2⟩ := Oj.start hN
    have hn2 := hN.new
    have hkN := hN.kx
    have hM2 : ∀ k, (M k ∨ k = s ∨ Fo o c r t k) → M k ∨ w1.heap.size ≤ k := fun k e => by
      rcases e with e | e | e
      · exact .inl e
      · right; omega
      · right; unfold Fo at e; omega
    have hMM2 : ∀ k, M k → (M k ∨ k = s ∨ Fo o c r t k) := fun k e => .inl e
    have hgl2 := hgl1.kept hkN (fun _ _ => id)
    have HI : Hid (∃ (S : St) (M' X : Nat → Prop), Pd.replay Sh.K St.empty (xs.take 0) = some S ∧ Oj M' w2 s S (Pd.entries Sh.K [] (xs.take 0)) (800000 * 0) X ∧ (∀ k, M' k → M k ∨ w1.heap.size ≤ k) ∧ (∀ k, M k → M' k) ∧ (∀ k, X k → w1.heap.size ≤ k) ∧ Gl w2 ∧ Kx (fun _ => False) w1 w2) :=
      ⟨St.empty, _, _, rfl, hO2, hM2, hMM2, hX2, hgl2, hkN⟩
    clear hN hO2 hX2 hn2 hkN hM2 hMM2 hgl2 hgl1 hM1 h71
    go_wp2_with fail
    go_loopw [22] (fun iv wr => ∃ i : Nat, iv = .int .i64 i ∧ i ≤ xs.length ∧ Hid (∃ (S : St) (M' X : Nat → Prop), Pd.replay Sh.K St.empty (xs.take i) = some S ∧ Oj M' wr s S (Pd.entries Sh.K [] (xs.take i)) (800000 * i) X ∧ (∀ k, M' k → M k ∨ w1.heap.size ≤ k) ∧ (∀ k, M k → M' k) ∧ (∀ k, X k → w1.heap.size ≤ k) ∧ Gl wr ∧ Kx (fun _ => False) w1 wr)) (fun iv _ => xs.length - (intOf iv).toNat)
    case atStart => exact ⟨0, rfl, by omega, HI⟩
    case round =>
      obtain ⟨i, rfl, hi, HJ⟩ := hrel
      obtain ⟨S, M', X, h1, h2, h3, h4, h5, h6, h8⟩ := HJ.out
      clear HJ HI
      by_cases hlt : i < xs.length
      · have hlt2 : (i : Int) < (xs.length : Int) := by omega
        obtain ⟨g, cap, he, hc0⟩ := row_cell (own_kept' hrow h8 (fun _ _ _ => id)) i hlt
        cases he
        have hjl : (Pd.entries Sh.K [] (xs.take i)).length ≤ 1000000000 := by
          rw [Pd.entries_len]
          have := Pd.total_le (xs.take i) (fun x hx => (hx8 x (List.mem_of_mem_take hx)).2)
          rw [List.length_take] at this
          omega
        have hxi := (hx8 xs[i] (List.getElem_mem hlt)).2
        have himp := h2.import h6 xs[i] (by omega) (by omega) hjl
        obtain ⟨r1, r2⟩ := Pd.replay_take hlt h1
        have hje : (Pd.imp Sh.K S xs[i]).1.2 = 0 → (if (Pd.imp Sh.K S xs[i]).1.2 = 0 then Pd.record Sh.K (Pd.entries Sh.K [] (xs.take i)) xs[i] else Pd.entries Sh.K [] (xs.take i)) = Pd.entries Sh.K [] (xs.take (i + 1)) := fun h0 => by
          rw [if_pos h0, Pd.record_entries, List.take_succ_eq_append_getElem hlt]
        have HJ : Hid ((Pd.imp Sh.K S xs[i]).1.2 = 0 → Pd.replay Sh.K St.empty (xs.take (i + 1)) = some (Pd.imp Sh.K S xs[i]).2 ∧ (if (Pd.imp Sh.K S xs[i]).1.2 = 0 then Pd.record Sh.K (Pd.entries Sh.K [] (xs.take i)) xs[i] else Pd.entries Sh.K [] (xs.take i)) = Pd.entries Sh.K [] (xs.take (i + 1))) := fun h0 => ⟨r1 h0, hje h0⟩
        have HN : Hid (¬ (Pd.imp Sh.K S xs[i]).1.2 = 0 → Pd.replay Sh.K St.empty xs = none) := r2
        clear r1 r2 hje h1
        generalize hq : (if (Pd.imp Sh.K S xs[i]).1.2 = 0 then Pd.record Sh.K (Pd.entries Sh.K [] (xs.take i)) xs[i] else Pd.entries Sh.K [] (xs.take i)) = j2 at *
        clear hq
        generalize (Pd.imp Sh.K S xs[i]).2 = S2 at *
        generalize (Pd.imp Sh.K S xs[i]).1.1 = n1 at *
        generalize (Pd.imp Sh.K S xs[i]).1.2 = e1 at *
        go_wp2_with fail
        refine himp.mono ?_
        rintro _ w3 ⟨rfl, M3, X3, g1, g2, g3, g4, g5⟩
        clear himp hc0
        have hk3 : Kx (fun _ => False) w1 w3 := h8.join g5 (fun k hk e => absurd (h5 k e) (by omega))
        by_cases he0 : e1 = 0
        · subst he0
          obtain ⟨q1, rfl⟩ := HJ.out rfl
          have hgl3 := h6.kept g5 (fun k hk e => by have := (h2.low k (h2.inM k e)).1; omega)
          have HJ3 : Hid (∃ (S : St) (M' X : Nat → Prop), Pd.replay Sh.K St.empty (xs.take (i + 1)) = some S ∧ Oj M' w3 s S (Pd.entries Sh.K [] (xs.take (i + 1))) (800000 * (i + 1)) X ∧ (∀ k, M' k → M k ∨ w1.heap.size ≤ k) ∧ (∀ k, M k → M' k) ∧ (∀ k, X k → w1.heap.size ≤ k) ∧ Gl w3 ∧ Kx (fun _ => False) w1 w3) :=
            ⟨S2, M3, X3, q1, g1.more (by omega), fun k e => (g2 k e).elim (h3 k) (fun e => .inr (Nat.le_trans h8.size e)), fun k e => g3 k (h4 k e), fun k e => (g4 k e).elim (h5 k) (fun e => Nat.le_trans h8.size e), hgl3, hk3⟩
          clear g1 g2 g3 g4 g5 h2 h3 h4 h5 h6 h8 hk3 q1 HJ HN hgl3
          go_wp2
          go_roundw
          case rel => exact ⟨i + 1, by go_num, hlt, HJ3⟩
          case measure => simp [intOf]; omega
        · have he2 : (e1 == 0) = false := by simpa using he0
          have HN2 : Hid (Pd.openS Sh.K b = none) := by show _ = _; rw [HO.out, HN.out he0]; rfl
          have hkF := hk1.trans hk3
          clear g1 g2 g3 g4 g5 h2 h3 h4 h5 h6 h8 hk3 HJ HN
          go_wp2
          go_ret2
          rw [HN2.out]
          exact ⟨rfl, hkF⟩
      · obtain rfl : i = xs.length := by omega
        have hlt2 : ¬ (xs.length : Int) < (xs.length : Int) := by omega
        rw [List.take_of_length_le (Nat.le_refl _)] at h1 h2
        have HN2 : Hid (Pd.openS Sh.K b = some (S, xs)) := by show _ = _; rw [HO.out, h1]; rfl
        have hkF := hk1.trans h8
        have HF : Hid (OpenOk M w wr s S (Pd.entries Sh.K [] xs) (800000 * xs.length)) := ⟨M', X, h2, fun k e => (h3 k e).imp id (fun e => Nat.le_trans hk1.size e), h4, fun k e => Nat.le_trans hk1.size (h5 k e)⟩
        clear h1 h2 h3 h4 h5 h6 h8
        go_wp2
        go_ret2
        rw [HN2.out]
        exact ⟨⟨s, rfl, HF.out⟩, hkF⟩

end Go.Proofs.YtepgoppgblfjbaaGreatDoor
namespace Go.Proofs.YtepgoppgblfjbaaGreatDoor

namespace Pd

theorem cut_nil10 : (Lib.cut [] [10]).2.2 = false := by decide
theorem cut_end (t : List UInt8) (h : (Lib.cut t [10]).2.2 = true) : (Lib.cut t [10]).2.1.length + 1 ≤ t.length := by
  cases t with
  | nil => rw [cut_nil10] at h; cases h
  | cons c r =>
    unfold Lib.cut at h ⊢
    split at h
    · rename_i h1
      rw [if_pos h1]
      simp only [List.length_drop, List.length_cons, List.length_nil]
      omega
    · cases h

theorem cutE_len (t : List UInt8) (h : ¬ ((cutE t).1 = [] ∧ (cutE t).2.1 = [])) : (cutE t).1.length + 33 + (cutE t).2.2.1.length ≤ t.length := by
  have hend := cut_end t
  obtain ⟨l, b, e, hc⟩ : ∃ l b e, Lib.cut t [10] = (l, b, e) := ⟨_, _, _, rfl⟩
  obtain ⟨N, ok, hN⟩ : ∃ N ok, Pu.number l 1 8000 = (N, ok) := ⟨_, _, rfl⟩
  rw [hc] at hend
  simp only at hend
  rw [cutE_eq hc hN] at h ⊢
  split at h
  · exact absurd ⟨rfl, rfl⟩ h
  · rename_i h1
    split at h
    · exact absurd ⟨rfl, rfl⟩ h
    · rename_i h2
      rw [if_neg h1, if_neg h2]
      have h3 : ¬ (b.length : Int) < N + 32 := fun e => h2 (.inr e)
      have h4 : (1 : Int) ≤ N := by
        cases ok with
        | false => exact absurd rfl h1
        | true => exact number_ge hN
      have h5 : e = true := by
        cases e with
        | true => rfl
        | false => exact absurd (.inl rfl) h2
      have h6 := hend h5
      simp only [List.length_drop, List.length_take]
      omega

theorem total_snoc (xs : List (List UInt8)) (x : List UInt8) : total (xs ++ [x]) = total xs + elen x := by simp [total]

theorem readJ_total (KK : List Int) : ∀ (f : Nat) (t last : List UInt8) (acc xs : List (List UInt8)), readJ KK f t last acc = some xs → total xs + 4 * acc.length ≤ t.length + total acc + 4 * xs.length ∧ 34 * xs.length ≤ t.length + 34 * acc.length := by
  intro f
  induction f with
  | zero => intro t last acc xs h; cases h; omega
  | succ f ih =>
    intro t last acc xs h
    by_cases h0 : t = []
    · subst h0
      rw [readJ_nil] at h
      cases h
      omega
    · rw [readJ_step KK f t last acc h0] at h
      split at h
      · cases h
      · split at h
        · cases h
          omega
        · rename_i h2
          split at h
          · cases h
          · obtain ⟨i1, i2⟩ := ih _ _ _ _ h
            have h3 := cutE_len t h2
            have h4 := (cutE_short t h2).2.1
            have h5 : elen (cutE t).1 ≤ (cutE t).1.length + 37 := by
              unfold elen
              have := dec_len (cutE t).1.length h4.2
              rw [Lib.itoa_nonneg]
              omega
            rw [total_snoc, List.length_append, List.length_singleton] at i1
            rw [List.length_append, List.length_singleton] at i2
            omega

theorem openS_some {KK : List Int} {b : List UInt8} {S : St} {xs : List (List UInt8)} (h : openS KK b = some (S, xs)) : readJ KK (b.length + 1) b [] [] = some xs ∧ replay KK St.empty xs = some S := by
  unfold openS at h
  split at h
  · cases h
  · rename_i ys hy
    cases hr : replay KK St.empty ys with
    | none => rw [hr] at h; cases h
    | some T =>
      rw [hr] at h
      cases h
      exact ⟨hy, hr⟩

theorem whole_all (xs : List (List UInt8)) : whole (total xs) xs = xs := by
  have h := whole_app xs [] (total xs) (Nat.le_refl _)
  rw [List.append_nil] at h
  rw [h]
  simp [whole]

theorem open_again {KK : List Int} {b : List UInt8} {S : St} {xs : List (List UInt8)} (h : openS KK b = some (S, xs)) : readJ KK ((entries KK [] xs).length + 1) (entries KK [] xs) [] [] = some xs ∧ openS KK (entries KK [] xs) = some (S, xs) := by
  obtain ⟨h1, h2⟩ := openS_some h
  have h3 := readJ_mem KK _ _ _ _ _ h1 (fun x hx => by cases hx)
  have h4 := readJ_take KK xs [] (total xs) [] ((entries KK [] xs).length + 1) h3 (by rw [List.length_take]; omega)
  rw [List.take_of_length_le (by rw [entries_len]; exact Nat.le_refl _), List.nil_append, whole_all] at h4
  refine ⟨h4, ?_⟩
  unfold openS
  rw [h4]
  show (replay KK St.empty xs).map _ = _
  rw [h2]
  rfl

theorem replay_k {KK : List Int} : ∀ (xs : List (List UInt8)) {S T : St}, StK S → replay KK S xs = some T → StK T
  | [], S, T, h, hr => by
    cases hr
    exact h
  | x :: xs, S, T, h, hr => by
    unfold replay at hr
    split at hr
    · exact replay_k xs (imp_k x h) hr
    · cases hr

theorem open_k {KK : List Int} {b : List UInt8} {S : St} {xs : List (List UInt8)} (h : openS KK b = some (S, xs)) : StK S := replay_k xs StK.empty (openS_some h).2

theorem open_few {KK : List Int} {b : List UInt8} (hb : b.length ≤ 1048576) : ∀ xs, readJ KK (b.length + 1) b [] [] = some xs → xs.length ≤ 31000 ∧ (entries KK [] xs).length ≤ 1200000 := fun xs h => by
  obtain ⟨h1, h2⟩ := readJ_total KK _ _ _ _ _ h
  rw [entries_len]
  simp only [List.length_nil, total, List.map_nil, List.sum_nil] at h1 h2
  show _ ∧ (xs.map elen).sum ≤ _
  omega
end Pd

end Go.Proofs.YtepgoppgblfjbaaGreatDoor
namespace Go.Proofs.YtepgoppgblfjbaaGreatDoor
open Go.RowKit

structure Bx (b : Nat) (l : List UInt8) (g : Option Nat) (w : World) : Prop where
  at' : ∃ p v, w.heap[b]? = some (.cells #[p, v] 248 (0, 0)) ∧ (p = .pointer none ∨ p = .pointer (some ⟨b, 0, none⟩)) ∧ OwnB w 0 5 v (A8 l) ∧ v.ownBlock = g ∧ (l = [] → v = .slice none 0 0)
  ne : g ≠ some b

theorem lies355w : liesAt Tryz.prog Tryz.prog.depth 248 (2 / Tryz.prog.cellsOf 248) 0 246 1 = true := by kernel_rfl

set_option maxHeartbeats 400000 in
set_option maxRecDepth 100000 in
theorem copyCheck_freshW (b : Nat) (w : World) (h0 : w.cell? ⟨b, 0, none⟩ = some (.pointer none)) (hsh : w.shape? b = some (248, 2)) (hfz : w.frozen? ⟨b, 0, none⟩ = false) :
    Calls Tryz.prog 272 #[.pointer (some ⟨b, 0, none⟩)] w fun e w' => e = .returned (.tuple #[]) ∧ w' = w.setCell ⟨b, 0, none⟩ (.pointer (some ⟨b, 0, none⟩)) := by
  obtain ⟨j, hj, hjs⟩ := info355
  go_enter Tryz.func272, Tryz.ntmps272
  go_wp2
  rw [Lib.run_to_unsafe w ⟨b, 0, none⟩ Tryz.underlying244 Tryz.underlying408 hj (by rw [hjs]; decide) hsh (Nat.zero_lt_succ 1)]
  simp only [Result.andThen]
  rw [Oper.upon_value]
  go_wp2
  rw [run_callFunc_extern Tryz.func324 (by kernel_rfl) (by kernel_rfl) (by kernel_rfl) (e := Extern.AbiNoEscape.same) (by kernel_rfl)]
  rw [Lib.run_noEscape]
  simp only [Result.andThen]
  rw [Oper.upon_value]
  go_wp2
  rw [Lib.run_from_unsafe w ⟨b, 0, none⟩ Tryz.underlying408 Tryz.underlying244 hj hsh lies355w]
  simp only [Result.andThen]
  rw [Oper.upon_value]
  go_wp2
  go_end0
  exact ⟨rfl, rfl⟩

theorem copyCheck_anyW (b : Nat) (l : List UInt8) (g : Option Nat) (w : World) (h : Bx b l g w) :
    Calls Tryz.prog 272 #[.pointer (some ⟨b, 0, none⟩)] w fun e w' => e = .returned (.tuple #[]) ∧ Kx (Only b) w w' ∧ ∃ v, w'.heap[b]? = some (.cells #[.pointer (some ⟨b, 0, none⟩), v] 248 (0, 0)) ∧ OwnB w' 0 5 v (A8 l) ∧ v.ownBlock = g ∧ (l = [] → v = .slice none 0 0) := by
  obtain ⟨⟨p, v, hb, hp, hown, hg, hl⟩, hne⟩ := h
  have hcb : Cb b #[p, v] 248 w := hb
  have hc0 : w.cell? ⟨b, 0, none⟩ = some p := hcb.cell 0
  rcases hp with rfl | rfl
  · refine (copyCheck_freshW b w hc0 (by simp [World.shape?, hb]) (hcb.frozen 0)).mono ?_
    rintro e w' ⟨rfl, rfl⟩
    refine ⟨rfl, (Kx.refl _ _).only_set _, v, hcb.set 0 _, hown.kept ((Kx.refl (Only b) w).only_set _) (fun k _ hk => ?_), hg, hl⟩
    intro e
    unfold Only at e
    subst e
    exact hne (by rw [← hg]; exact hk)
  · refine (copyCheck_used b w hc0).mono ?_
    rintro e w' ⟨rfl, rfl⟩
    exact ⟨rfl, Kx.refl _ _, v, hb, hown, hg, hl⟩

theorem Bx.put {b : Nat} {l s : List UInt8} {g : Option Nat} {v v' : Value} {w0 w w' : World} (hk0 : Kx (Only b) w0 w) (hb : w.heap[b]? = some (.cells #[.pointer (some ⟨b, 0, none⟩), v] 248 (0, 0))) (hg : v.ownBlock = g) (hne : g ≠ some b)
    (hown : OwnB w' 0 5 v' (A8 (l ++ s))) (hs : 0 < s.length) (hgr : w.grownBy w' v.ownBlock) (hor : v'.ownBlock = v.ownBlock ∨ v'.ownBlock = some w.heap.size) :
    ∃ g', Bx b (l ++ s) g' (w'.setCell ⟨b, 1, none⟩ v') ∧ (g' = g ∨ ∃ k, g' = some k ∧ w0.heap.size ≤ k) ∧ Kx (BdX b g) w0 (w'.setCell ⟨b, 1, none⟩ v') := by
  have hlt : b < w.heap.size := (Array.getElem?_eq_some_iff.1 hb).1
  have hb2 : Cb b #[.pointer (some ⟨b, 0, none⟩), v] 248 w' := by
    show w'.heap[b]? = _
    rw [hgr.block b hlt (fun e => hne (by rw [← hg, ← e]))]
    exact hb
  have hne' : v'.ownBlock ≠ some b := by
    rcases hor with h | h
    · rw [h, hg]; exact hne
    · rw [h]; intro e; have := Option.some.inj e; omega
  refine ⟨v'.ownBlock, ⟨⟨_, v', hb2.set 1 v', .inr rfl, hown.kept ((Kx.refl (Only b) w').only_set v') (fun k _ hk e => ?_), rfl, fun e => ?_⟩, hne'⟩, ?_, ?_⟩
  · unfold Only at e; subst e; exact hne' hk
  · have : (l ++ s).length = 0 := by rw [e]; rfl
    rw [List.length_append] at this; omega
  · rcases hor with h | h
    · exact .inl (h.trans hg)
    · exact .inr ⟨_, h, hk0.size⟩
  · have h1 : Kx (BdX b g) w0 w := hk0.mono (fun k _ e => .inl e)
    have h2 : Kx (BdX b g) w0 w' := h1.join (Y := fun k => some k = g) ⟨hgr.os, hgr.tape, hgr.output, hgr.size, fun k hk hx => hgr.block k hk (fun e => hx (by rw [e, hg]))⟩ (fun _ _ e => .inr e)
    exact h2.setCell (p := ⟨b, 1, none⟩) (fun _ => .inl rfl) _

set_option maxHeartbeats 800000 in
set_option maxRecDepth 100000 in
theorem writeString_anyW (b : Nat) (l s : List UInt8) (g : Option Nat) (w : World) (h : Bx b l g w) (hs : 0 < s.length) (hlen : l.length + s.length ≤ 1000000) :
    Calls Tryz.prog 192 #[.pointer (some ⟨b, 0, none⟩), .string ⟨s.toArray⟩] w fun e w' => e = .returned (.tuple #[.int .i64 s.length, .nilIface]) ∧
      ∃ g', Bx b (l ++ s) g' w' ∧ (g' = g ∨ ∃ k, g' = some k ∧ w.heap.size ≤ k) ∧ Kx (BdX b g) w w' := by
  obtain ⟨i0, hi, hz0, hz1, hz2⟩ := info_parts info5
  have hne := h.ne
  go_enter Tryz.func192, Tryz.ntmps192
  go_wp2_with fail
  refine (copyCheck_anyW b l g _ h).mono ?_
  rintro e w1 ⟨rfl, hk1, v, hb1, hown1, rfl, _⟩
  have hcb : Cb b #[.pointer (some ⟨b, 0, none⟩), v] 248 w1 := hb1
  have c1 : w1.cell? ⟨b, 1, none⟩ = some v := hcb.cell 1
  go_wp2_with (at_builtin; refine wpList_append_Bs _ rfl _ _ 58 9 rfl 0 5 i0 Tryz.underlying58 Tryz.underlying9 hi hz0 hz1 hz2 _ _ rfl hown1 s rfl hs ?c3 ?c4 ?c5 ?_)
  case c3 => rw [A8_len]; unfold maxLen; omega
  case c4 => rw [A8_len]; omega
  case c5 => omega
  intro v' w2 hown2 hgr hor
  have hown2' : OwnB w2 0 5 v' (A8 (l ++ s)) := by rw [A8_app]; exact hown2
  obtain ⟨g', hbd, hor', hkx⟩ := Bx.put hk1 hb1 rfl hne hown2' hs hgr hor
  have hlt : b < w1.heap.size := (Array.getElem?_eq_some_iff.1 hb1).1
  have hb2 : Cb b #[.pointer (some ⟨b, 0, none⟩), v] 248 w2 := by
    show w2.heap[b]? = _
    rw [hgr.block b hlt (fun e => hne e.symm)]
    exact hb1
  have d1 : w2.cell? ⟨b, 1, none⟩ = some v := hb2.cell 1
  have f1 : w2.frozen? ⟨b, 1, none⟩ = false := hb2.frozen 1
  obtain ⟨ao, cap, hv'⟩ := hown2'.slice
  subst hv'
  go_wp2
  go_ret2
  exact ⟨rfl, g', hbd, hor', hkx⟩

set_option maxHeartbeats 800000 in
set_option maxRecDepth 100000 in
theorem string_anyW (b : Nat) (l : List UInt8) (g : Option Nat) (w : World) (h : Bx b l g w) :
    Calls Tryz.prog 146 #[.pointer (some ⟨b, 0, none⟩)] w fun e w' => e = .returned (.string ⟨l.toArray⟩) ∧ Kx (BdX b g) w w' := by
  obtain ⟨⟨p, v, hb, hp, hown, hg, hl⟩, hne⟩ := h
  have hcb : Cb b #[p, v] 248 w.drew := hb
  have c1 : w.drew.cell? ⟨b, 1, none⟩ = some v := hcb.cell 1
  rcases hown with ⟨rfl, hnil⟩ | ⟨r, cap, cur, fz, rfl, hbg, hgr, hfz, hnc, hcm, hcs, htake⟩
  · have hl0 : l = [] := by
      cases l with
      | nil => rfl
      | cons x t => simp [A8] at hnil
    subst hl0
    have hSD : (Builtin.unsafeSliceData_ #[58] 277 #[.slice none 0 0]).run Tryz.prog w.drew = .ok (.pointer none) w.drew := Lib.run_unsafeSliceData_nil _ _ _ _ _
    have hUS : (Builtin.unsafeString_ #[277, 3] 9 #[.pointer none, .int .i64 0]).run Tryz.prog w.drew = .ok (.string .empty) w.drew := Lib.run_unsafeString_none _ _ _ _ _
    go_enter Tryz.func146, Tryz.ntmps146
    go_wp2
    go_region
    go_wp2
    go_ret
    exact ⟨rfl, (Kx.refl _ _).drew⟩
  · have hl0 : l ≠ [] := fun e => by
      have := hl e
      cases this
    have hlen : (A8 l).length = l.length := A8_len l
    rw [hlen] at hnc htake c1
    have hpos : 0 < l.length := List.length_pos_iff.2 hl0
    have hSD : (Builtin.unsafeSliceData_ #[58] 277 #[.slice (some ⟨r, 0, none⟩) l.length cap]).run Tryz.prog w.drew = .ok (.pointer (some ⟨r, 0, none⟩)) w.drew :=
      Lib.run_unsafeSliceData_row _ _ _ _ _ _ (by omega)
    have hUS : (Builtin.unsafeString_ #[277, 3] 9 #[.pointer (some ⟨r, 0, none⟩), .int .i64 l.length]).run Tryz.prog w.drew = .ok (.string ⟨l.toArray⟩) (w.drew.freeze ⟨r, 0, none⟩ l.length) := by
      refine Lib.run_unsafeString_row w.drew 277 3 9 5 Tryz.underlying277 (by kernel_rfl) r cur.size (by have hg' : w.drew.heap[r]? = some (.cells cur 5 fz) := hgr; simp [World.shape?, hg']) l hl0 (by omega) (by unfold maxLen at hcm; omega) ?_
      intro j x hx
      have hj : j < l.length := (List.getElem?_eq_some_iff.1 hx).1
      have hadd : (⟨r, 0, none⟩ : Addr).add j = ⟨r, j, none⟩ := by unfold Addr.add; split <;> simp_all
      have h2 : (A8 l)[j]? = some (.int .u8 (x.toNat : Int)) := by simp [A8, hx]
      rw [← htake, List.getElem?_take_of_lt hj] at h2
      rw [hadd]
      have hg' : w.drew.heap[r]? = some (.cells cur 5 fz) := hgr
      unfold World.cell?
      rw [hg']
      simpa using h2
    have hgX : BdX b g r := .inr (by rw [← hg]; rfl)
    clear hfz hnc hcm hcs htake hl hlen
    go_enter Tryz.func146, Tryz.ntmps146
    go_wp2
    go_region
    all_goals (go_wp2; go_ret; exact ⟨rfl, (Kx.refl _ _).drew.freeze (p := ⟨r, 0, none⟩) hgX _⟩)

structure Wd (b n : Nat) (g : Option Nat) (w : World) : Prop where
  ex : ∃ l, Bx b l g w ∧ l.length ≤ n
  hb : 7 ≤ b
  hg : ∀ k, g = some k → 7 ≤ k

def WdR (b n : Nat) (g : Option Nat) (w w' : World) : Prop := ∃ g', Wd b n g' w' ∧ (g' = g ∨ ∃ k, g' = some k ∧ w.heap.size ≤ k) ∧ Kx (BdX b g) w w'

theorem Bx.kept {b : Nat} {l : List UInt8} {g : Option Nat} {X : Nat → Prop} {w w' : World} (h : Bx b l g w) (hk : Kx X w w') (hb : ¬ X b) (hg : ∀ k, g = some k → ¬ X k) : Bx b l g w' := by
  obtain ⟨⟨p, v, h1, h2, h3, h4, h5⟩, hne⟩ := h
  have hlt : b < w.heap.size := (Array.getElem?_eq_some_iff.1 h1).1
  exact ⟨⟨p, v, by rw [hk.block b hlt hb]; exact h1, h2, h3.kept hk (fun k _ e => hg k (by rw [← h4]; exact e)), h4, h5⟩, hne⟩

section
variable {b n : Nat} {g : Option Nat} {w w' w1 w2 : World}

theorem Wd.lt (h : Wd b n g w) : b < w.heap.size := by
  obtain ⟨l, ⟨⟨p, v, h1, _⟩, _⟩, _⟩ := h.ex
  exact (Array.getElem?_eq_some_iff.1 h1).1
theorem Wd.glt (h : Wd b n g w) : ∀ k, g = some k → k < w.heap.size := by
  obtain ⟨l, ⟨⟨p, v, h1, h2, h3, h4, h5⟩, _⟩, _⟩ := h.ex
  intro k e
  rw [← h4] at e
  exact (h3.lt k e).2
theorem Wd.kept {X : Nat → Prop} (h : Wd b n g w) (hk : Kx X w w') (hb : ¬ X b) (hg : ∀ k, g = some k → ¬ X k) : Wd b n g w' := by
  obtain ⟨l, h1, h2⟩ := h.ex
  exact ⟨⟨l, h1.kept hk hb hg, h2⟩, h.hb, h.hg⟩
theorem Wd.same (h : Wd b n g w) (hk : Kx (fun _ => False) w w') : Wd b n g w' := h.kept hk id (fun _ _ => id)
theorem Wd.more {n' : Nat} (h : Wd b n g w) (hn : n ≤ n') : Wd b n' g w := by
  obtain ⟨l, h1, h2⟩ := h.ex
  exact ⟨⟨l, h1, Nat.le_trans h2 hn⟩, h.hb, h.hg⟩
theorem WdR.more {n' : Nat} (h : WdR b n g w w') (hn : n ≤ n') : WdR b n' g w w' := by
  obtain ⟨g', h1, h2, h3⟩ := h
  exact ⟨g', h1.more hn, h2, h3⟩
theorem WdR.refl (h : Wd b n g w) : WdR b n g w w := ⟨g, h, .inl rfl, Kx.refl _ _⟩
theorem WdR.after {g1 : Option Nat} (h : Wd b n g w) (hk : Kx (fun _ => False) w w1) (hg : g1 = g) {n' : Nat} (h2 : WdR b n' g1 w1 w2) : WdR b n' g w w2 := by
  subst hg
  obtain ⟨g', a1, a2, a3⟩ := h2
  refine ⟨g', a1, a2.imp id (fun ⟨k, e, hl⟩ => ⟨k, e, Nat.le_trans hk.size hl⟩), (hk.mono (fun _ _ e => e.elim)).trans a3⟩
theorem WdR.trans {n' : Nat} {g1 : Option Nat} (a2 : g1 = g ∨ ∃ k, g1 = some k ∧ w.heap.size ≤ k) (a3 : Kx (BdX b g) w w1) (h2 : WdR b n' g1 w1 w2) : WdR b n' g w w2 := by
  obtain ⟨g2, b1, b2, b3⟩ := h2
  refine ⟨g2, b1, ?_, a3.join b3 (fun k hk e => ?_)⟩
  · rcases b2 with rfl | ⟨k, e, hl⟩
    · exact a2
    · exact .inr ⟨k, e, Nat.le_trans a3.size hl⟩
  · rcases e with e | e
    · exact .inl e
    · rcases a2 with rfl | ⟨k', e', hl⟩
      · exact .inr e
      · rw [e'] at e
        cases e
        omega
end

theorem wline_any (b n : Nat) (t : List UInt8) (g : Option Nat) (w : World) (h : Wd b n g w) (hl : n + t.length + 1 ≤ 1000000) :
    Calls Tryz.prog 145 #[.pointer (some ⟨b, 0, none⟩), .string ⟨t.toArray⟩] w fun e w' => e = .returned (.tuple #[]) ∧ WdR b (n + t.length + 1) g w w' := by
  obtain ⟨l, hB, hln⟩ := h.ex
  have hmx : maxLen = 9223372036854775807 := rfl
  have happ := app_str
  have hwr := writeString_anyW b l (t ++ [10]) g w hB (by simp) (by simp; omega)
  go_enter Tryz.func145, Tryz.ntmps145
  go_wp2_with fail
  refine hwr.mono ?_
  rintro _ w1 ⟨rfl, g', h1, h2, h3⟩
  clear hwr
  go_wp2
  go_end0
  refine ⟨rfl, g', ⟨⟨_, h1, by simp only [List.length_append, List.length_cons, List.length_nil]; omega⟩, h.hb, fun k e => ?_⟩, h2, h3⟩
  rcases h2 with rfl | ⟨k', e', hl'⟩
  · exact h.hg k e
  · rw [e'] at e
    cases e
    have := h.hb
    have := h.lt
    omega

def mkT (m : Nat) : List UInt8 := 58 :: Lib.itoa (m : Int)
theorem mkT_len (m : Nat) (hm : m ≤ 1000000) : (mkT m).length ≤ 22 := by
  have hl := Lib.itoa_length_le (m : Int) (by omega) (by omega)
  unfold mkT
  rw [List.length_cons]
  omega

theorem markText_any (m : Nat) (hm : m ≤ 1000000) (w : World) (hgl : Gl w) :
    Calls Tryz.prog 291 #[.int .i64 (m : Int)] w fun e w' => e = .returned (.string ⟨(mkT m).toArray⟩) ∧ Kx (fun _ => False) w w' := by
  have happ := app_str
  have hmx : maxLen = 9223372036854775807 := rfl
  have hl := Lib.itoa_length_le (m : Int) (by omega) (by omega)
  have hit := itoa_any m hm w hgl
  unfold mkT
  generalize Lib.itoa (m : Int) = it at *
  go_enter Tryz.func291, Tryz.ntmps291
  go_wp2_with fail
  refine hit.mono ?_
  rintro _ w1 ⟨rfl, hk1⟩
  clear hit
  go_wp2
  go_ret
  exact ⟨by simp, hk1⟩

theorem wmark_any (b n m : Nat) (g : Option Nat) (w : World) (h : Wd b n g w) (hgl : Gl w) (hm : m ≤ 1000000) (hl : n + 28 ≤ 1000000) :
    Calls Tryz.prog 220 #[.pointer (some ⟨b, 0, none⟩), .int .i64 (m : Int)] w fun e w' => e = .returned (.tuple #[]) ∧ WdR b (n + 28) g w w' := by
  have hmx : maxLen = 9223372036854775807 := rfl
  have happ := app_str
  go_enter Tryz.func220, Tryz.ntmps220
  go_wp2_with fail
  have hmt := markText_any m hm w hgl
  have ht := mkT_len m hm
  generalize mkT m = t at *
  refine hmt.mono ?_
  rintro _ w1 ⟨rfl, hk1⟩
  clear hmt
  have hline := wline_any b n (109 :: 97 :: 114 :: 107 :: 32 :: t) g w1 (h.same hk1) (by simp only [List.length_cons]; omega)
  go_wp2_with fail
  refine hline.mono ?_
  rintro _ w2 ⟨rfl, hR⟩
  clear hline
  go_wp2
  go_end0
  exact ⟨rfl, (WdR.after h hk1 rfl hR).more (by simp only [List.length_cons]; omega)⟩

theorem wdata_any (b n : Nat) (d : List UInt8) (g : Option Nat) (w : World) (h : Wd b n g w) (hgl : Gl w) (hl : n + d.length + 30 ≤ 1000000) :
    Calls Tryz.prog 221 #[.pointer (some ⟨b, 0, none⟩), .string ⟨d.toArray⟩] w fun e w' => e = .returned (.tuple #[]) ∧ WdR b (n + d.length + 30) g w w' := by
  have hmx : maxLen = 9223372036854775807 := rfl
  have happ := app_str
  have hil := Lib.itoa_length_le (d.length : Int) (by omega) (by omega)
  have hit := itoa_any d.length (by omega) w hgl
  generalize Lib.itoa (d.length : Int) = it at *
  go_enter Tryz.func221, Tryz.ntmps221
  go_wp2_with fail
  refine hit.mono ?_
  rintro _ w1 ⟨rfl, hk1⟩
  clear hit
  have hline := wline_any b n (100 :: 97 :: 116 :: 97 :: 32 :: it) g w1 (h.same hk1) (by simp only [List.length_cons]; omega)
  go_wp2_with fail
  refine hline.mono ?_
  rintro _ w2 ⟨rfl, hR⟩
  clear hline
  have hR1 := (WdR.after h hk1 rfl hR).more (n' := n + 29) (by simp only [List.length_cons]; omega)
  obtain ⟨g2, hW2, hg2, hk2⟩ := hR1
  have hline2 := wline_any b (n + 29) d g2 w2 hW2 (by omega)
  go_wp2_with fail
  refine hline2.mono ?_
  rintro _ w3 ⟨rfl, hR3⟩
  clear hline2
  have hF : WdR b (n + d.length + 30) g w w3 := WdR.trans hg2 hk2 (hR3.more (by omega))
  go_wp2
  go_end0
  exact ⟨rfl, hF⟩

end Go.Proofs.YtepgoppgblfjbaaGreatDoor
