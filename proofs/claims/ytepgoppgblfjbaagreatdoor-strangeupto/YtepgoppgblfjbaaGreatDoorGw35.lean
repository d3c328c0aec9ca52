import Derived.Test.YtepgoppgblfjbaaGreatDoorGw34
namespace Go.Proofs.YtepgoppgblfjbaaGreatDoor
open Go.ChangeShapes Go.WideShapes Go.ChangeAt Go.RowKit Go.Deep

theorem cells25 : Tryz.prog.cellsOf 25 = 1 := by kernel_rfl

theorem streams_of {H : Type} {enc : TypeId × Value → H} {W : World} {spare : Nat → Bool} {held : Bool} {fuel : Nat} {v : Value} {x : DataW H × List MemPlace}
    (h : DataW.trod enc Tryz.prog W 0 spare held fuel 52 [v] = some x) :
    ∃ (y : Nat → List UInt8) (a : Option Addr) (len cap : Nat), v = .slice a len cap ∧ ActsL W a len y := by
  rcases open_slice Tryz.underlying52 h with ⟨hcs, _⟩ | ⟨a, len, cap, m, n, D, Pl, hcs, _, hl, hm, hmm, _, hel⟩
  · simp at hcs
    subst hcs
    exact ⟨fun _ => [], none, 0, 0, rfl, by decide, fun i => Nat.zero_le _, fun h => absurd rfl h⟩
  · simp at hcs
    subst hcs
    by_cases h0 : len = 0
    · subst h0
      exact ⟨fun _ => [], some a, 0, cap, rfl, by decide, fun i => Nat.zero_le _, fun h => absurd rfl h⟩
    · have hlm : len ≤ m := by rw [hmm]; split <;> omega
      rw [cells25] at hel
      have hel2 : ∀ i, i < len → ∃ t : List UInt8, t.length ≤ 2405 ∧ ∃ a' l' c', W.cells? 0 (a.add (i * 1)) 1 = some [.slice a' l' c'] ∧
          ∀ w1, Kx (fun _ => False) W w1 → Calls Tryz.prog 17 #[.slice a' l' c'] w1 fun e w' => e = .returned (.string ⟨t.toArray⟩) ∧ Kx (fun _ => False) w1 w' := by
        intro i hi
        obtain ⟨cs, h1, h2⟩ := hel i (by omega)
        have hl1 : cs.length = 1 := by
          have := (World.cells?_some h1).2.1
          simpa using this
        obtain ⟨u, rfl⟩ : ∃ u, cs = [u] := List.length_eq_one_iff.1 hl1
        obtain ⟨f, l1, hs⟩ := stream_of h2
        have hsh : ∃ a' l' c', u = .slice a' l' c' := by
          rcases open_slice Tryz.underlying25 h2 with ⟨hcs, _⟩ | ⟨a2, len2, cap2, _, _, _, _, hcs, _⟩
          · simp at hcs; exact ⟨none, 0, 0, hcs⟩
          · simp at hcs; exact ⟨some a2, len2, cap2, hcs⟩
        obtain ⟨a', l', c', rfl⟩ := hsh
        refine ⟨streamOf f l1, (streamOf_len f l1).1, a', l', c', h1, fun w1 hk => ?_⟩
        exact (hs w1 (fun X => hk.mono (fun _ _ e => e.elim))).mono (fun e w' hq => ⟨hq.1, hq.2 _⟩)
      obtain ⟨f, hf⟩ : ∃ f : Nat → List UInt8, ∀ i, i < len → (f i).length ≤ 2405 ∧ ∃ a' l' c', W.cells? 0 (a.add (i * 1)) 1 = some [.slice a' l' c'] ∧
          ∀ w1, Kx (fun _ => False) W w1 → Calls Tryz.prog 17 #[.slice a' l' c'] w1 fun e w' => e = .returned (.string ⟨(f i).toArray⟩) ∧ Kx (fun _ => False) w1 w' := by
        have : Inhabited (List UInt8) := ⟨[]⟩
        exact choose_lt hel2
      obtain ⟨b, off, spot⟩ := a
      have hspot : spot = none := by
        obtain ⟨_, a', l', c', hc0, _⟩ := hf 0 (by omega)
        have hc := (World.cells?_some hc0).2.2 0 (by omega)
        simpa [Addr.add] using World.cell?_spot hc
      subst hspot
      have hadd : ∀ i, ((⟨b, off, none⟩ : Addr).add (i * 1)).add 0 = ⟨b, off + i, none⟩ := by
        intro i
        rw [add_add]
        unfold Addr.add; split <;> simp_all
      refine ⟨fun i => if i < len then f i else [], some ⟨b, off, none⟩, len, cap, rfl, by omega, fun i => ?_, fun _ => ⟨b, off, rfl, fun i hi => ?_⟩⟩
      · by_cases hi : i < len
        · show (if i < len then f i else []).length ≤ 2405
          rw [if_pos hi]; exact (hf i hi).1
        · show (if i < len then f i else []).length ≤ 2405
          rw [if_neg hi]; exact Nat.zero_le _
      · obtain ⟨_, a', l', c', hc0, hcall⟩ := hf i hi
        refine ⟨a', l', c', ?_, fun w1 hk => ?_⟩
        · rw [← hadd]
          exact (World.cells?_some hc0).2.2 0 (by omega)
        · show Calls Tryz.prog 17 _ w1 fun e w' => e = .returned (.string ⟨(if i < len then f i else []).toArray⟩) ∧ _
          rw [if_pos hi]
          exact hcall w1 hk

theorem bulk_str {H : Type} {l : List UInt8} {r : List (DataW H)} (hk : Rows.uptoSmall H (.lit (.string l) :: r) = true) : l.length ≤ 1048576 := by
  have h := of_decide_eq_true hk
  simp only [Rows.uptoBulkAll, Rows.uptoBulk] at h
  omega

set_option maxRecDepth 100000 in
theorem strange_contract (H : Type) (enc : TypeId × Value → H) (W : World) (base : Nat) (args : Array Value) (ds gs : List (DataW H)) (before : List MemPlace)
    (hval : ∀ (j : Nat) t v, Tryz.f11.params[j]? = some t → args[j]? = some v → Value.okWide Tryz.prog W .any base t v)
    (hW : DataW.Whole enc Tryz.prog Tryz.f11.params.toList Rows.strangeSpec.vars false W args.toList ds gs before) (hk : Rows.uptoSmall H (ds ++ gs) = true) (hlaid : laidMetH Tryz.prog Rows.strangeUptoRow.laid W) (hsh : W.ShapedOpen Tryz.prog) :
    Calls Tryz.prog 11 args W fun e W' => ∃ v, e = .returned v ∧ Rows.strangeSpec.post enc Tryz.prog Tryz.f11 false true false false W args v W' := by
  have hW' := hW
  obtain ⟨p, q, hA0, hV, rfl, hfz, hnd⟩ := hW
  have hA : DataW.TrodAll enc Tryz.prog W 0 (fun _ => true) true Tryz.f11.params.toList args.toList ds p := hA0
  rw [Tryz.params11] at hA hval
  obtain ⟨v0, vs0, d0, ds0, p0, q0, hargs, rfl, rfl, h0, r0⟩ := trodAll_cons hA
  obtain ⟨v1, vs1, d1, ds1, p1, q1, rfl, rfl, rfl, h1, r1⟩ := trodAll_cons r0
  obtain ⟨v2, vs2, d2, ds2, p2, q2, rfl, rfl, rfl, h2, r2⟩ := trodAll_cons r1
  obtain ⟨v3, vs3, d3, ds3, p3, q3, rfl, rfl, rfl, h3, r3⟩ := trodAll_cons r2
  obtain ⟨rfl, rfl, rfl⟩ := trodAll_nil r3
  obtain rfl : args = #[v0, v1, v2, v3] := by cases args; simp_all
  obtain ⟨rfl, rfl⟩ := trodVars_none hV
  obtain ⟨s, rfl, rfl, rfl, hs⟩ := Go.ChangeMaps.open_string Tryz.underlying9 (hval 0 9 v0 rfl rfl) h0
  obtain ⟨a0, len0, cap0, rfl⟩ := okWide_slice Tryz.underlying52 (hval 1 52 v1 rfl rfl)
  have k1 := h1
  have lt1 : ∀ x ∈ p1, x.block < W.heap.size := by obtain ⟨m, hm⟩ := k1; exact DataW.trod_lt m _ _ _ hm
  obtain ⟨fuel, hf⟩ := h1
  obtain ⟨y, a, len, cap, hv, hY⟩ := streams_of (by simpa [Value.cells] using hf)
  cases hv
  obtain ⟨pos, rfl, rfl, rfl, w2⟩ := open_int Tryz.underlying3 (hval 2 3 v2 rfl rfl) h2
  obtain ⟨tob, rfl, rfl, rfl, w3⟩ := open_int Tryz.underlying3 (hval 3 3 v3 rfl rfl) h3
  have hbl := bulk_str hk
  have hlaid2 : laidMetH Tryz.prog Rows.followedRow.laid W := hlaid
  have hgl := gl_of hlaid2 hsh
  have h7 := size_of hsh
  have hpi := i64_of w2
  have hse : s = ⟨s.data.toList.toArray⟩ := by simp
  clear hA0
  have hcall := strange_any s.data.toList hbl _ _ cap0 pos tob y W hgl h7 hY hpi
  rw [← hse] at hcall
  refine hcall.mono fun e W' ⟨he, hkx⟩ => ?_
  have bel : Below W.heap.size W W' := hkx.below (Nat.le_refl _) (fun _ _ => id)
  subst he
  exact ⟨_, rfl, _, _, _, [], _, [], hW', trodAll_mk1 (shut_bool Tryz.underlying4 _), (trodAll_cons_mk (Go.ChangeMaps.shut_string Tryz.underlying9 hs) (trodAll_cons_mk (Below.trod laidOut (by kernel_rfl) (of_decide_eq_true (by kernel_rfl)) k1 bel lt1) (trodAll_cons_mk (shut_int Tryz.underlying3 w2) (trodAll_cons_mk (shut_int Tryz.underlying3 w3) trodAll_mk0)))), rfl, bel.frame _, fun h => by cases h⟩

end Go.Proofs.YtepgoppgblfjbaaGreatDoor
