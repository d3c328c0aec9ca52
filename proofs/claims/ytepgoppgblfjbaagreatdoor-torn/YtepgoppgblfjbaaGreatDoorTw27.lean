import Derived.Test.YtepgoppgblfjbaaGreatDoorTw26
import Derived.Test.YtepgoppgblfjbaaGreatDoorTw17
/- The statements' holds. -/
namespace Go.Proofs.YtepgoppgblfjbaaGreatDoor
open Go.RowKit

theorem lineF_facts {f : Fi} (h : f.mode.length = 6 ∧ f.sum.length = 32) : (lineF f).length = 72 + f.path.length ∧ (lineF f).drop 72 = f.path := by
  have hx := hex_len f.sum
  constructor
  · unfold lineF
    simp only [List.length_append, List.length_cons]
    omega
  · unfold lineF
    rw [show f.mode ++ 32 :: (Sh.hex f.sum ++ 32 :: f.path) = (f.mode ++ 32 :: (Sh.hex f.sum ++ [32])) ++ f.path from by simp]
    rw [List.drop_append_of_le_length (by simp only [List.length_append, List.length_cons, List.length_nil]; omega), List.drop_of_length_le (by simp only [List.length_append, List.length_cons, List.length_nil]; omega)]
    rfl

theorem paths_ne : ∀ p ∈ Pu.pathsL, p ≠ [] := by decide

set_option maxHeartbeats 3200000 in
set_option maxRecDepth 100000 in
theorem holds_any (l : List Fi) (want : List (List UInt8)) (al aw : Option Addr) (cl cw : Nat) (w : World) (hl : Reads w (.slice al l.length cl) l.length (linesV l)) (hw : Reads w (.slice aw want.length cw) want.length (strsV want)) (hFI : FI l want) (hsmall : want.length ≤ 1000) :
    Calls Tryz.prog 28 #[.slice al l.length cl, .slice aw want.length cw] w fun e w' => e = .returned (.bool true) ∧ Kx (fun _ => False) w w' := by
  have hmx : maxLen = 9223372036854775807 := rfl
  have hlen : l.length = want.length := by
    have := hFI.perm.length_eq
    simpa using this
  obtain ⟨q1, c1, h1, _, hr1⟩ := hl
  cases h1
  obtain ⟨q2, c2, h2, _, hr2⟩ := hw
  cases h2
  have HLen : Hid (l.length = want.length) := hlen
  have HR2 : Hid (want.length ≠ 0 → ∃ g o, aw = some ⟨g, o, none⟩ ∧ ∀ k x, (strsV want)[k]? = some x → w.cell? ⟨g, o + k, none⟩ = some x) := hr2
  have HFI : Hid (FI l want) := hFI
  have HR1 : Hid (l.length ≠ 0 → ∃ g o, al = some ⟨g, o, none⟩ ∧ ∀ k x, (linesV l)[k]? = some x → w.cell? ⟨g, o + k, none⟩ = some x) := hr1
  have hleni : ((l.length : Int) != (want.length : Int)) = false := by rw [hlen]; simp
  have hll : l.length ≤ 1000 := by omega
  clear hlen hr1 hr2 hFI
  go_enter Tryz.func28, Tryz.ntmps28
  go_wp2
  go_loopw [5] (fun iv wr => ∃ (i : Nat), iv = .int .i64 i ∧ i ≤ l.length ∧ Kx (fun _ => False) w wr) (fun iv _ => l.length - (intOf iv).toNat)
  case atStart => exact ⟨0, rfl, by omega, Kx.refl _ _⟩
  case round =>
    obtain ⟨i, rfl, hi, hkx⟩ := hrel
    by_cases hlt : i < l.length
    · have hlt2 : (i : Int) < (l.length : Int) := by omega
      have hFI := HFI.out
      obtain ⟨g, og, rfl, hcell⟩ := HR1.out (by omega)
      have hcw0 : w.cell? ⟨g, og + i, none⟩ = some (.string ⟨(lineF l[i]).toArray⟩) := hcell i (.string ⟨(lineF l[i]).toArray⟩) (by simp [linesV, hlt])
      have hci : wr.cell? ⟨g, og + i, none⟩ = some (.string ⟨(lineF l[i]).toArray⟩) := by
        have h0 := hcell i (.string ⟨(lineF l[i]).toArray⟩) (by simp [linesV, hlt])
        exact (hkx.cell (p := ⟨g, og + i, none⟩) (lt_of_cell (p := ⟨g, og + i, none⟩) h0) id).trans h0
      obtain ⟨hLl, hLd⟩ := lineF_facts (hFI.shape l[i] (List.getElem_mem hlt))
      have hpm : l[i].path ∈ want := hFI.perm.mem_iff.1 (List.mem_map.2 ⟨l[i], List.getElem_mem hlt, rfl⟩)
      have hpn : 0 < l[i].path.length := List.length_pos_iff.2 (paths_ne _ (hFI.known _ hpm))
      have hext := ext_drop (lineF l[i]) 72
      rw [hLd] at hext
      have hL73 : ¬ ((lineF l[i]).length : Int) < 73 := by omega
      have hL72 : (72 : Int) ≤ ((lineF l[i]).length : Int) := by omega
      clear hLl hLd hpn
      have HIN : Hid (l[i].path ∈ want) := hpm
      clear hpm
      by_cases hi0 : i = 0
      · subst hi0
        generalize lineF l[0] = Li at *
        generalize l[0].path = pi at *
        simp only [Nat.add_zero] at hci hcw0
        clear hcell hFI HR1
        go_wp2_with fail
        refine wp_region_wq (C := fun w' => Kx (fun _ => False) wr w') 23 (by kernel_rfl) (by kernel_rfl) (Kx.refl _ _).drew ?_
        simp only [List.take_succ_cons, List.take_zero, List.drop_succ_cons, List.drop_zero]
        refine wq_val rfl (.slice (some ⟨g, og, none⟩) l.length cl) (fun w' hC => by go_simp) ?_
        simp only [Act.put, List.setIfInBounds_toArray, List.set_cons_succ, List.set_cons_zero]
        refine wq_val rfl (.int .i64 0) (fun w' hC => by go_simp) ?_
        simp only [Act.put, List.setIfInBounds_toArray, List.set_cons_succ, List.set_cons_zero]
        refine wq_val rfl (.pointer (some ⟨g, og, none⟩)) (fun w' hC => by go_simp) ?_
        simp only [Act.put, List.setIfInBounds_toArray, List.set_cons_succ, List.set_cons_zero]
        refine wq_val rfl (.string ⟨Li.toArray⟩) (fun w' hC => by
          have hc0 : w'.cell? ⟨g, og, none⟩ = some (.string ⟨Li.toArray⟩) := (hC.cell (p := ⟨g, og, none⟩) (lt_of_cell (p := ⟨g, og, none⟩) hci) id).trans hci
          go_simp) ?_
        simp only [Act.put, List.setIfInBounds_toArray, List.set_cons_succ, List.set_cons_zero]
        refine wq_val rfl (.int .i64 (Li.length : Int)) (fun w' hC => by go_simp) ?_
        simp only [Act.put, List.setIfInBounds_toArray, List.set_cons_succ, List.set_cons_zero]
        refine wq_val rfl (.bool false) (fun w' hC => by go_simp) ?_
        simp only [Act.put, List.setIfInBounds_toArray, List.set_cons_succ, List.set_cons_zero]
        refine wq_val rfl (.bool false) (fun w' hC => by go_simp) ?_
        simp only [Act.put, List.setIfInBounds_toArray, List.set_cons_succ, List.set_cons_zero]
        refine wq_valG (by kernel_rfl) (.int .i64 0) (fun w' hC => by go_simp) ?_
        simp only [Act.put, List.setIfInBounds_toArray, List.set_cons_succ, List.set_cons_zero]
        refine wq_valG (by kernel_rfl) (.bool false) (fun w' hC => by go_simp) ?_
        simp only [Act.put, List.setIfInBounds_toArray, List.set_cons_succ, List.set_cons_zero]
        refine wq_valG (by kernel_rfl) (.bool false) (fun w' hC => by go_simp) ?_
        simp only [Act.put, List.setIfInBounds_toArray, List.set_cons_succ, List.set_cons_zero]
        refine wq_skip (by kernel_rfl) ?_
        simp only [Act.put, List.setIfInBounds_toArray, List.set_cons_succ, List.set_cons_zero]
        refine wq_skip (by kernel_rfl) ?_
        simp only [Act.put, List.setIfInBounds_toArray, List.set_cons_succ, List.set_cons_zero]
        refine wq_skip (by kernel_rfl) ?_
        simp only [Act.put, List.setIfInBounds_toArray, List.set_cons_succ, List.set_cons_zero]
        refine wq_skip (by kernel_rfl) ?_
        simp only [Act.put, List.setIfInBounds_toArray, List.set_cons_succ, List.set_cons_zero]
        refine wq_skip (by kernel_rfl) ?_
        simp only [Act.put, List.setIfInBounds_toArray, List.set_cons_succ, List.set_cons_zero]
        refine wq_skip (by kernel_rfl) ?_
        simp only [Act.put, List.setIfInBounds_toArray, List.set_cons_succ, List.set_cons_zero]
        refine wq_skip (by kernel_rfl) ?_
        simp only [Act.put, List.setIfInBounds_toArray, List.set_cons_succ, List.set_cons_zero]
        refine wq_skip (by kernel_rfl) ?_
        simp only [Act.put, List.setIfInBounds_toArray, List.set_cons_succ, List.set_cons_zero]
        refine wq_skip (by kernel_rfl) ?_
        simp only [Act.put, List.setIfInBounds_toArray, List.set_cons_succ, List.set_cons_zero]
        refine wq_skip (by kernel_rfl) ?_
        simp only [Act.put, List.setIfInBounds_toArray, List.set_cons_succ, List.set_cons_zero]
        refine wq_skip (by kernel_rfl) ?_
        simp only [Act.put, List.setIfInBounds_toArray, List.set_cons_succ, List.set_cons_zero]
        refine wq_skip (by kernel_rfl) ?_
        simp only [Act.put, List.setIfInBounds_toArray, List.set_cons_succ, List.set_cons_zero]
        refine wq_valG (by kernel_rfl) (.bool false) (fun w' hC => by go_simp) ?_
        simp only [Act.put, List.setIfInBounds_toArray, List.set_cons_succ, List.set_cons_zero]
        refine wq_nil (fun w' hC => ?_)
        go_wp2_with fail
        have hkF := hkx.trans hC
        clear hkx hC
        go_loopw [7, 6] (fun kv bv wq => ∃ (k : Nat) (b : Bool), kv = .int .i64 k ∧ bv = .bool b ∧ k ≤ want.length ∧ Kx (fun _ => False) w wq ∧ Hid (b = (want.take k).contains pi)) (fun kv _ _ => want.length - (intOf kv).toNat)
        case atStart => exact ⟨0, false, rfl, rfl, by omega, hkF, rfl⟩
        case round =>
          obtain ⟨k, b, rfl, rfl, hk, hkq, HB⟩ := hrel
          by_cases hkl : k < want.length
          · have hkl2 : (k : Int) < (want.length : Int) := by omega
            obtain ⟨g2, og2, rfl, hcell2⟩ := HR2.out (by omega)
            have hcw : wr.cell? ⟨g2, og2 + k, none⟩ = some (.string ⟨want[k].toArray⟩) := (hkq.cell (p := ⟨g2, og2 + k, none⟩) (lt_of_cell (p := ⟨g2, og2 + k, none⟩) (hcell2 k (.string ⟨want[k].toArray⟩) (by simp [strsV, hkl]))) id).trans (hcell2 k (.string ⟨want[k].toArray⟩) (by simp [strsV, hkl]))
            have hcq := (hkq.cell (p := ⟨g, og, none⟩) (lt_of_cell (p := ⟨g, og, none⟩) hcw0) id).trans hcw0
            have HB2 : Hid ((b || (pi == want[k])) = (want.take (k + 1)).contains pi) := by
              show _ = _
              rw [HB.out, List.take_succ_eq_append_getElem hkl]
              simp only [List.contains_eq_any_beq, List.any_append, List.any_cons, List.any_nil, Bool.or_false]
            generalize want[k] = wk at *
            clear hcell2 HB
            cases b with
            | false =>
              simp only [Bool.false_or] at HB2
              go_wp2_with fail
              refine wp_region_wq (C := fun w' => Kx (fun _ => False) wr w') 13 (by kernel_rfl) (by kernel_rfl) (Kx.refl _ _).drew ?_
              simp only [List.take_succ_cons, List.take_zero, List.drop_succ_cons, List.drop_zero]
              refine wq_val rfl (.bool false) (fun w' hC => by go_simp) ?_
              simp only [Act.put, List.setIfInBounds_toArray, List.set_cons_succ, List.set_cons_zero]
              refine wq_val rfl (.bool false) (fun w' hC => by go_simp) ?_
              simp only [Act.put, List.setIfInBounds_toArray, List.set_cons_succ, List.set_cons_zero]
              refine wq_valG rfl (.slice (some ⟨g, og, none⟩) l.length cl) (fun w' hC => by go_simp) ?_
              simp only [Act.put, List.setIfInBounds_toArray, List.set_cons_succ, List.set_cons_zero]
              refine wq_valG rfl (.int .i64 0) (fun w' hC => by go_simp) ?_
              simp only [Act.put, List.setIfInBounds_toArray, List.set_cons_succ, List.set_cons_zero]
              refine wq_valG rfl (.pointer (some ⟨g, og, none⟩)) (fun w' hC => by go_simp) ?_
              simp only [Act.put, List.setIfInBounds_toArray, List.set_cons_succ, List.set_cons_zero]
              refine wq_valG rfl (.string ⟨Li.toArray⟩) (fun w' hC => by
                have hc0 : w'.cell? ⟨g, og, none⟩ = some (.string ⟨Li.toArray⟩) := (hC.cell (p := ⟨g, og, none⟩) (lt_of_cell (p := ⟨g, og, none⟩) hcq) id).trans hcq
                go_simp) ?_
              simp only [Act.put, List.setIfInBounds_toArray, List.set_cons_succ, List.set_cons_zero]
              refine wq_valG rfl (.string ⟨pi.toArray⟩) (fun w' hC => by go_simp) ?_
              simp only [Act.put, List.setIfInBounds_toArray, List.set_cons_succ, List.set_cons_zero]
              refine wq_valG rfl (.slice (some ⟨g2, og2, none⟩) want.length cw) (fun w' hC => by go_simp) ?_
              simp only [Act.put, List.setIfInBounds_toArray, List.set_cons_succ, List.set_cons_zero]
              refine wq_valG rfl (.int .i64 (k : Int)) (fun w' hC => by go_simp) ?_
              simp only [Act.put, List.setIfInBounds_toArray, List.set_cons_succ, List.set_cons_zero]
              refine wq_valG rfl (.pointer (some ⟨g2, og2 + k, none⟩)) (fun w' hC => by go_simp) ?_
              simp only [Act.put, List.setIfInBounds_toArray, List.set_cons_succ, List.set_cons_zero]
              refine wq_valG rfl (.string ⟨wk.toArray⟩) (fun w' hC => by
                have hc0 : w'.cell? ⟨g2, og2 + k, none⟩ = some (.string ⟨wk.toArray⟩) := (hC.cell (p := ⟨g2, og2 + k, none⟩) (lt_of_cell (p := ⟨g2, og2 + k, none⟩) hcw) id).trans hcw
                go_simp) ?_
              simp only [Act.put, List.setIfInBounds_toArray, List.set_cons_succ, List.set_cons_zero]
              refine wq_valG rfl (.bool (pi == wk)) (fun w' hC => by go_simp) ?_
              simp only [Act.put, List.setIfInBounds_toArray, List.set_cons_succ, List.set_cons_zero]
              refine wq_val rfl (.bool (pi == wk)) (fun w' hC => by go_simp) ?_
              simp only [Act.put, List.setIfInBounds_toArray, List.set_cons_succ, List.set_cons_zero]
              refine wq_nil (fun w' hC => ?_)
              have hkG := hkq.trans hC
              clear hkq hC hcq hcw
              generalize (pi == wk) = bb at *
              go_wp2
              go_roundw
              case rel => exact ⟨k + 1, bb, by go_num, rfl, hkl, hkG, HB2⟩
              case measure => simp [intOf]; omega
            | true =>
              simp only [Bool.true_or] at HB2
              go_wp2_with fail
              refine wp_region_wq (C := fun w' => Kx (fun _ => False) wr w') 13 (by kernel_rfl) (by kernel_rfl) (Kx.refl _ _).drew ?_
              simp only [List.take_succ_cons, List.take_zero, List.drop_succ_cons, List.drop_zero]
              refine wq_val rfl (.bool true) (fun w' hC => by go_simp) ?_
              simp only [Act.put, List.setIfInBounds_toArray, List.set_cons_succ, List.set_cons_zero]
              refine wq_val rfl (.bool true) (fun w' hC => by go_simp) ?_
              simp only [Act.put, List.setIfInBounds_toArray, List.set_cons_succ, List.set_cons_zero]
              refine wq_skip (by kernel_rfl) ?_
              simp only [Act.put, List.setIfInBounds_toArray, List.set_cons_succ, List.set_cons_zero]
              refine wq_skip (by kernel_rfl) ?_
              simp only [Act.put, List.setIfInBounds_toArray, List.set_cons_succ, List.set_cons_zero]
              refine wq_skip (by kernel_rfl) ?_
              simp only [Act.put, List.setIfInBounds_toArray, List.set_cons_succ, List.set_cons_zero]
              refine wq_skip (by kernel_rfl) ?_
              simp only [Act.put, List.setIfInBounds_toArray, List.set_cons_succ, List.set_cons_zero]
              refine wq_skip (by kernel_rfl) ?_
              simp only [Act.put, List.setIfInBounds_toArray, List.set_cons_succ, List.set_cons_zero]
              refine wq_skip (by kernel_rfl) ?_
              simp only [Act.put, List.setIfInBounds_toArray, List.set_cons_succ, List.set_cons_zero]
              refine wq_skip (by kernel_rfl) ?_
              simp only [Act.put, List.setIfInBounds_toArray, List.set_cons_succ, List.set_cons_zero]
              refine wq_skip (by kernel_rfl) ?_
              simp only [Act.put, List.setIfInBounds_toArray, List.set_cons_succ, List.set_cons_zero]
              refine wq_skip (by kernel_rfl) ?_
              simp only [Act.put, List.setIfInBounds_toArray, List.set_cons_succ, List.set_cons_zero]
              refine wq_skip (by kernel_rfl) ?_
              simp only [Act.put, List.setIfInBounds_toArray, List.set_cons_succ, List.set_cons_zero]
              refine wq_val rfl (.bool true) (fun w' hC => by go_simp) ?_
              simp only [Act.put, List.setIfInBounds_toArray, List.set_cons_succ, List.set_cons_zero]
              refine wq_nil (fun w' hC => ?_)
              have hkG := hkq.trans hC
              clear hkq hC hcq hcw
              go_wp2
              go_roundw
              case rel => exact ⟨k + 1, true, by go_num, rfl, hkl, hkG, HB2⟩
              case measure => simp [intOf]; omega
          · obtain rfl : k = want.length := by omega
            have hkl2 : ¬ (want.length : Int) < (want.length : Int) := by omega
            obtain rfl : b = true := by
              rw [HB.out, List.take_length]
              exact List.contains_iff_mem.2 HIN.out
            clear HB
            go_wp2
            go_roundw
            case rel => exact ⟨1, by go_num, hlt, hkq⟩
            case measure => simp [intOf]; omega
      · obtain ⟨i1, hi1⟩ : ∃ i1, i = i1 + 1 := ⟨i - 1, by omega⟩
        have hlt1 : i1 < l.length := by omega
        have hcp : wr.cell? ⟨g, og + i1, none⟩ = some (.string ⟨(lineF l[i1]).toArray⟩) := by
          have h0 := hcell i1 (.string ⟨(lineF l[i1]).toArray⟩) (by simp [linesV, hlt1])
          exact (hkx.cell (p := ⟨g, og + i1, none⟩) (lt_of_cell (p := ⟨g, og + i1, none⟩) h0) id).trans h0
        obtain ⟨hPl, hPd⟩ := lineF_facts (hFI.shape l[i1] (List.getElem_mem hlt1))
        have hext2 := ext_drop (lineF l[i1]) 72
        rw [hPd] at hext2
        have hless : Op.bytesLess l[i1].path l[i].path = true := by
          have h1 := List.pairwise_iff_getElem.1 hFI.sorted i1 i hlt1 hlt (by omega)
          have h2 : l[i1].path ≠ l[i].path := List.pairwise_iff_getElem.1 (List.pairwise_map.1 hFI.own) i1 i hlt1 hlt (by omega)
          simp only [bytesLess_eq, decide_eq_false_iff_not, List.not_lt, decide_eq_true_eq] at h1 ⊢
          apply Classical.byContradiction
          intro h3
          rw [List.not_lt] at h3
          exact h2 (List.le_antisymm h1 h3)
        have hpos : (0 : Int) < (i : Int) := by omega
        have hsub : (i : Int) - 1 = (i1 : Int) := by omega
        have hlt3 : (i1 : Int) < (l.length : Int) := by omega
        have hP72 : (72 : Int) ≤ ((lineF l[i1]).length : Int) := by omega
        clear hPl hPd hi1 hcell hFI HR1
        generalize lineF l[i] = Li at *
        generalize l[i].path = pi at *
        generalize lineF l[i1] = Lp at *
        generalize l[i1].path = pp at *
        go_wp2_with fail
        refine wp_region_wq (C := fun w' => Kx (fun _ => False) wr w') 23 (by kernel_rfl) (by kernel_rfl) (Kx.refl _ _).drew ?_
        simp only [List.take_succ_cons, List.take_zero, List.drop_succ_cons, List.drop_zero]
        refine wq_val rfl (.slice (some ⟨g, og, none⟩) l.length cl) (fun w' hC => by go_simp) ?_
        simp only [Act.put, List.setIfInBounds_toArray, List.set_cons_succ, List.set_cons_zero]
        refine wq_val rfl (.int .i64 (i : Int)) (fun w' hC => by go_simp) ?_
        simp only [Act.put, List.setIfInBounds_toArray, List.set_cons_succ, List.set_cons_zero]
        refine wq_val rfl (.pointer (some ⟨g, og + i, none⟩)) (fun w' hC => by go_simp) ?_
        simp only [Act.put, List.setIfInBounds_toArray, List.set_cons_succ, List.set_cons_zero]
        refine wq_val rfl (.string ⟨Li.toArray⟩) (fun w' hC => by
          have hc0 : w'.cell? ⟨g, og + i, none⟩ = some (.string ⟨Li.toArray⟩) := (hC.cell (p := ⟨g, og + i, none⟩) (lt_of_cell (p := ⟨g, og + i, none⟩) hci) id).trans hci
          go_simp) ?_
        simp only [Act.put, List.setIfInBounds_toArray, List.set_cons_succ, List.set_cons_zero]
        refine wq_val rfl (.int .i64 (Li.length : Int)) (fun w' hC => by go_simp) ?_
        simp only [Act.put, List.setIfInBounds_toArray, List.set_cons_succ, List.set_cons_zero]
        refine wq_val rfl (.bool false) (fun w' hC => by go_simp) ?_
        simp only [Act.put, List.setIfInBounds_toArray, List.set_cons_succ, List.set_cons_zero]
        refine wq_val rfl (.bool false) (fun w' hC => by go_simp) ?_
        simp only [Act.put, List.setIfInBounds_toArray, List.set_cons_succ, List.set_cons_zero]
        refine wq_valG (by kernel_rfl) (.int .i64 (i : Int)) (fun w' hC => by go_simp) ?_
        simp only [Act.put, List.setIfInBounds_toArray, List.set_cons_succ, List.set_cons_zero]
        refine wq_valG (by kernel_rfl) (.bool true) (fun w' hC => by go_simp; omega) ?_
        simp only [Act.put, List.setIfInBounds_toArray, List.set_cons_succ, List.set_cons_zero]
        refine wq_valG (by kernel_rfl) (.bool true) (fun w' hC => by go_simp) ?_
        simp only [Act.put, List.setIfInBounds_toArray, List.set_cons_succ, List.set_cons_zero]
        refine wq_valG (by kernel_rfl) (.slice (some ⟨g, og, none⟩) l.length cl) (fun w' hC => by go_simp) ?_
        simp only [Act.put, List.setIfInBounds_toArray, List.set_cons_succ, List.set_cons_zero]
        refine wq_valG (by kernel_rfl) (.int .i64 (i : Int)) (fun w' hC => by go_simp) ?_
        simp only [Act.put, List.setIfInBounds_toArray, List.set_cons_succ, List.set_cons_zero]
        refine wq_valG (by kernel_rfl) (.int .i64 (i1 : Int)) (fun w' hC => by go_simp; rw [IntKind.wrap_i64]; omega) ?_
        simp only [Act.put, List.setIfInBounds_toArray, List.set_cons_succ, List.set_cons_zero]
        refine wq_valG (by kernel_rfl) (.pointer (some ⟨g, og + i1, none⟩)) (fun w' hC => by go_simp) ?_
        simp only [Act.put, List.setIfInBounds_toArray, List.set_cons_succ, List.set_cons_zero]
        refine wq_valG (by kernel_rfl) (.string ⟨Lp.toArray⟩) (fun w' hC => by
          have hc0 : w'.cell? ⟨g, og + i1, none⟩ = some (.string ⟨Lp.toArray⟩) := (hC.cell (p := ⟨g, og + i1, none⟩) (lt_of_cell (p := ⟨g, og + i1, none⟩) hcp) id).trans hcp
          go_simp) ?_
        simp only [Act.put, List.setIfInBounds_toArray, List.set_cons_succ, List.set_cons_zero]
        refine wq_valG (by kernel_rfl) (.string ⟨pp.toArray⟩) (fun w' hC => by go_simp) ?_
        simp only [Act.put, List.setIfInBounds_toArray, List.set_cons_succ, List.set_cons_zero]
        refine wq_valG (by kernel_rfl) (.slice (some ⟨g, og, none⟩) l.length cl) (fun w' hC => by go_simp) ?_
        simp only [Act.put, List.setIfInBounds_toArray, List.set_cons_succ, List.set_cons_zero]
        refine wq_valG (by kernel_rfl) (.int .i64 (i : Int)) (fun w' hC => by go_simp) ?_
        simp only [Act.put, List.setIfInBounds_toArray, List.set_cons_succ, List.set_cons_zero]
        refine wq_valG (by kernel_rfl) (.pointer (some ⟨g, og + i, none⟩)) (fun w' hC => by go_simp) ?_
        simp only [Act.put, List.setIfInBounds_toArray, List.set_cons_succ, List.set_cons_zero]
        refine wq_valG (by kernel_rfl) (.string ⟨Li.toArray⟩) (fun w' hC => by
          have hc0 : w'.cell? ⟨g, og + i, none⟩ = some (.string ⟨Li.toArray⟩) := (hC.cell (p := ⟨g, og + i, none⟩) (lt_of_cell (p := ⟨g, og + i, none⟩) hci) id).trans hci
          go_simp) ?_
        simp only [Act.put, List.setIfInBounds_toArray, List.set_cons_succ, List.set_cons_zero]
        refine wq_valG (by kernel_rfl) (.string ⟨pi.toArray⟩) (fun w' hC => by go_simp) ?_
        simp only [Act.put, List.setIfInBounds_toArray, List.set_cons_succ, List.set_cons_zero]
        refine wq_valG (by kernel_rfl) (.bool false) (fun w' hC => by go_simp) ?_
        simp only [Act.put, List.setIfInBounds_toArray, List.set_cons_succ, List.set_cons_zero]
        refine wq_valG (by kernel_rfl) (.bool false) (fun w' hC => by go_simp) ?_
        simp only [Act.put, List.setIfInBounds_toArray, List.set_cons_succ, List.set_cons_zero]
        refine wq_nil (fun w' hC => ?_)
        go_wp2_with fail
        have hkF := hkx.trans hC
        clear hkx hC
        go_loopw [7, 6] (fun kv bv wq => ∃ (k : Nat) (b : Bool), kv = .int .i64 k ∧ bv = .bool b ∧ k ≤ want.length ∧ Kx (fun _ => False) w wq ∧ Hid (b = (want.take k).contains pi)) (fun kv _ _ => want.length - (intOf kv).toNat)
        case atStart => exact ⟨0, false, rfl, rfl, by omega, hkF, rfl⟩
        case round =>
          obtain ⟨k, b, rfl, rfl, hk, hkq, HB⟩ := hrel
          by_cases hkl : k < want.length
          · have hkl2 : (k : Int) < (want.length : Int) := by omega
            obtain ⟨g2, og2, rfl, hcell2⟩ := HR2.out (by omega)
            have hcw : wr.cell? ⟨g2, og2 + k, none⟩ = some (.string ⟨want[k].toArray⟩) := (hkq.cell (p := ⟨g2, og2 + k, none⟩) (lt_of_cell (p := ⟨g2, og2 + k, none⟩) (hcell2 k (.string ⟨want[k].toArray⟩) (by simp [strsV, hkl]))) id).trans (hcell2 k (.string ⟨want[k].toArray⟩) (by simp [strsV, hkl]))
            have hcq := (hkq.cell (p := ⟨g, og + i, none⟩) (lt_of_cell (p := ⟨g, og + i, none⟩) hcw0) id).trans hcw0
            have HB2 : Hid ((b || (pi == want[k])) = (want.take (k + 1)).contains pi) := by
              show _ = _
              rw [HB.out, List.take_succ_eq_append_getElem hkl]
              simp only [List.contains_eq_any_beq, List.any_append, List.any_cons, List.any_nil, Bool.or_false]
            generalize want[k] = wk at *
            clear hcell2 HB
            cases b with
            | false =>
              simp only [Bool.false_or] at HB2
              go_wp2_with fail
              refine wp_region_wq (C := fun w' => Kx (fun _ => False) wr w') 13 (by kernel_rfl) (by kernel_rfl) (Kx.refl _ _).drew ?_
              simp only [List.take_succ_cons, List.take_zero, List.drop_succ_cons, List.drop_zero]
              refine wq_val rfl (.bool false) (fun w' hC => by go_simp) ?_
              simp only [Act.put, List.setIfInBounds_toArray, List.set_cons_succ, List.set_cons_zero]
              refine wq_val rfl (.bool false) (fun w' hC => by go_simp) ?_
              simp only [Act.put, List.setIfInBounds_toArray, List.set_cons_succ, List.set_cons_zero]
              refine wq_valG rfl (.slice (some ⟨g, og, none⟩) l.length cl) (fun w' hC => by go_simp) ?_
              simp only [Act.put, List.setIfInBounds_toArray, List.set_cons_succ, List.set_cons_zero]
              refine wq_valG rfl (.int .i64 (i : Int)) (fun w' hC => by go_simp) ?_
              simp only [Act.put, List.setIfInBounds_toArray, List.set_cons_succ, List.set_cons_zero]
              refine wq_valG rfl (.pointer (some ⟨g, og + i, none⟩)) (fun w' hC => by go_simp) ?_
              simp only [Act.put, List.setIfInBounds_toArray, List.set_cons_succ, List.set_cons_zero]
              refine wq_valG rfl (.string ⟨Li.toArray⟩) (fun w' hC => by
                have hc0 : w'.cell? ⟨g, og + i, none⟩ = some (.string ⟨Li.toArray⟩) := (hC.cell (p := ⟨g, og + i, none⟩) (lt_of_cell (p := ⟨g, og + i, none⟩) hcq) id).trans hcq
                go_simp) ?_
              simp only [Act.put, List.setIfInBounds_toArray, List.set_cons_succ, List.set_cons_zero]
              refine wq_valG rfl (.string ⟨pi.toArray⟩) (fun w' hC => by go_simp) ?_
              simp only [Act.put, List.setIfInBounds_toArray, List.set_cons_succ, List.set_cons_zero]
              refine wq_valG rfl (.slice (some ⟨g2, og2, none⟩) want.length cw) (fun w' hC => by go_simp) ?_
              simp only [Act.put, List.setIfInBounds_toArray, List.set_cons_succ, List.set_cons_zero]
              refine wq_valG rfl (.int .i64 (k : Int)) (fun w' hC => by go_simp) ?_
              simp only [Act.put, List.setIfInBounds_toArray, List.set_cons_succ, List.set_cons_zero]
              refine wq_valG rfl (.pointer (some ⟨g2, og2 + k, none⟩)) (fun w' hC => by go_simp) ?_
              simp only [Act.put, List.setIfInBounds_toArray, List.set_cons_succ, List.set_cons_zero]
              refine wq_valG rfl (.string ⟨wk.toArray⟩) (fun w' hC => by
                have hc0 : w'.cell? ⟨g2, og2 + k, none⟩ = some (.string ⟨wk.toArray⟩) := (hC.cell (p := ⟨g2, og2 + k, none⟩) (lt_of_cell (p := ⟨g2, og2 + k, none⟩) hcw) id).trans hcw
                go_simp) ?_
              simp only [Act.put, List.setIfInBounds_toArray, List.set_cons_succ, List.set_cons_zero]
              refine wq_valG rfl (.bool (pi == wk)) (fun w' hC => by go_simp) ?_
              simp only [Act.put, List.setIfInBounds_toArray, List.set_cons_succ, List.set_cons_zero]
              refine wq_val rfl (.bool (pi == wk)) (fun w' hC => by go_simp) ?_
              simp only [Act.put, List.setIfInBounds_toArray, List.set_cons_succ, List.set_cons_zero]
              refine wq_nil (fun w' hC => ?_)
              have hkG := hkq.trans hC
              clear hkq hC hcq hcw
              generalize (pi == wk) = bb at *
              go_wp2
              go_roundw
              case rel => exact ⟨k + 1, bb, by go_num, rfl, hkl, hkG, HB2⟩
              case measure => simp [intOf]; omega
            | true =>
              simp only [Bool.true_or] at HB2
              go_wp2_with fail
              refine wp_region_wq (C := fun w' => Kx (fun _ => False) wr w') 13 (by kernel_rfl) (by kernel_rfl) (Kx.refl _ _).drew ?_
              simp only [List.take_succ_cons, List.take_zero, List.drop_succ_cons, List.drop_zero]
              refine wq_val rfl (.bool true) (fun w' hC => by go_simp) ?_
              simp only [Act.put, List.setIfInBounds_toArray, List.set_cons_succ, List.set_cons_zero]
              refine wq_val rfl (.bool true) (fun w' hC => by go_simp) ?_
              simp only [Act.put, List.setIfInBounds_toArray, List.set_cons_succ, List.set_cons_zero]
              refine wq_skip (by kernel_rfl) ?_
              simp only [Act.put, List.setIfInBounds_toArray, List.set_cons_succ, List.set_cons_zero]
              refine wq_skip (by kernel_rfl) ?_
              simp only [Act.put, List.setIfInBounds_toArray, List.set_cons_succ, List.set_cons_zero]
              refine wq_skip (by kernel_rfl) ?_
              simp only [Act.put, List.setIfInBounds_toArray, List.set_cons_succ, List.set_cons_zero]
              refine wq_skip (by kernel_rfl) ?_
              simp only [Act.put, List.setIfInBounds_toArray, List.set_cons_succ, List.set_cons_zero]
              refine wq_skip (by kernel_rfl) ?_
              simp only [Act.put, List.setIfInBounds_toArray, List.set_cons_succ, List.set_cons_zero]
              refine wq_skip (by kernel_rfl) ?_
              simp only [Act.put, List.setIfInBounds_toArray, List.set_cons_succ, List.set_cons_zero]
              refine wq_skip (by kernel_rfl) ?_
              simp only [Act.put, List.setIfInBounds_toArray, List.set_cons_succ, List.set_cons_zero]
              refine wq_skip (by kernel_rfl) ?_
              simp only [Act.put, List.setIfInBounds_toArray, List.set_cons_succ, List.set_cons_zero]
              refine wq_skip (by kernel_rfl) ?_
              simp only [Act.put, List.setIfInBounds_toArray, List.set_cons_succ, List.set_cons_zero]
              refine wq_skip (by kernel_rfl) ?_
              simp only [Act.put, List.setIfInBounds_toArray, List.set_cons_succ, List.set_cons_zero]
              refine wq_val rfl (.bool true) (fun w' hC => by go_simp) ?_
              simp only [Act.put, List.setIfInBounds_toArray, List.set_cons_succ, List.set_cons_zero]
              refine wq_nil (fun w' hC => ?_)
              have hkG := hkq.trans hC
              clear hkq hC hcq hcw
              go_wp2
              go_roundw
              case rel => exact ⟨k + 1, true, by go_num, rfl, hkl, hkG, HB2⟩
              case measure => simp [intOf]; omega
          · obtain rfl : k = want.length := by omega
            have hkl2 : ¬ (want.length : Int) < (want.length : Int) := by omega
            obtain rfl : b = true := by
              rw [HB.out, List.take_length]
              exact List.contains_iff_mem.2 HIN.out
            clear HB
            go_wp2
            go_roundw
            case rel => exact ⟨i + 1, by go_num, hlt, hkq⟩
            case measure => simp [intOf]; omega
    · obtain rfl : i = l.length := by omega
      have hlt2 : ¬ (l.length : Int) < (l.length : Int) := by omega
      go_wp2
      go_ret
      exact ⟨rfl, hkx⟩

end Go.Proofs.YtepgoppgblfjbaaGreatDoor

/- Followed: what its calls do to its store. -/
namespace Go.Proofs.YtepgoppgblfjbaaGreatDoor
open Go.RowKit

theorem fol_coOk (gone : Bool) (p : List UInt8) (d : Nat) (hp : p ∈ Pu.pathsL) : CoOk (Pu.folCo gone p d) := by
  have h1 := paths_short p hp
  have h2 := dig_len d
  refine ⟨by show (0:Int) ≤ 1 ∧ (1:Int) ≤ 999; decide, by show Pu.sMain.length ≤ 1000; decide, by show [65].length ≤ 1000; decide, by show [97].length ≤ 1000; decide, by show (0:Int) ≤ 1 ∧ (1:Int) ≤ 9999999999; decide, by show ([] : List UInt8).length ≤ 1000; decide, ⟨by show (0:Int) ≤ 0 ∧ (0:Int) ≤ 999; decide, by show ([] : List UInt8).length ≤ 1000; decide⟩, ⟨by show 0 ≤ 3; decide, fun x hx => by cases hx⟩, ⟨by show 1 ≤ 30; decide, fun x hx => ?_⟩⟩
  obtain rfl := List.mem_singleton.1 (show x ∈ [Pu.folCh gone p d] from hx)
  cases gone with
  | true => exact ⟨by show (0:Int) ≤ 0 ∧ (0:Int) ≤ 999; decide, by show 0 ≤ 20; decide, by show 0 ≤ 1000; decide, by show p.length ≤ 60; omega, by show 0 ≤ 60; decide⟩
  | false => exact ⟨by show (0:Int) ≤ 0 ∧ (0:Int) ≤ 999; decide, by show 6 ≤ 20; decide, by show (Pu.dig d).length ≤ 1000; omega, by show p.length ≤ 60; omega, by show 0 ≤ 60; decide⟩

theorem fol_strOk (gone : Bool) (p : List UInt8) (d : Nat) (hp : p ∈ Pu.pathsL) (hd : d < 30) : StrOk (Pu.folS gone p d) := by
  obtain ⟨h1, h2, h3⟩ := Pu.fol_ok gone p d hp hd
  refine ⟨fun _ => by omega, fun _ => ?_, fun _ => ?_⟩
  · rw [h1]; show 1 ≤ 60; decide
  · rw [h1]
    intro c hc
    obtain rfl := List.mem_singleton.1 hc
    exact fol_coOk gone p d hp

theorem record_len (KK : List Int) (j s : List UInt8) (hs : s.length ≤ 200) : (Pd.record KK j s).length ≤ j.length + 300 := by
  have h1 := Lib.itoa_length_le (s.length : Int) (by omega) (by omega)
  unfold Pd.record Pd.sealOf
  simp only [List.length_append, ofK_len, List.length_cons, List.length_nil]
  omega

/-- The store behind i streams. -/
structure FolC (w wr : World) (s i : Nat) (want : List (List UInt8)) (M : Nat → Prop) (S : St) : Prop where
  str : ∃ h o c r t n j vj, Str M wr s h o c r t n S j vj ∧ n ≤ 800000 * i ∧ j.length ≤ 400 * i
  fi : FI (mainFiles S) want
  ref : ∀ k, k ≠ Pu.sMain → S.ref k = none
  main : 0 < i → ∃ cm, S.ref Pu.sMain = some cm ∧ S.com (Sh.hex cm.sum) = some cm
  new : ∀ k, M k → w.heap.size ≤ k ∧ k < wr.heap.size
  gl : Gl wr
  h7 : 7 ≤ w.heap.size
  kx : Kx (fun _ => False) w wr
  len : want.length ≤ i

theorem FolC.kept {w wr w' : World} {s i : Nat} {want : List (List UInt8)} {M : Nat → Prop} {S : St} (h : FolC w wr s i want M S) (hk : Kx (fun _ => False) wr w') : FolC w w' s i want M S := by
  obtain ⟨hh, o, c, r, t, n, j, vj, h1, h2, h3⟩ := h.str
  exact ⟨⟨hh, o, c, r, t, n, j, vj, h1.kept hk (fun _ _ e => e.elim) (fun _ _ => id), h2, h3⟩, h.fi, h.ref, h.main, fun k e => ⟨(h.new k e).1, Nat.lt_of_lt_of_le (h.new k e).2 hk.size⟩, h.gl.kept hk (fun _ _ => id), h.h7, h.kx.trans hk, h.len⟩

theorem FolC.start {w w1 w2 : World} {s h o c r t : Nat} (hk : Kx (fun _ => False) w w1) (h7 : 7 ≤ w.heap.size) (hgl : Gl w2) (hN : StrNew (fun _ => False) w1 w2 s h o c r t) : FolC w w2 s 0 [] (fun k => False ∨ k = s ∨ Fo o c r t k) St.empty := by
  refine ⟨⟨h, o, c, r, t, 0, [], _, hN.str, by omega, by decide⟩, FI.nil, fun _ _ => rfl, fun h => absurd h (by decide), fun k e => ?_, hgl, h7, hk.trans hN.kx, by decide⟩
  have h1 := hN.new
  have h2 := hk.size
  refine ⟨?_, (hN.str.sto.lowM k e).2⟩
  rcases e with e | e | e
  · exact e.elim
  · omega
  · unfold Fo at e; omega

theorem fol_import {w wr : World} {s i : Nat} {want : List (List UInt8)} {M : Nat → Prop} {S : St} (hC : FolC w wr s i want M S) (gone : Bool) (p : List UInt8) (d : Nat) (hp : p ∈ Pu.pathsL) (hd : d < 30) (hi : i < 20) :
    Calls Tryz.prog 24 #[.pointer (some ⟨s, 0, none⟩), .string ⟨(Pu.folS gone p d).toArray⟩] wr fun e w' => e = .returned (.tuple #[.int .i64 1, .int .i64 0]) ∧ ∃ M' S', FolC w w' s (i + 1) (folWant gone p want) M' S' ∧ (∀ k, M' k → M k ∨ wr.heap.size ≤ k) ∧ Kx M wr w' := by
  obtain ⟨h, o, c, r, t, n, j, vj, hs, hn, hj⟩ := hC.str
  have hmx : maxLen = 9223372036854775807 := rfl
  obtain ⟨e1, e2, e3⟩ := Pu.fol_ok gone p d hp hd
  have hfl : (mainFiles S).length ≤ 59 := by
    have := hC.fi.perm.length_eq
    have := hC.len
    simp at *
    omega
  obtain ⟨cm, g1, g2, g3, g4⟩ := fol_imp Sh.K S gone p d hp hd hfl
  refine (import_any hs hC.gl (Pu.folS gone p d) (fol_strOk gone p d hp hd) (by omega) (by omega) (by omega)).mono ?_
  rintro e w' ⟨rfl, vj', hI⟩
  rw [g1]
  refine ⟨rfl, (fun k => M k ∨ vj'.ownBlock = some k), (Pd.imp Sh.K S (Pu.folS gone p d)).2, ?_, ?_, ?_⟩
  · have hstr := hI.str
    rw [g1] at hstr
    simp only [if_true] at hstr
    have hkx : Kx (fun _ => False) w w' := hC.kx.join hI.kx (fun k hk e => by
      have := (hC.new k (hs.inX k e)).1
      omega)
    have hlow : ∀ k, k < 3 → ¬ StX s o c r t vj k := fun k hk e => by
      have := (hs.sto.lowM k (hs.inX k e)).1
      omega
    refine ⟨⟨h, o, c, r, t, n + 800000, _, vj', hstr, by omega, ?_⟩, ?_, ?_, ?_, ?_, hC.gl.kept hI.kx hlow, hC.h7, hkx, ?_⟩
    · have := record_len Sh.K j _ e3
      omega
    · have hmf : mainFiles (Pd.imp Sh.K S (Pu.folS gone p d)).2 = folFiles Sh.K gone p d (mainFiles S) := by
        conv => lhs; unfold mainFiles
        rw [g2, upd_same, ← g4]
        rfl
      rw [hmf]
      exact hC.fi.step Sh.K gone p d hp
    · intro k hk
      rw [g2, upd_other _ _ _ _ hk]
      exact hC.ref k hk
    · intro _
      exact ⟨cm, by rw [g2, upd_same], by rw [g3, upd_same]⟩
    · intro k e
      have h2 := (hstr.sto.lowM k e).2
      refine ⟨?_, h2⟩
      rcases e with e | e
      · exact (hC.new k e).1
      · rcases hI.row k e with e | e
        · exact (hC.new k (hs.inV k e)).1
        · exact Nat.le_trans hC.kx.size e
    · have := folWant_len gone p want
      have := hC.len
      omega
  · intro k e
    rcases e with e | e
    · exact .inl e
    · exact (hI.row k e).imp (hs.inV k) id
  · exact hI.kx.mono (fun k _ e => hs.inX k e)

theorem fol_refs {w wr : World} {s i : Nat} {want : List (List UInt8)} {M : Nat → Prop} {S : St} (hC : FolC w wr s i want M S) (hi : 0 < i) (hi2 : i ≤ 20) :
    Calls Tryz.prog 26 #[.pointer (some ⟨s, 0, none⟩)] wr fun e w' => ∃ g og cv, e = .returned (.slice (some ⟨g, og, none⟩) 1 cv) ∧ w'.cell? ⟨g, og + 1, none⟩ = some (.string ⟨(idAt S.ref Pu.sMain).toArray⟩) ∧ Kx (fun _ => False) wr w' := by
  obtain ⟨h, o, c, r, t, n, j, vj, hs, hn, hj⟩ := hC.str
  obtain ⟨cm, m1, m2⟩ := hC.main hi
  refine (refs_any' hs (by omega)).mono ?_
  rintro e w' ⟨v, ks, rfl, hK, _, hrow, hk⟩
  obtain rfl := Ex.refs (fun k => ⟨fun e => Classical.byContradiction (fun hne => by rw [hC.ref k hne] at e; exact absurd e (by decide)), fun e => (by subst e; rw [m1]; rfl)⟩) hK
  obtain ⟨q, cv, rfl, _, hr⟩ := Reads.of_own hrow
  obtain ⟨g, og, rfl, hcell⟩ := hr (by decide)
  exact ⟨g, og, cv, rfl, hcell 1 _ rfl, hk⟩

theorem fol_files {w wr : World} {s i : Nat} {want : List (List UInt8)} {M : Nat → Prop} {S : St} (hC : FolC w wr s i want M S) (hi : 0 < i) :
    Calls Tryz.prog 27 #[.pointer (some ⟨s, 0, none⟩), .string ⟨(idAt S.ref Pu.sMain).toArray⟩] wr fun e w' => ∃ al cl, e = .returned (.tuple #[.slice al (mainFiles S).length cl, .int .i64 0]) ∧ Reads w' (.slice al (mainFiles S).length cl) (mainFiles S).length (linesV (mainFiles S)) ∧ Kx (fun _ => False) wr w' := by
  obtain ⟨h, o, c, r, t, n, j, vj, hs, hn, hj⟩ := hC.str
  obtain ⟨cm, m1, m2⟩ := hC.main hi
  have hid : idAt S.ref Pu.sMain = Sh.hex cm.sum := by
    unfold idAt
    rw [m1]
    rfl
  have hmf : mainFiles S = cm.files := by
    unfold mainFiles
    rw [m1]
    rfl
  rw [hid, hmf]
  refine (files_any hs (Sh.hex cm.sum) ?_).mono ?_
  · obtain ⟨fr, _, hF⟩ := hs.sto.ref
    obtain ⟨b, _, hcm⟩ := (hF Pu.sMain).2 cm m1
    rw [hex_len, hcm.sum]
    decide
  rintro e w' ⟨hF, hk⟩
  rw [m2] at hF
  obtain ⟨v, rfl, hrow⟩ := hF
  have hR := Reads.of_own hrow
  obtain ⟨q, cv, rfl, _⟩ := id hR
  exact ⟨q, cv, rfl, hR, hk⟩

end Go.Proofs.YtepgoppgblfjbaaGreatDoor
