import Derived.Test.YtepgoppgblfjbaaGreatDoorGw08
import Derived.Sort.KeysCollected
import Derived.Test.YtepgoppgblfjbaaGreatDoorGw01
namespace Go.Proofs.YtepgoppgblfjbaaGreatDoor
open Go.RowKit

namespace Pf
def copyE (a b : List UInt8) (l : List Fi) : Int := if takenE a b l = 0 then withE (withoutAround b l ++ taken a b l) else takenE a b l
def copy (a b : List UInt8) (l : List Fi) : List Fi := sortF (withoutAround b l ++ taken a b l)
def moveE (a b : List UInt8) (l : List Fi) : Int := if takenE a b l = 0 then withE (withoutAround b (delete a l) ++ taken a b l) else takenE a b l
def moved (a b : List UInt8) (l : List Fi) : List Fi := sortF (withoutAround b (delete a l) ++ taken a b l)
end Pf

theorem without_len (gone : List UInt8 → Bool) (l : List Fi) : (Pf.without gone l).length ≤ l.length := List.length_filter_le _ _

theorem takenE_ne {a b : List UInt8} {l : List Fi} (h : Pf.takenE a b l = 0) : Pf.taken a b l ≠ [] := by
  intro e
  unfold Pf.takenE at h
  rw [if_pos e] at h
  exact absurd h (by decide)

set_option maxHeartbeats 1600000 in
set_option maxRecDepth 100000 in
theorem copy_any (l : List Fi) (a b : List UInt8) (v : Value) (w : World) (hF : Fs w v l) (hl : l.length ≤ 500) (hpl : ∀ f ∈ l, f.path.length ≤ 1000) (hbl : b.length ≤ 1000)
    (hnd : ((Pf.withoutAround b l ++ Pf.taken a b l).map Fi.path).Nodup) :
    Calls Tryz.prog 345 #[v, .string ⟨a.toArray⟩, .string ⟨b.toArray⟩] w fun e w' => (∃ v', e = .returned (.tuple #[v', .int .i64 (Pf.copyE a b l)]) ∧ (Pf.copyE a b l = 0 → w'.ownsRow w.heap.size 114 3 v' (Pf.copy a b l).length (cellsF (Pf.copy a b l)))) ∧ Kx (fun _ => False) w w' := by
  have htk := taken_any l a b v w hF (by omega) hpl hbl
  have HE : Hid (Pf.copyE a b l = if Pf.takenE a b l = 0 then Pf.withE (Pf.withoutAround b l ++ Pf.taken a b l) else Pf.takenE a b l) := rfl
  have HC : Hid (Pf.copy a b l = Pf.sortF (Pf.withoutAround b l ++ Pf.taken a b l)) := rfl
  have HN : Hid (((Pf.withoutAround b l ++ Pf.taken a b l).map Fi.path).Nodup) := hnd
  have hl1 : (Pf.withoutAround b l).length ≤ 500 := Nat.le_trans (without_len _ _) hl
  have hl2 : (Pf.taken a b l).length ≤ 500 := Nat.le_trans (taken_len _ _ _) hl
  have HT : Hid (Pf.takenE a b l = 0 → Pf.taken a b l ≠ []) := takenE_ne
  clear hnd
  generalize Pf.copyE a b l = E at *
  generalize Pf.copy a b l = C at *
  generalize Pf.takenE a b l = T at *
  generalize Pf.taken a b l = t at *
  go_enter Tryz.func345, Tryz.ntmps345
  go_wp2_with fail
  refine htk.mono ?_
  rintro e w2 ⟨⟨v2, rfl, ho2⟩, hk2⟩
  clear htk
  by_cases hT : T = 0
  · subst hT
    have ho3 := ho2 rfl
    have hF2 := hF.kept hk2 (fun _ _ => id)
    have hw := withoutAround_any l b v w2 hF2 (by omega)
    have HE2 : Hid (E = Pf.withE (Pf.withoutAround b l ++ t)) := by
      have := HE.out; rw [if_pos rfl] at this; exact this
    have hne := HT.out rfl
    clear HE ho2 HT
    go_wp2_with fail
    refine hw.mono ?_
    rintro e w3 ⟨⟨v3, rfl, ho4⟩, hk3⟩
    have hk4 := hk2.trans hk3
    have hFt : Fs w3 v2 t := (Fs.of_own ho3).kept hk3 (fun _ _ => id)
    have hcon := with_any (Pf.withoutAround b l) t v3 v2 w3 (Fs.of_own ho4) hFt hl1 hl2 hne HN.out
    clear hw ho4 hFt ho3 hk3 hne
    go_wp2_with fail
    refine hcon.mono ?_
    rintro e w5 ⟨⟨v5, rfl, ho5⟩, hk5⟩
    have hk6 := hk4.trans hk5
    have hsz := hk4.size
    clear hcon hk5
    rw [← HE2.out] at ho5 ⊢
    rw [← HC.out] at ho5
    go_wp2
    go_ret2
    exact ⟨⟨_, rfl, fun h => own_mono (ho5 h) hsz⟩, hk6⟩
  · have HE2 : Hid (E = T) := by
      have := HE.out; rw [if_neg hT] at this; exact this
    have HT0 : Hid (¬ T = 0) := hT
    clear HE HT
    go_wp2
    go_ret2
    rw [HE2.out]
    exact ⟨⟨_, rfl, fun h => absurd h HT0.out⟩, hk2⟩

set_option maxHeartbeats 1600000 in
set_option maxRecDepth 100000 in
theorem move_any (l : List Fi) (a b : List UInt8) (v : Value) (w : World) (hF : Fs w v l) (hl : l.length ≤ 500) (hpl : ∀ f ∈ l, f.path.length ≤ 1000) (hbl : b.length ≤ 1000)
    (hnd : ((Pf.withoutAround b (Pf.delete a l) ++ Pf.taken a b l).map Fi.path).Nodup) :
    Calls Tryz.prog 346 #[v, .string ⟨a.toArray⟩, .string ⟨b.toArray⟩] w fun e w' => (∃ v', e = .returned (.tuple #[v', .int .i64 (Pf.moveE a b l)]) ∧ (Pf.moveE a b l = 0 → w'.ownsRow w.heap.size 114 3 v' (Pf.moved a b l).length (cellsF (Pf.moved a b l)))) ∧ Kx (fun _ => False) w w' := by
  have htk := taken_any l a b v w hF (by omega) hpl hbl
  have HE : Hid (Pf.moveE a b l = if Pf.takenE a b l = 0 then Pf.withE (Pf.withoutAround b (Pf.delete a l) ++ Pf.taken a b l) else Pf.takenE a b l) := rfl
  have HC : Hid (Pf.moved a b l = Pf.sortF (Pf.withoutAround b (Pf.delete a l) ++ Pf.taken a b l)) := rfl
  have HN : Hid (((Pf.withoutAround b (Pf.delete a l) ++ Pf.taken a b l).map Fi.path).Nodup) := hnd
  have hl0 : (Pf.delete a l).length ≤ 500 := Nat.le_trans (without_len _ _) hl
  have hl1 : (Pf.withoutAround b (Pf.delete a l)).length ≤ 500 := Nat.le_trans (without_len _ _) hl0
  have hl2 : (Pf.taken a b l).length ≤ 500 := Nat.le_trans (taken_len _ _ _) hl
  have HT : Hid (Pf.takenE a b l = 0 → Pf.taken a b l ≠ []) := takenE_ne
  clear hnd
  generalize Pf.moveE a b l = E at *
  generalize Pf.moved a b l = C at *
  generalize Pf.takenE a b l = T at *
  generalize Pf.taken a b l = t at *
  go_enter Tryz.func346, Tryz.ntmps346
  go_wp2_with fail
  refine htk.mono ?_
  rintro e w2 ⟨⟨v2, rfl, ho2⟩, hk2⟩
  clear htk
  by_cases hT : T = 0
  · subst hT
    have ho3 := ho2 rfl
    have hF2 := hF.kept hk2 (fun _ _ => id)
    have hd := delete_any l a v w2 hF2 (by omega)
    have HE2 : Hid (E = Pf.withE (Pf.withoutAround b (Pf.delete a l) ++ t)) := by
      have := HE.out; rw [if_pos rfl] at this; exact this
    have hne := HT.out rfl
    clear HE ho2 HT
    go_wp2_with fail
    refine hd.mono ?_
    rintro e wd ⟨⟨vd, rfl, hod⟩, hkd⟩
    have hkd2 := hk2.trans hkd
    have hFd : Fs wd v2 t := (Fs.of_own ho3).kept hkd (fun _ _ => id)
    have hw := withoutAround_any (Pf.delete a l) b vd wd (Fs.of_own hod) (by omega)
    clear hd hod ho3 hkd
    go_wp2_with fail
    refine hw.mono ?_
    rintro e w3 ⟨⟨v3, rfl, ho4⟩, hk3⟩
    have hk4 := hkd2.trans hk3
    have hFt : Fs w3 v2 t := hFd.kept hk3 (fun _ _ => id)
    have hcon := with_any (Pf.withoutAround b (Pf.delete a l)) t v3 v2 w3 (Fs.of_own ho4) hFt hl1 hl2 hne HN.out
    clear hw ho4 hFt hk3 hne hFd
    go_wp2_with fail
    refine hcon.mono ?_
    rintro e w5 ⟨⟨v5, rfl, ho5⟩, hk5⟩
    have hk6 := hk4.trans hk5
    have hsz := hk4.size
    clear hcon hk5
    rw [← HE2.out] at ho5 ⊢
    rw [← HC.out] at ho5
    go_wp2
    go_ret2
    exact ⟨⟨_, rfl, fun h => own_mono (ho5 h) hsz⟩, hk6⟩
  · have HE2 : Hid (E = T) := by
      have := HE.out; rw [if_neg hT] at this; exact this
    have HT0 : Hid (¬ T = 0) := hT
    clear HE HT
    go_wp2
    go_ret2
    rw [HE2.out]
    exact ⟨⟨_, rfl, fun h => absurd h HT0.out⟩, hk2⟩

namespace Pf
def put (f : Fi) (l : List Fi) : List Fi := sortF (withoutAround f.path l ++ [f])
def putE (f : Fi) (l : List Fi) : Int := withE (withoutAround f.path l ++ [f])
end Pf

theorem box_cells {w w3 : World} {a b c : Value} (h : Kx (fun _ => False) (w.alloc (.cells #[a, b, c] 114)) w3) :
    w3.cell? ⟨w.heap.size, 0, none⟩ = some a ∧ w3.cell? ⟨w.heap.size, 1, none⟩ = some b ∧ w3.cell? ⟨w.heap.size, 2, none⟩ = some c := by
  have hs : ∀ i, (⟨w.heap.size, i, none⟩ : Addr).block < (w.alloc (.cells #[a, b, c] 114)).heap.size := fun i => by rw [World.size_alloc]; exact Nat.lt_succ_self _
  refine ⟨(h.cell (hs 0) id).trans ?_, (h.cell (hs 1) id).trans ?_, (h.cell (hs 2) id).trans ?_⟩ <;> rw [World.cell?_alloc_at _ _ _ _ rfl] <;> rfl

theorem one_fs (w : World) (fp fm fs : List UInt8) : Fs (w.alloc (.cells #[.string ⟨fp.toArray⟩, .string ⟨fm.toArray⟩, .string ⟨(Sh.hex fs).toArray⟩] 114)) (.slice (some ⟨w.heap.size, 0, none⟩) 1 1) [⟨fp, fm, fs⟩] := by
  refine ⟨_, _, rfl, Nat.le_refl _, fun _ => ⟨_, _, rfl, fun k x hx => ?_⟩, fun h => by cases h⟩
  rw [Nat.zero_add, World.cell?_alloc_at _ _ _ _ rfl]
  have e : cellsF [⟨fp, fm, fs⟩] = [.string ⟨fp.toArray⟩, .string ⟨fm.toArray⟩, .string ⟨(Sh.hex fs).toArray⟩] := rfl
  rw [e] at hx
  rw [← List.getElem?_toArray] at hx
  exact hx

theorem one_fs2 (w : World) (b : Nat) (fp fm fs : List UInt8) (hb : b = w.heap.size) : Fs (w.alloc (.cells #[.string ⟨fp.toArray⟩, .string ⟨fm.toArray⟩, .string ⟨(Sh.hex fs).toArray⟩] 114)) (.slice (some ⟨b, 0, none⟩) 1 1) [⟨fp, fm, fs⟩] := by
  subst hb
  exact one_fs w fp fm fs

theorem put_last (l : List Fi) (fp fm fs : List UInt8) (E : Int) (C : List Fi) (base : Nat) (v3 xv : Value) (w W : World) (hk : Kx (fun _ => False) w W) (hl1 : (Pf.withoutAround fp l).length ≤ 500)
    (HN : Hid (((Pf.withoutAround fp l ++ [(⟨fp, fm, fs⟩ : Fi)]).map Fi.path).Nodup)) (HE : Hid (E = Pf.withE (Pf.withoutAround fp l ++ [(⟨fp, fm, fs⟩ : Fi)]))) (HC : Hid (C = Pf.sortF (Pf.withoutAround fp l ++ [(⟨fp, fm, fs⟩ : Fi)])))
    (ho : W.ownsRow base 114 3 v3 (Pf.withoutAround fp l).length (cellsF (Pf.withoutAround fp l))) (hx : Fs W xv [(⟨fp, fm, fs⟩ : Fi)]) :
    Calls Tryz.prog 373 #[v3, xv] W fun e w' => (∃ v', e = .returned (.tuple #[v', .int .i64 E]) ∧ (E = 0 → w'.ownsRow w.heap.size 114 3 v' C.length (cellsF C))) ∧ Kx (fun _ => False) w w' := by
  rw [HE.out, HC.out]
  refine (with_any (Pf.withoutAround fp l) [(⟨fp, fm, fs⟩ : Fi)] v3 xv W (Fs.of_own ho) hx hl1 (by simp) (by simp) HN.out).mono ?_
  rintro e w5 ⟨⟨v5, rfl, ho5⟩, hk5⟩
  exact ⟨⟨v5, rfl, fun h => own_mono (ho5 h) hk.size⟩, hk.trans hk5⟩

set_option maxHeartbeats 3200000 in
set_option maxRecDepth 100000 in
theorem put_any (l : List Fi) (f : Fi) (v : Value) (w : World) (hF : Fs w v l) (hl : l.length ≤ 500)
    (hnd : ((Pf.withoutAround f.path l ++ [f]).map Fi.path).Nodup) :
    Calls Tryz.prog 343 #[v, .agg f.cells.toArray] w fun e w' => (∃ v', e = .returned (.tuple #[v', .int .i64 (Pf.putE f l)]) ∧ (Pf.putE f l = 0 → w'.ownsRow w.heap.size 114 3 v' (Pf.put f l).length (cellsF (Pf.put f l)))) ∧ Kx (fun _ => False) w w' := by
  have HN : Hid (((Pf.withoutAround f.path l ++ [f]).map Fi.path).Nodup) := hnd
  have HE : Hid (Pf.putE f l = Pf.withE (Pf.withoutAround f.path l ++ [f])) := rfl
  have HC : Hid (Pf.put f l = Pf.sortF (Pf.withoutAround f.path l ++ [f])) := rfl
  have hl1 : (Pf.withoutAround f.path l).length ≤ 500 := Nat.le_trans (without_len _ _) hl
  clear hnd
  generalize Pf.putE f l = E at *
  generalize Pf.put f l = C at *
  obtain ⟨fp, fm, fs⟩ := f
  unfold Fi.cells
  simp only at *
  obtain ⟨q1, k1, e1, hk1, _⟩ := id hF
  subst e1
  go_enter Tryz.func343, Tryz.ntmps343
  go_wp2_with fail
  have HK : ∀ W, Hid (Kx (fun _ => False) (w.alloc (.cells #[.string ⟨fp.toArray⟩, .string ⟨fm.toArray⟩, .string ⟨(Sh.hex fs).toArray⟩] 114)) W → Kx (fun _ => False) w W) := fun W h => ((Kx.refl _ _).alloc _).trans h
  go_region_with (first
    | (go_at_call 359; refine (withoutAround_any l fp _ _ (hF.kept (by first | exact ((Kx.refl _ _).alloc _).drew | exact (((Kx.refl _ _).alloc _).alloc _).drew | exact (((Kx.refl _ _).alloc _).drew).alloc _ | exact (Kx.refl _ _).alloc _) (fun _ _ => id)) (by omega)).mono ?_; rintro e w3 ⟨⟨v3, rfl, ho3⟩, hk3⟩; have hkk : Kx (fun _ => False) (w.alloc (.cells #[.string ⟨fp.toArray⟩, .string ⟨fm.toArray⟩, .string ⟨(Sh.hex fs).toArray⟩] 114)) w3 := Kx.trans (by first | exact (Kx.refl _ _).drew | exact ((Kx.refl _ _).alloc _).drew | exact ((Kx.refl _ _).drew).alloc _ | exact Kx.refl _ _) hk3; obtain ⟨d0, d1, d2⟩ := box_cells hkk)
    | (go_at_call 373; refine (put_last l fp fm fs E C _ _ _ w _ (by first | exact (HK _).out hkk | exact ((HK _).out hkk).alloc _) hl1 HN HE HC (by first | exact ho3 | exact ho3.alloc _) (by first | exact one_fs _ _ _ _ | exact (one_fs2 _ _ _ _ _ (by rw [World.size_alloc])).kept hk3 (fun _ _ => id) | exact (one_fs2 _ _ _ _ _ (by rw [World.size_alloc])).kept ((Kx.refl _ _).drew.trans hk3) (fun _ _ => id) | exact (one_fs2 _ _ _ _ _ (by exact (World.size_alloc _ _).symm)).kept hk3 (fun _ _ => id))).mono ?_; rintro e w5 ⟨⟨v5, rfl, ho5⟩, hk5⟩))
  all_goals go_wp2
  all_goals go_ret2
  all_goals exact ⟨⟨_, rfl, ho5⟩, hk5⟩

def Own1 (l : List Fi) : Prop := (l.map Fi.path).Nodup

theorem within_iff (p t : List UInt8) : Pf.within p t = true ↔ ∃ r, p = t ++ r ∧ (r = [] ∨ ∃ s, r = 47 :: s) := by
  unfold Pf.within Lib.trimPrefix Lib.hasPrefix
  constructor
  · intro h
    rw [Bool.and_eq_true] at h
    obtain ⟨h1, h2⟩ := h
    rw [if_pos h1] at h2
    obtain ⟨r, rfl⟩ := List.isPrefixOf_iff_prefix.1 h1
    refine ⟨r, rfl, ?_⟩
    rw [List.drop_left] at h2
    cases r with
    | nil => exact .inl rfl
    | cons c s =>
      have : c = 47 := by simpa using h2
      exact .inr ⟨s, by rw [this]⟩
  · rintro ⟨r, rfl, hr⟩
    have h1 : t.isPrefixOf (t ++ r) = true := List.isPrefixOf_iff_prefix.2 ⟨r, rfl⟩
    rw [if_pos h1, h1, List.drop_left]
    rcases hr with rfl | ⟨s, rfl⟩ <;> rfl

theorem move_within {a b p : List UInt8} (h : Pf.within p a = true) : ∃ r, p = a ++ r ∧ Pf.move a b p = b ++ r ∧ Pf.within (Pf.move a b p) b = true := by
  obtain ⟨r, rfl, hr⟩ := (within_iff _ _).1 h
  have h1 : a.isPrefixOf (a ++ r) = true := List.isPrefixOf_iff_prefix.2 ⟨r, rfl⟩
  have e : Pf.move a b (a ++ r) = b ++ r := by
    unfold Pf.move Lib.trimPrefix Lib.hasPrefix
    rw [if_pos h1, List.drop_left]
  exact ⟨r, rfl, e, by rw [e]; exact (within_iff _ _).2 ⟨r, rfl, hr⟩⟩

theorem taken_mem {a b : List UInt8} {l : List Fi} {g : Fi} (h : g ∈ Pf.taken a b l) : ∃ f ∈ l, Pf.within f.path a = true ∧ g = { f with path := Pf.move a b f.path } := by
  induction l with
  | nil => cases h
  | cons f r ih =>
    unfold Pf.taken at h
    by_cases hw : Pf.within f.path a = true
    · rw [if_pos hw] at h
      rcases List.mem_cons.1 h with rfl | h
      · exact ⟨f, List.mem_cons_self .., hw, rfl⟩
      · obtain ⟨f', hf', x⟩ := ih h
        exact ⟨f', List.mem_cons_of_mem _ hf', x⟩
    · rw [if_neg hw] at h
      obtain ⟨f', hf', x⟩ := ih h
      exact ⟨f', List.mem_cons_of_mem _ hf', x⟩

theorem Own1.taken {a b : List UInt8} : ∀ {l : List Fi}, Own1 l → Own1 (Pf.taken a b l)
  | [], _ => List.Pairwise.nil
  | f :: r, h => by
    have hc : (f.path :: r.map Fi.path).Nodup := h
    obtain ⟨h1, h2⟩ := List.nodup_cons.1 hc
    have ih : Own1 (Pf.taken a b r) := Own1.taken h2
    unfold Pf.taken
    by_cases hw : Pf.within f.path a = true
    · rw [if_pos hw]
      refine List.nodup_cons.2 ⟨fun hm => ?_, ih⟩
      obtain ⟨g, hg, e⟩ := List.mem_map.1 hm
      obtain ⟨f', hf', hw', rfl⟩ := taken_mem hg
      obtain ⟨x, hx, ex, _⟩ := move_within (b := b) hw
      obtain ⟨y, hy, ey, _⟩ := move_within (b := b) hw'
      have e' : b ++ y = b ++ x := by rw [← ex, ← ey]; exact e
      have exy : y = x := List.append_cancel_left e'
      exact h1 (List.mem_map.2 ⟨f', hf', by rw [hy, hx, exy]⟩)
    · rw [if_neg hw]; exact ih

theorem Own1.without {gone : List UInt8 → Bool} {l : List Fi} (h : Own1 l) : Own1 (Pf.without gone l) :=
  List.Nodup.sublist (List.Sublist.map _ List.filter_sublist) h

theorem own_join {b : List UInt8} {l0 t : List Fi} (h0 : Own1 l0) (ht : Own1 t) (hw : ∀ g ∈ t, Pf.within g.path b = true) : Own1 (Pf.withoutAround b l0 ++ t) := by
  unfold Own1
  rw [List.map_append]
  refine List.nodup_append.2 ⟨Own1.without h0, ht, ?_⟩
  rintro x hx y hy rfl
  obtain ⟨f, hf, rfl⟩ := List.mem_map.1 hx
  obtain ⟨g, hg, e⟩ := List.mem_map.1 hy
  have hgone : (!(Pf.within f.path b || Pf.within b f.path)) = true := (List.mem_filter.1 hf).2
  have := hw g hg
  rw [e] at this
  rw [this] at hgone
  exact absurd hgone (by simp)

theorem own_copy {a b : List UInt8} {l0 l : List Fi} (h0 : Own1 l0) (h : Own1 l) : Own1 (Pf.withoutAround b l0 ++ Pf.taken a b l) :=
  own_join h0 h.taken (fun g hg => by
    obtain ⟨f, _, hw, rfl⟩ := taken_mem hg
    obtain ⟨_, _, _, h⟩ := move_within (b := b) hw
    exact h)

theorem own_put {f : Fi} {l : List Fi} (h : Own1 l) : Own1 (Pf.withoutAround f.path l ++ [f]) :=
  own_join h (List.nodup_cons.2 ⟨List.not_mem_nil, List.Pairwise.nil⟩) (fun g hg => by
    obtain rfl : g = f := by simpa using hg
    exact (within_iff _ _).2 ⟨[], by simp, .inl rfl⟩)

theorem Own1.sortF {l : List Fi} (h : Own1 l) : Own1 (Pf.sortF l) := ((sortF_perm l).map Fi.path).nodup_iff.2 h

theorem Own1.put {f : Fi} {l : List Fi} (h : Own1 l) : Own1 (Pf.put f l) := (own_put h).sortF
theorem Own1.copy {a b : List UInt8} {l : List Fi} (h : Own1 l) : Own1 (Pf.copy a b l) := (own_copy h h).sortF
theorem Own1.delete {a : List UInt8} {l : List Fi} (h : Own1 l) : Own1 (Pf.delete a l) := h.without
theorem Own1.moved {a b : List UInt8} {l : List Fi} (h : Own1 l) : Own1 (Pf.moved a b l) := (own_copy h.delete h).sortF

end Go.Proofs.YtepgoppgblfjbaaGreatDoor
namespace Go.Proofs.YtepgoppgblfjbaaGreatDoor
open Go.RowKit Go.Maps Go.WideMaps

def Rv (v : Value) : Option (DataW Value × List MemPlace) := some (.held v, [])

def heldOr (x : Option Value) (zd : DataW Value) : DataW Value := match x with | some v => .held v | none => zd

def MapS (P : Program) (K : TypeId) (w : World) (b n : Nat) (f : List UInt8 → Option Value) : Prop :=
  ∃ D : DataW Value, w.ownsMap P K Rv b n D ∧ ∀ k zd, D.atKey (.string k) zd = heldOr (f k) zd

def MapI (P : Program) (K : TypeId) (w : World) (b n : Nat) (f : Int → Option Value) : Prop :=
  ∃ D : DataW Value, w.ownsMap P K Rv b n D ∧ ∀ k zd, D.atKey (.int .i64 k) zd = heldOr (f k) zd

def upd {α β : Type} [DecidableEq α] (f : α → Option β) (k : α) (v : Option β) : α → Option β := fun x => if x = k then v else f x

theorem upd_same {α β : Type} [DecidableEq α] (f : α → Option β) (k : α) (v : Option β) : upd f k v k = v := by simp [upd]
theorem upd_other {α β : Type} [DecidableEq α] (f : α → Option β) (k x : α) (v : Option β) (h : x ≠ k) : upd f k v x = f x := by simp [upd, h]

section
variable {P : Program} {K : TypeId} {w w' : World} {b n : Nat} {f : List UInt8 → Option Value} {g : Int → Option Value}

theorem MapS.lt (h : MapS P K w b n f) : b < w.heap.size := by obtain ⟨D, h, _⟩ := h; exact h.lt
theorem MapI.lt (h : MapI P K w b n g) : b < w.heap.size := by obtain ⟨D, h, _⟩ := h; exact h.lt
theorem MapS.mono (h : MapS P K w b n f) {m : Nat} (hm : n ≤ m) : MapS P K w b m f := by obtain ⟨D, h, ha⟩ := h; exact ⟨D, h.mono hm, ha⟩
theorem MapI.mono (h : MapI P K w b n g) {m : Nat} (hm : n ≤ m) : MapI P K w b m g := by obtain ⟨D, h, ha⟩ := h; exact ⟨D, h.mono hm, ha⟩

theorem ownsMap_kx {R : Value → Option (DataW Value × List MemPlace)} {D : DataW Value} {X : Nat → Prop} (h : w.ownsMap P K R b n D) (hk : Kx X w w') (hX : ¬ X b) : w'.ownsMap P K R b n D := by
  have hlt := h.lt
  obtain ⟨es, clock, hb, r⟩ := h
  exact ⟨es, clock, (hk.block b hlt hX).trans hb, r⟩

theorem MapS.kept {X : Nat → Prop} (h : MapS P K w b n f) (hk : Kx X w w') (hX : ¬ X b) : MapS P K w' b n f := by obtain ⟨D, h, ha⟩ := h; exact ⟨D, ownsMap_kx h hk hX, ha⟩
theorem MapI.kept {X : Nat → Prop} (h : MapI P K w b n g) (hk : Kx X w w') (hX : ¬ X b) : MapI P K w' b n g := by obtain ⟨D, h, ha⟩ := h; exact ⟨D, ownsMap_kx h hk hX, ha⟩

theorem MapS.made (w : World) : MapS P K (w.alloc (.map #[] 0)) w.heap.size 0 (fun _ => none) :=
  ⟨.map [], World.ownsMap_made w P K Rv, fun _ _ => rfl⟩
theorem MapI.made (w : World) : MapI P K (w.alloc (.map #[] 0)) w.heap.size 0 (fun _ => none) :=
  ⟨.map [], World.ownsMap_made w P K Rv, fun _ _ => rfl⟩

theorem has_of_heldOr {D : DataW Value} {kl : Lit} {x : Option Value} (h : ∀ zd, D.atKey kl zd = heldOr x zd) : has D kl = x.isSome := by
  cases x with
  | none => exact has_false_of_atKey h
  | some v => exact has_true_of_atKey h

theorem held_of {v : Value} {x : Option Value} {z : Value} {ps : List MemPlace} (h : Rv v = some (heldOr x (.held z), ps)) : v = x.getD z := by
  unfold Rv at h
  cases x with
  | none => simp [heldOr] at h; exact h.1
  | some u => simp [heldOr] at h; exact h.1

theorem Kx.of_grown {row : Option Nat} (h : w.grownBy w' row) : Kx (fun k => some k = row) w w' := ⟨h.os, h.tape, h.output, h.size, fun k hk hx => h.block k hk hx⟩

section
variable {ops : Array Oper} {rest : List Oper} {o : Oper} {a : Act} {Q : Exit → Act → World → Prop}

theorem wpList_lookS (hg : o.guard = none) (m x : Operand) (t : TypeId) (hop : o.op = Op.lookup t m x false) (e : TypeId) (hK : P.underlying K = some .string) (ht : P.underlying t = some (.map K e)) (z : Value) (hz : (zeroValue e).run P w = .ok z w)
    (b n : Nat) (f : List UInt8 → Option Value) (hm : a.eval m = .map (some b)) (h : MapS P K w b n f) (k : List UInt8) (hx : a.eval x = .string ⟨k.toArray⟩) (hk : k.length ≤ maxLen)
    (hc : wpList P ops Q rest (a.put o.dst ((f k).getD z)) w) : wpList P ops Q (o :: rest) a w := by
  obtain ⟨D, hown, ha⟩ := h
  refine wpList_plain hg fun K' hK' => ?_
  obtain ⟨v, ps, hrun, hv⟩ := hown.lookup (string_keyed hK) ht hz (zd := .held z) (zp := []) rfl (keyOf_string_mk (s := ⟨k.toArray⟩) hK (by simpa [ByteArray.size] using hk))
  rw [show (⟨k.toArray⟩ : ByteArray).data.toList = k from rfl, ha] at hv
  obtain rfl := held_of hv
  unfold Oper.wp
  simp [execOp, hop, hm, hx, hrun, Result.andThen]
  exact hK' _ _ hc

theorem wpList_lookOkS (hg : o.guard = none) (m x : Operand) (t : TypeId) (hop : o.op = Op.lookup t m x true) (e : TypeId) (hK : P.underlying K = some .string) (ht : P.underlying t = some (.map K e)) (z : Value) (hz : (zeroValue e).run P w = .ok z w)
    (b n : Nat) (f : List UInt8 → Option Value) (hm : a.eval m = .map (some b)) (h : MapS P K w b n f) (k : List UInt8) (hx : a.eval x = .string ⟨k.toArray⟩) (hk : k.length ≤ maxLen)
    (hc : wpList P ops Q rest (a.put o.dst (.tuple #[(f k).getD z, .bool (f k).isSome])) w) : wpList P ops Q (o :: rest) a w := by
  obtain ⟨D, hown, ha⟩ := h
  refine wpList_plain hg fun K' hK' => ?_
  obtain ⟨v, ps, hrun, hv⟩ := hown.look_ok (string_keyed hK) ht hz (zd := .held z) (zp := []) rfl (keyOf_string_mk (s := ⟨k.toArray⟩) hK (by simpa [ByteArray.size] using hk))
  rw [show (⟨k.toArray⟩ : ByteArray).data.toList = k from rfl] at hv hrun
  rw [ha] at hv
  obtain rfl := held_of hv
  rw [has_of_heldOr (ha k)] at hrun
  unfold Oper.wp
  simp [execOp, hop, hm, hx, hrun, Result.andThen]
  exact hK' _ _ hc

theorem MapS.put {D : DataW Value} {f : List UInt8 → Option Value} (hD : IsMap D) (ha : ∀ k zd, D.atKey (.string k) zd = heldOr (f k) zd) (k : List UInt8) (v : Value) :
    ∀ k' zd, (D.put (.string k) (.held v)).atKey (.string k') zd = heldOr (upd f k (some v) k') zd := by
  intro k' zd
  by_cases e : k' = k
  · subst e
    rw [upd_same, atKey_put_same hD (by exact trivial)]; rfl
  · rw [upd_other _ _ _ _ e, atKey_put_other (by simpa using e), ha]

theorem MapI.put {D : DataW Value} {f : Int → Option Value} (hD : IsMap D) (ha : ∀ k zd, D.atKey (.int .i64 k) zd = heldOr (f k) zd) (k : Int) (v : Value) :
    ∀ k' zd, (D.put (.int .i64 k) (.held v)).atKey (.int .i64 k') zd = heldOr (upd f k (some v) k') zd := by
  intro k' zd
  by_cases e : k' = k
  · subst e
    rw [upd_same, atKey_put_same hD (by exact trivial)]; rfl
  · rw [upd_other _ _ _ _ e, atKey_put_other (by simpa using e), ha]

theorem MapS.cut {D : DataW Value} {f : List UInt8 → Option Value} (ha : ∀ k zd, D.atKey (.string k) zd = heldOr (f k) zd) (k : List UInt8) :
    ∀ k' zd, (D.del (.string k)).atKey (.string k') zd = heldOr (upd f k none k') zd := by
  intro k' zd
  by_cases e : k' = k
  · subst e
    rw [upd_same, atKey_del_same]; rfl
  · rw [upd_other _ _ _ _ e, atKey_del_other (by simpa using e), ha]

theorem wpList_putS (hg : o.guard = none) (m x v : Operand) (t : TypeId) (hop : o.op = Op.mapUpdate t m x v) (e : TypeId) (hK : P.underlying K = some .string) (ht : P.underlying t = some (.map K e))
    (b n : Nat) (f : List UInt8 → Option Value) (hm : a.eval m = .map (some b)) (h : MapS P K w b n f) (hn : n < maxLen) (k : List UInt8) (hx : a.eval x = .string ⟨k.toArray⟩) (hk : k.length ≤ maxLen) (val : Value) (hv : a.eval v = val)
    (hc : ∀ w', MapS P K w' b (n + 1) (upd f k (some val)) → Kx (Only b) w w' → wpList P ops Q rest (a.put o.dst undef) w') : wpList P ops Q (o :: rest) a w := by
  obtain ⟨D, hown, ha⟩ := h
  refine wpList_mapUpdate_own w hg m x v t hop K e (string_keyed hK) ht Rv b n D hm hown hn (.string ⟨k.toArray⟩) val (.string k) hx hv (keyOf_string_mk (s := ⟨k.toArray⟩) hK (by simpa [ByteArray.size] using hk)) (.held val) [] rfl ?_
  intro w' ho hgr
  exact hc w' ⟨_, ho, MapS.put hown.isMap ha k val⟩ ((Kx.of_grown hgr).mono (fun j _ e => by unfold Only; exact Option.some.inj e))

theorem wpList_cutS (hg : o.guard = none) (m x : Operand) (t : TypeId) (hop : o.op = Op.call { callee := Callee.builtin Builtin.delete, args := #[m, x], argTypes := #[t, K] }) (e : TypeId) (hK : P.underlying K = some .string) (ht : P.underlying t = some (.map K e))
    (b n : Nat) (f : List UInt8 → Option Value) (hm : a.eval m = .map (some b)) (h : MapS P K w b n f) (k : List UInt8) (hx : a.eval x = .string ⟨k.toArray⟩) (hk : k.length ≤ maxLen)
    (hc : ∀ w', MapS P K w' b n (upd f k none) → Kx (Only b) w w' → wpList P ops Q rest (a.put o.dst (.tuple #[])) w') : wpList P ops Q (o :: rest) a w := by
  obtain ⟨D, hown, ha⟩ := h
  refine wpList_plain hg fun K' hK' => ?_
  obtain ⟨w', hrun, ho, ht'⟩ := hown.drop (string_keyed hK) ht (keyOf_string_mk (s := ⟨k.toArray⟩) hK (by simpa [ByteArray.size] using hk)) o.type
  unfold Oper.wp
  simp [execOp, hop, resolve, invoke, builtin, hm, hx, hrun, Result.andThen]
  exact hK' _ _ (hc w' ⟨_, ho, MapS.cut ha k⟩ ((Kx.of_grown ht'.grown).mono (fun j _ e => by unfold Only; exact Option.some.inj e)))

theorem wf64 {k : Int} (h0 : -9223372036854775808 ≤ k) (h1 : k ≤ 9223372036854775807) : (Lit.int .i64 k).wf = true := WalkArith.wf_i64 ⟨h0, h1⟩

theorem wpList_lookI (hg : o.guard = none) (m x : Operand) (t : TypeId) (hop : o.op = Op.lookup t m x false) (e : TypeId) (hK : P.underlying K = some (.int .i64)) (ht : P.underlying t = some (.map K e)) (z : Value) (hz : (zeroValue e).run P w = .ok z w)
    (b n : Nat) (f : Int → Option Value) (hm : a.eval m = .map (some b)) (h : MapI P K w b n f) (k : Int) (hx : a.eval x = .int .i64 k) (hk0 : -9223372036854775808 ≤ k) (hk1 : k ≤ 9223372036854775807)
    (hc : wpList P ops Q rest (a.put o.dst ((f k).getD z)) w) : wpList P ops Q (o :: rest) a w := by
  obtain ⟨D, hown, ha⟩ := h
  refine wpList_plain hg fun K' hK' => ?_
  obtain ⟨v, ps, hrun, hv⟩ := hown.lookup (int_keyed hK) ht hz (zd := .held z) (zp := []) rfl (keyOf_int_mk hK (wf64 hk0 hk1))
  rw [ha] at hv
  obtain rfl := held_of hv
  unfold Oper.wp
  simp [execOp, hop, hm, hx, hrun, Result.andThen]
  exact hK' _ _ hc

theorem wpList_lookOkI (hg : o.guard = none) (m x : Operand) (t : TypeId) (hop : o.op = Op.lookup t m x true) (e : TypeId) (hK : P.underlying K = some (.int .i64)) (ht : P.underlying t = some (.map K e)) (z : Value) (hz : (zeroValue e).run P w = .ok z w)
    (b n : Nat) (f : Int → Option Value) (hm : a.eval m = .map (some b)) (h : MapI P K w b n f) (k : Int) (hx : a.eval x = .int .i64 k) (hk0 : -9223372036854775808 ≤ k) (hk1 : k ≤ 9223372036854775807)
    (hc : wpList P ops Q rest (a.put o.dst (.tuple #[(f k).getD z, .bool (f k).isSome])) w) : wpList P ops Q (o :: rest) a w := by
  obtain ⟨D, hown, ha⟩ := h
  refine wpList_plain hg fun K' hK' => ?_
  obtain ⟨v, ps, hrun, hv⟩ := hown.look_ok (int_keyed hK) ht hz (zd := .held z) (zp := []) rfl (keyOf_int_mk hK (wf64 hk0 hk1))
  rw [ha] at hv
  obtain rfl := held_of hv
  rw [has_of_heldOr (ha k)] at hrun
  unfold Oper.wp
  simp [execOp, hop, hm, hx, hrun, Result.andThen]
  exact hK' _ _ hc

theorem wpList_putI (hg : o.guard = none) (m x v : Operand) (t : TypeId) (hop : o.op = Op.mapUpdate t m x v) (e : TypeId) (hK : P.underlying K = some (.int .i64)) (ht : P.underlying t = some (.map K e))
    (b n : Nat) (f : Int → Option Value) (hm : a.eval m = .map (some b)) (h : MapI P K w b n f) (hn : n < maxLen) (k : Int) (hx : a.eval x = .int .i64 k) (hk0 : -9223372036854775808 ≤ k) (hk1 : k ≤ 9223372036854775807) (val : Value) (hv : a.eval v = val)
    (hc : ∀ w', MapI P K w' b (n + 1) (upd f k (some val)) → Kx (Only b) w w' → wpList P ops Q rest (a.put o.dst undef) w') : wpList P ops Q (o :: rest) a w := by
  obtain ⟨D, hown, ha⟩ := h
  refine wpList_mapUpdate_own w hg m x v t hop K e (int_keyed hK) ht Rv b n D hm hown hn (.int .i64 k) val (.int .i64 k) hx hv (keyOf_int_mk hK (wf64 hk0 hk1)) (.held val) [] rfl ?_
  intro w' ho hgr
  exact hc w' ⟨_, ho, MapI.put hown.isMap ha k val⟩ ((Kx.of_grown hgr).mono (fun j _ e => by unfold Only; exact Option.some.inj e))

end
end

end Go.Proofs.YtepgoppgblfjbaaGreatDoor
namespace Go.Proofs.YtepgoppgblfjbaaGreatDoor
open Go.RowKit

set_option maxHeartbeats 800000 in
set_option maxRecDepth 100000 in
theorem blob_any (KK : List Int) (hKK : KK.length = 72) (mb : Nat) (mt : TypeId) (c : List UInt8) (w : World) (hgl : Gl w) (hK : Cb mb (A32 KK) mt w) (hc : c.length ≤ 45000) :
    Calls Tryz.prog 289 #[.pointer (some ⟨mb, 0, none⟩), .string ⟨c.toArray⟩] w fun e w' => e = .returned (.agg #[.int .i64 1, .string ⟨c.toArray⟩, .string ⟨(Sh.idK KK 1 c).toArray⟩]) ∧ Kx (fun _ => False) w w' := by
  have hkA := (Kx.refl (fun _ => False) w).alloc (.cells #[.int .i64 0, .string ⟨#[]⟩, .string ⟨#[]⟩] 105)
  have hgA := hgl.kept hkA (fun _ _ => id)
  have hKA := hK.kept hkA id
  have hD : Cb w.heap.size #[.int .i64 0, .string ⟨#[]⟩, .string ⟨#[]⟩] 105 (w.alloc (.cells #[.int .i64 0, .string ⟨#[]⟩, .string ⟨#[]⟩] 105)) := heap_alloc_new w _
  have hob := object_any KK hKK mb mt 1 c _ hgA hKA (by decide) hc
  generalize Sh.idK KK 1 c = h at *
  go_enter Tryz.func289, Tryz.ntmps289
  go_wp2_with fail
  refine hob.mono ?_
  rintro _ w3 ⟨rfl, hk3⟩
  have hDw3 := hD.kept hk3 id
  have hkw3 := hkA.trans hk3
  obtain ⟨D, HD⟩ : ∃ D, Hid (w.heap.size = D) := ⟨_, rfl⟩
  have hDD : w.heap.size = D := HD.out
  rw [hDD] at hDw3 ⊢
  clear hDD hob
  have c0 : w3.cell? ⟨D, 0, none⟩ = some (.int .i64 0) := hDw3.cell 0
  have c1 : w3.cell? ⟨D, 1, none⟩ = some (.string ⟨#[]⟩) := hDw3.cell 1
  have c2 : w3.cell? ⟨D, 2, none⟩ = some (.string ⟨#[]⟩) := hDw3.cell 2
  have f0 : w3.frozen? ⟨D, 0, none⟩ = false := hDw3.frozen 0
  have f1 : w3.frozen? ⟨D, 1, none⟩ = false := hDw3.frozen 1
  have f2 : w3.frozen? ⟨D, 2, none⟩ = false := hDw3.frozen 2
  go_wp2
  have h4 := ((hDw3.set 0 (.int .i64 1)).set 1 (.string ⟨c.toArray⟩)).set 2 (.string ⟨h.toArray⟩)
  refine bodyPost_ret (v := .agg #[.int .i64 1, .string ⟨c.toArray⟩, .string ⟨h.toArray⟩]) (results_arr (k := D) rfl rfl h4 Tryz.underlying105 rfl (by kernel_rfl)) rfl ⟨rfl, ?_⟩
  have hle : w.heap.size ≤ D := Nat.le_of_eq HD.out
  exact ((hkw3.setNew (p := ⟨D, 0, none⟩) hle _).setNew (p := ⟨D, 1, none⟩) hle _).setNew (p := ⟨D, 2, none⟩) hle _

theorem fold_list (l : List Value) : ∀ (k : Nat) (z : Array Value), z.size = k + l.length → ((l.zipIdx k).foldl (fun cs x => cs.setIfInBounds x.snd x.fst) z).toList = z.toList.take k ++ l := by
  induction l with
  | nil =>
    intro k z h
    have h' : z.toList.length = k := by simpa using h
    rw [List.append_nil, ← h', List.take_length]
    rfl
  | cons a r ih =>
    intro k z h
    rw [List.zipIdx_cons, List.foldl_cons, ih (k + 1) _ (by simp at h; simp; omega)]
    have hk : k < z.toList.length := by simp at h; simp; omega
    rw [Array.toList_setIfInBounds, List.take_set, List.take_succ_eq_append_getElem hk]
    rw [List.set_append_right _ _ (by simp; omega)]
    have : (z.toList.take k).length = k := by rw [List.length_take]; omega
    rw [this]
    simp

theorem fold_arr (arr z : Array Value) (h : z.size = arr.size) : Array.foldl (fun cs x => cs.setIfInBounds x.snd x.fst) z arr.zipIdx 0 arr.size = arr := by
  have h1 := fold_list arr.toList 0 z (by simpa using h)
  rw [List.take_zero, List.nil_append] at h1
  apply Array.ext'
  rw [← h1]
  rw [show arr.size = arr.zipIdx.size by simp]
  rw [← Array.foldl_toList]
  simp

set_option maxHeartbeats 800000 in
set_option maxRecDepth 100000 in
theorem newMaker_any (w : World) :
    Calls Tryz.prog 122 #[] w fun e w' => ∃ mb, e = .returned (.pointer (some ⟨mb, 0, none⟩)) ∧ w.heap.size ≤ mb ∧ Cb mb (A32 Sh.K) 281 w' ∧ Kx (fun _ => False) w w' := by
  have hnc := newConstants_any w
  obtain ⟨arr, harr⟩ : ∃ arr, A32 Sh.K = arr := ⟨_, rfl⟩
  rw [harr] at hnc
  have HA : Hid (A32 Sh.K = arr) := harr
  have hsz : arr.size = 72 := by rw [← harr]; rfl
  rw [harr]
  clear harr
  have HF : Hid (Array.foldl (fun cs x => cs.setIfInBounds x.snd x.fst) Tryz.zeroCells281 arr.zipIdx 0 arr.size = arr) := fold_arr arr _ (by rw [hsz]; kernel_rfl)
  go_enter Tryz.func122, Tryz.ntmps122
  go_wp2_with fail
  refine hnc.mono ?_
  rintro _ w2 ⟨rfl, hk2⟩
  clear hnc
  go_wp2
  go_ret
  have hF := HF.out
  rw [hsz] at hF
  rw [hF]
  exact ⟨_, rfl, hk2.size, heap_alloc_new w2 _, hk2.alloc _⟩

def Au.cells (a : Au) : List Value := [.string ⟨a.name.toArray⟩, .string ⟨a.mail.toArray⟩, .int .i64 a.time]

namespace Pf
def line (a : Au) : List UInt8 := [97, 117, 116, 104, 111, 114, 32] ++ a.name ++ [32, 60] ++ a.mail ++ [62, 32] ++ Lib.itoa a.time ++ [10]
end Pf

theorem formatInt_any (n : Int) (h0 : -9223372036854775808 ≤ n) (h1 : n ≤ 9223372036854775807) (w : World) (h : Gl w) :
    Calls Tryz.prog 301 #[.int .i64 n, .int .i64 10] w fun e w' => e = .returned (.string ⟨(Lib.itoa n).toArray⟩) ∧ Kx (fun _ => False) w w' := by
  refine (Tryz.strconv_FormatInt_10 n h0 h1 w h.pow).mono ?_
  rintro e w' ⟨rfl, k, os, rfl⟩
  exact ⟨rfl, Kx.grown' _ _ _⟩

set_option maxHeartbeats 1600000 in
set_option maxRecDepth 100000 in
theorem auline_any (a : Au) (w : World) (hgl : Gl w) (hn : a.name.length ≤ 100000) (hm : a.mail.length ≤ 100000) (h0 : -9223372036854775808 ≤ a.time) (h1 : a.time ≤ 9223372036854775807) :
    Calls Tryz.prog 234 #[.agg a.cells.toArray] w fun e w' => e = .returned (.string ⟨(Pf.line a).toArray⟩) ∧ Kx (fun _ => False) w w' := by
  obtain ⟨n, m, t⟩ := a
  have HL : Hid (Pf.line ⟨n, m, t⟩ = [97, 117, 116, 104, 111, 114, 32] ++ n ++ [32, 60] ++ m ++ [62, 32] ++ Lib.itoa t ++ [10]) := rfl
  generalize Pf.line ⟨n, m, t⟩ = L at *
  have hil := Lib.itoa_length_le t h0 h1
  unfold Au.cells
  simp only at *
  have hkxW := (Kx.refl (fun _ => False) w).alloc (.cells #[.string ⟨n.toArray⟩, .string ⟨m.toArray⟩, .int .i64 t] 110)
  have hgW := hgl.kept hkxW (fun _ _ => id)
  have hD := Cb.new #[.string ⟨n.toArray⟩, .string ⟨m.toArray⟩, .int .i64 t] 110 w
  obtain ⟨D, hDD⟩ : ∃ D, w.heap.size = D := ⟨_, rfl⟩
  rw [hDD] at hD
  go_enter Tryz.func234, Tryz.ntmps234
  go_wp2_with fail
  clear hDD
  revert hgW hD hkxW
  generalize w.alloc (.cells #[.string ⟨n.toArray⟩, .string ⟨m.toArray⟩, .int .i64 t] 110) = W
  intro hkxW hgW hD
  have hcat : ∀ a b : List UInt8, (⟨a.toArray⟩ : ByteArray) ++ ⟨b.toArray⟩ = ⟨(a ++ b).toArray⟩ := fun a b => by
    apply ByteArray.ext; simp
  refine wp_region_quiet_tail (C := fun w' => Kx (fun _ => False) W w') 13 (by kernel_rfl) (by kernel_rfl) (Kx.refl _ _).drew ?_
  refine quiet_val rfl (.pointer (some ⟨D, 0, none⟩)) (fun w' hC => by go_simp) ?_
  refine quiet_val rfl (.string ⟨n.toArray⟩) (fun w' hC => by
    have hcw : w'.cell? ⟨D, 0, none⟩ = some (.string ⟨n.toArray⟩) := (hD.kept hC id).cell 0
    go_simp) ?_
  refine quiet_val rfl (.string ⟨([97, 117, 116, 104, 111, 114, 32] ++ n).toArray⟩) (fun w' hC => by go_simp; omega) ?_
  refine quiet_val rfl (.string ⟨([97, 117, 116, 104, 111, 114, 32] ++ n ++ [32, 60]).toArray⟩) (fun w' hC => by go_simp; omega) ?_
  refine quiet_val rfl (.pointer (some ⟨D, 1, none⟩)) (fun w' hC => by go_simp) ?_
  refine quiet_val rfl (.string ⟨m.toArray⟩) (fun w' hC => by
    have hcw : w'.cell? ⟨D, 1, none⟩ = some (.string ⟨m.toArray⟩) := (hD.kept hC id).cell 1
    go_simp) ?_
  simp only [Act.put, sI, sS, sZ]
  refine quiet_val rfl (.string ⟨([97, 117, 116, 104, 111, 114, 32] ++ n ++ [32, 60] ++ m).toArray⟩) (fun w' hC => by go_simp; omega) ?_
  refine quiet_val rfl (.string ⟨([97, 117, 116, 104, 111, 114, 32] ++ n ++ [32, 60] ++ m ++ [62, 32]).toArray⟩) (fun w' hC => by go_simp; omega) ?_
  refine quiet_val rfl (.pointer (some ⟨D, 2, none⟩)) (fun w' hC => by go_simp) ?_
  refine quiet_val rfl (.int .i64 t) (fun w' hC => by
    have hcw : w'.cell? ⟨D, 2, none⟩ = some (.int .i64 t) := (hD.kept hC id).cell 2
    go_simp) ?_
  simp only [Act.put, sI, sS, sZ]
  refine quiet_enter rfl 301 #[.int .i64 t, .int .i64 10] (.string ⟨(Lib.itoa t).toArray⟩) (fun w' => by go_simp) (fun w' hC => (formatInt_any t h0 h1 w' (hgW.kept hC (fun _ _ => id))).mono (fun e w'' h => ⟨h.1, hC.trans h.2⟩)) ?_
  simp only [Act.put, sI, sS, sZ]
  have hitl := hil
  generalize Lib.itoa t = it at *
  refine quiet_val rfl (.string ⟨([97, 117, 116, 104, 111, 114, 32] ++ n ++ [32, 60] ++ m ++ [62, 32] ++ it).toArray⟩) (fun w' hC => by go_simp; omega) ?_
  refine quiet_val rfl (.string ⟨([97, 117, 116, 104, 111, 114, 32] ++ n ++ [32, 60] ++ m ++ [62, 32] ++ it ++ [10]).toArray⟩) (fun w' hC => by go_simp; omega) ?_
  refine wpQuiet_nil (fun w' hC => ?_)
  simp only [Act.put, sI, sS, sZ, List.drop_succ_cons, List.drop_zero]
  rw [← HL.out]
  clear hgW hcat hD
  have hkw' := hkxW.trans hC
  go_wp2
  go_ret
  exact ⟨rfl, hkw'⟩

end Go.Proofs.YtepgoppgblfjbaaGreatDoor
namespace Go.Proofs.YtepgoppgblfjbaaGreatDoor

structure Com where
  sum : List UInt8
  files : List Fi

inductive Mkd
  | blob (sum : List UInt8)
  | com (c : Com)

structure St where
  obj : List UInt8 → Option (Nat × List UInt8)
  com : List UInt8 → Option Com
  ref : List UInt8 → Option Com
  tag : List UInt8 → Option (List UInt8)

def St.empty : St := ⟨fun _ => none, fun _ => none, fun _ => none, fun _ => none⟩

structure Wk where
  st : St
  ms : Int → Option Mkd

namespace Pd
def sum (KK : List Int) (kind : Nat) (c : List UInt8) : List UInt8 := Sh.ofK KK (Sh.text kind c)

def add (KK : List Int) (kind : Nat) (c : List UInt8) (o : List UInt8 → Option (Nat × List UInt8)) : List UInt8 → Option (Nat × List UInt8) := upd o (Sh.idK KK kind c) (some (kind, c))

mutual
def addTr (KK : List Int) : Tr → (List UInt8 → Option (Nat × List UInt8)) → (List UInt8 → Option (Nat × List UInt8))
  | .mk c ws, o => addTrs KK ws (add KK 2 c o)
def addTrs (KK : List Int) : Trs → (List UInt8 → Option (Nat × List UInt8)) → (List UInt8 → Option (Nat × List UInt8))
  | .nil, o => o
  | .cons t r, o => addTrs KK r (addTr KK t o)
end

def addObj (KK : List Int) (kind : Nat) (c : List UInt8) (w : Wk) : Wk := { w with st := { w.st with obj := add KK kind c w.st.obj } }

def comOf (w : Wk) (x : Pu.Wh) : Option Com := if x.mark = 0 then w.st.ref x.ref else match w.ms x.mark with | some (.com c) => some c | _ => none

def first (w : Wk) (c : Pu.Co) : Option (Option Com) := if c.frm.mark = 0 ∧ c.frm.ref = [] then some (w.st.ref c.ref) else (comOf w c.frm).map some

def merged (w : Wk) : List Pu.Wh → Option (List Com)
  | [] => some []
  | x :: r => match comOf w x with | none => none | some c => (merged w r).map (c :: ·)

def parents (w : Wk) (c : Pu.Co) : Option (List Com × List Fi) :=
  match first w c with
  | none => none
  | some f => match merged w c.merges with | none => none | some m => some (f.toList ++ m, (f.map Com.files).getD [])

def change1 (KK : List Int) (w : Wk) (l : List Fi) (c : Pu.Ch) : Int × Wk × List Fi :=
  if c.word = [77] then
    if c.mark = 0 then (Pf.putE ⟨c.path, c.mode, sum KK 1 c.data⟩ l, addObj KK 1 c.data w, Pf.put ⟨c.path, c.mode, sum KK 1 c.data⟩ l)
    else match w.ms c.mark with
      | some (.blob s) => (Pf.putE ⟨c.path, c.mode, s⟩ l, w, Pf.put ⟨c.path, c.mode, s⟩ l)
      | _ => (4, w, l)
  else if c.word = [68] then (0, w, Pf.delete c.path l)
  else if c.word = [67] then (Pf.copyE c.path c.to l, w, Pf.copy c.path c.to l)
  else if c.word = [82] then (Pf.moveE c.path c.to l, w, Pf.moved c.path c.to l)
  else (0, w, [])

def changes (KK : List Int) : Wk → List Fi → List Pu.Ch → Int × Wk × List Fi
  | w, l, [] => (0, w, l)
  | w, l, c :: r => if (change1 KK w l c).1 = 0 then changes KK (change1 KK w l c).2.1 (change1 KK w l c).2.2 r else change1 KK w l c

def parentL (c : Com) : List UInt8 := [112, 97, 114, 101, 110, 116, 32] ++ Sh.hex c.sum ++ [10]
def comText (tree : List UInt8) (ps : List Com) (au : Au) (msg : List UInt8) : List UInt8 :=
  [116, 114, 101, 101, 32] ++ Sh.hex tree ++ [10] ++ ps.flatMap parentL ++ (Pf.line au ++ [10] ++ msg)
def tagText (c : Com) (name msg : List UInt8) : List UInt8 :=
  [111, 98, 106, 101, 99, 116, 32] ++ Sh.hex c.sum ++ [10, 116, 97, 103, 32] ++ name ++ [10, 10] ++ msg

def commitOf (KK : List Int) (w : Wk) (ps : List Com) (l : List Fi) (c : Pu.Co) : Wk :=
  let t := Pf.tree KK l
  let txt := comText (sum KK 2 t.1) ps c.au c.data
  let x : Com := ⟨sum KK 3 txt, l⟩
  ⟨⟨add KK 3 txt (addTr KK (.mk t.1 t.2) w.st.obj), upd w.st.com (Sh.idK KK 3 txt) (some x), upd w.st.ref c.ref (some x), w.st.tag⟩, upd w.ms c.mark (some (.com x))⟩

def isSet (w : Wk) (m : Int) : Bool := (w.ms m).isSome

def blob (KK : List Int) (w : Wk) (c : Pu.Co) : Int × Wk :=
  if isSet w c.mark then (3, w) else (0, { addObj KK 1 c.data w with ms := upd w.ms c.mark (some (.blob (sum KK 1 c.data))) })
def commit (KK : List Int) (w : Wk) (c : Pu.Co) : Int × Wk :=
  if isSet w c.mark then (3, w) else
  match parents w c with
  | none => (4, w)
  | some (ps, l) => if (changes KK w l c.changes).1 = 0 then (0, commitOf KK (changes KK w l c.changes).2.1 ps (changes KK w l c.changes).2.2 c) else ((changes KK w l c.changes).1, w)
def tag (KK : List Int) (w : Wk) (c : Pu.Co) : Int × Wk :=
  match comOf w c.frm with
  | none => (4, w)
  | some x => (0, ⟨⟨add KK 4 (tagText x c.ref c.data) w.st.obj, w.st.com, w.st.ref, upd w.st.tag c.ref (some (sum KK 4 (tagText x c.ref c.data)))⟩, w.ms⟩)
def reset (w : Wk) (c : Pu.Co) : Int × Wk :=
  if c.frm.mark = 0 ∧ c.frm.ref = [] then (0, ⟨{ w.st with ref := upd w.st.ref c.ref none }, w.ms⟩)
  else match comOf w c.frm with
    | none => (4, w)
    | some x => (0, ⟨{ w.st with ref := upd w.st.ref c.ref (some x) }, w.ms⟩)

def one (KK : List Int) (w : Wk) (c : Pu.Co) : Int × Wk :=
  if c.word = Pu.sBlob then blob KK w c else if c.word = Pu.sCommit then commit KK w c else if c.word = Pu.sTag then tag KK w c else if c.word = Pu.sReset then reset w c else (1, w)

def all (KK : List Int) : Wk → List Pu.Co → Nat → (Int × Int) × Wk
  | w, [], n => (((n : Int), 0), w)
  | w, c :: r, n => if (one KK w c).1 = 0 then all KK (one KK w c).2 r (n + 1) else (((n : Int) + 1, (one KK w c).1), w)

def imp (KK : List Int) (S : St) (s : List UInt8) : (Int × Int) × St :=
  if (Pu.check s).2 = 0 then
    if (all KK ⟨S, fun _ => none⟩ (Pu.commands s) 0).1.2 = 0 then ((all KK ⟨S, fun _ => none⟩ (Pu.commands s) 0).1, (all KK ⟨S, fun _ => none⟩ (Pu.commands s) 0).2.st)
    else ((all KK ⟨S, fun _ => none⟩ (Pu.commands s) 0).1, S)
  else (Pu.check s, S)

def lastSeal (j : List UInt8) : List UInt8 := j.drop (j.length - 32)
def sealOf (KK : List Int) (last s : List UInt8) : List UInt8 := Sh.ofK KK (last ++ s)
def record (KK : List Int) (j s : List UInt8) : List UInt8 := j ++ (Lib.itoa (s.length : Int) ++ [10] ++ s ++ sealOf KK (lastSeal j) s)
end Pd

end Go.Proofs.YtepgoppgblfjbaaGreatDoor
