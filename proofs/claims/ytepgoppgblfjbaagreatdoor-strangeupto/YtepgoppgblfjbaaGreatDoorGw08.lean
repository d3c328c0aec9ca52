import Derived.Test.YtepgoppgblfjbaaGreatDoorGw07
import Derived.Laws.AppendOwnNone
import Derived.Lib.AppendZerosOnto
import Derived.Shelf.SlSortCmp.NoneTotal
namespace Go.Proofs.YtepgoppgblfjbaaGreatDoor
open Go.RowKit

namespace Pf
def tooLong (p : List UInt8) : Bool := decide (60 < p.length) || decide (6 ≤ Lib.countByte p 47)
def move (a b p : List UInt8) : List UInt8 := b ++ Lib.trimPrefix p a
def taken (a b : List UInt8) : List Fi → List Fi
  | [] => []
  | f :: r => if within f.path a then { f with path := move a b f.path } :: taken a b r else taken a b r
end Pf

theorem taken_app (a b : List UInt8) (l m : List Fi) : Pf.taken a b (l ++ m) = Pf.taken a b l ++ Pf.taken a b m := by
  induction l with
  | nil => rfl
  | cons f r ih => simp only [List.cons_append, Pf.taken, ih]; split <;> rfl

theorem taken_len (a b : List UInt8) (l : List Fi) : (Pf.taken a b l).length ≤ l.length := by
  induction l with
  | nil => exact Nat.le_refl _
  | cons f r ih => simp only [Pf.taken]; split <;> simp <;> omega

theorem taken_take (a b : List UInt8) (l : List Fi) (k : Nat) (hk : k < l.length) :
    Pf.taken a b (l.take (k + 1)) = Pf.taken a b (l.take k) ++ (if Pf.within l[k].path a then [{ l[k] with path := Pf.move a b l[k].path }] else []) := by
  have : l.take (k + 1) = l.take k ++ [l[k]] := by simp
  rw [this, taken_app]
  rfl

theorem trimPrefix_len (s p : List UInt8) : (Lib.trimPrefix s p).length ≤ s.length := by
  unfold Lib.trimPrefix
  split <;> simp

theorem bytes_app (a b : List UInt8) : (⟨a.toArray⟩ : ByteArray) ++ ⟨b.toArray⟩ = ⟨(a ++ b).toArray⟩ := by
  apply ByteArray.ext; simp

theorem count47_any (s : List UInt8) (w : World) :
    Calls Tryz.prog 356 #[.string ⟨s.toArray⟩, .string ⟨#[47]⟩] w fun e w' => e = .returned (.int .i64 (Lib.countByte s 47)) ∧ w' = w :=
  Tryz.strings_Count_one ⟨s.toArray⟩ 47 w

theorem trimPrefix_any (s p : List UInt8) (w : World) :
    Calls Tryz.prog 362 #[.string ⟨s.toArray⟩, .string ⟨p.toArray⟩] w fun e w' => e = .returned (.string ⟨(Lib.trimPrefix s p).toArray⟩) ∧ w' = w :=
  Tryz.strings_TrimPrefix ⟨s.toArray⟩ ⟨p.toArray⟩ w

set_option maxHeartbeats 800000 in
set_option maxRecDepth 100000 in
theorem isTooLong_any (f : Fi) (w : World) :
    Calls Tryz.prog 358 #[.agg f.cells.toArray] w fun e w' => e = .returned (.bool (Pf.tooLong f.path)) ∧ Kx (fun _ => False) w w' := by
  obtain ⟨fp, fm, fs⟩ := f
  have hkA := (Kx.refl (fun _ => False) w).alloc (.cells #[.string ⟨fp.toArray⟩, .string ⟨fm.toArray⟩, .string ⟨(Sh.hex fs).toArray⟩] 114)
  have HW : Hid (Pf.tooLong fp = (decide (60 < fp.length) || decide (6 ≤ Lib.countByte fp 47))) := rfl
  unfold Fi.cells
  simp only
  generalize Pf.tooLong fp = W at *
  go_enter Tryz.func358, Tryz.ntmps358
  by_cases h1 : 60 < fp.length
  · have h1' : (60 : Int) < (fp.length : Int) := by omega
    go_wp2
    go_ret
    have := HW.out
    rw [decide_eq_true h1] at this
    rw [this]
    exact ⟨rfl, hkA⟩
  · have h1' : ¬ (60 : Int) < (fp.length : Int) := by omega
    go_wp2_with fail
    refine (count47_any fp _).mono ?_
    rintro _ w3 ⟨rfl, hw⟩
    rw [hw]
    clear hw w3
    go_wp2
    go_ret
    have := HW.out
    rw [decide_eq_false h1] at this
    rw [this]
    have e : decide ((6 : Int) ≤ (Lib.countByte fp 47 : Int)) = (false || decide (6 ≤ Lib.countByte fp 47)) := by
      rw [Bool.false_or, Bool.eq_iff_iff, decide_eq_true_iff, decide_eq_true_iff]
      omega
    rw [← e]
    exact ⟨rfl, hkA⟩

set_option maxHeartbeats 800000 in
set_option maxRecDepth 100000 in
theorem indexLong_any (l : List Fi) (v : Value) (w : World) (hF : Fs w v l) (hl : l.length ≤ 1000) :
    Calls Tryz.prog 387 #[v, .func (.func 358) #[] #[]] w fun e w' => (∃ i : Int, e = .returned (.int .i64 i) ∧ decide (0 ≤ i) = l.any (fun f => Pf.tooLong f.path)) ∧ Kx (fun _ => False) w w' := by
  obtain ⟨q, c, hv, hc, _⟩ := id hF
  subst hv
  go_enter Tryz.func387, Tryz.ntmps387
  go_wp2
  go_loopw [8] (fun iv w' => ∃ (k : Nat), iv = .int .i64 k ∧ k ≤ l.length ∧ Kx (fun _ => False) w w' ∧ (l.take k).any (fun f => Pf.tooLong f.path) = false) (fun iv _ => l.length - (intOf iv).toNat)
  case atStart => exact ⟨0, rfl, by omega, Kx.refl _ _, rfl⟩
  case round =>
    obtain ⟨k, rfl, hk, hkx, hno⟩ := hrel
    by_cases hlt : k < l.length
    · have hlt2 : (k : Int) < (l.length : Int) := by omega
      have hFr := hF.kept hkx (fun _ _ => id)
      obtain ⟨g, o, c', he, p0, p1, p2⟩ := hFr.file k hlt
      cases he
      have e0 : o + k * 3 = o + 3 * k := by omega
      have HT : Hid ((Pf.tooLong l[k].path = true → l.any (fun f => Pf.tooLong f.path) = true) ∧ (Pf.tooLong l[k].path = false → (l.take (k + 1)).any (fun f => Pf.tooLong f.path) = false)) := by
        refine ⟨fun h => ?_, fun h => ?_⟩
        · rw [List.any_eq_true]; exact ⟨l[k], List.getElem_mem hlt, h⟩
        · have : l.take (k + 1) = l.take k ++ [l[k]] := by simp
          rw [this, List.any_append, hno]; simp [h]
      clear hno
      generalize l[k] = f at *
      obtain ⟨fp, fm, fs⟩ := f
      simp only at p0 p1 p2
      go_wp2_with fail
      refine (isTooLong_any ⟨fp, fm, fs⟩ _).mono ?_
      rintro _ w2 ⟨rfl, hk2⟩
      have hk3 := hkx.trans hk2
      clear hk2
      simp only
      cases hp : Pf.tooLong fp
      · have HBB := HT.out.2 hp
        have HB2 : Hid ((l.take (k + 1)).any (fun f => Pf.tooLong f.path) = false) := HBB
        clear HT HBB hp
        go_wp2
        go_roundw
        case rel => exact ⟨k + 1, by go_num, hlt, hk3, HB2.out⟩
        case measure => simp [intOf]; omega
      · have HBB := HT.out.1 hp
        have HB2 : Hid (l.any (fun f => Pf.tooLong f.path) = true) := HBB
        clear HT HBB hp
        go_wp2
        go_ret
        refine ⟨⟨k, rfl, ?_⟩, hk3⟩
        rw [HB2.out]; simp
    · obtain rfl : k = l.length := by omega
      have hlt2 : ¬ (l.length : Int) < (l.length : Int) := by omega
      rw [List.take_of_length_le (Nat.le_refl _)] at hno
      have HB2 : Hid (l.any (fun f => Pf.tooLong f.path) = false) := hno
      clear hno
      go_wp2
      go_ret
      refine ⟨⟨-1, rfl, ?_⟩, hkx⟩
      rw [HB2.out]; rfl

set_option maxHeartbeats 800000 in
set_option maxRecDepth 100000 in
theorem anyLong_any (l : List Fi) (v : Value) (w : World) (hF : Fs w v l) (hl : l.length ≤ 1000) :
    Calls Tryz.prog 363 #[v, .func (.func 358) #[] #[]] w fun e w' => e = .returned (.bool (l.any (fun f => Pf.tooLong f.path))) ∧ Kx (fun _ => False) w w' := by
  go_enter Tryz.func363, Tryz.ntmps363
  go_wp2_with fail
  refine (indexLong_any l v _ hF hl).mono ?_
  rintro _ w2 ⟨⟨i, rfl, hi⟩, hk2⟩
  have HI : Hid (decide (0 ≤ i) = l.any (fun f => Pf.tooLong f.path)) := hi
  clear hi
  go_wp2
  go_ret
  rw [← HI.out]
  exact ⟨rfl, hk2⟩

namespace Pf
def takenE (a b : List UInt8) (l : List Fi) : Int :=
  if taken a b l = [] then 5 else if (taken a b l).any (fun f => tooLong f.path) then 2 else 0
end Pf

set_option maxHeartbeats 1600000 in
set_option maxRecDepth 100000 in
theorem taken_any (l : List Fi) (a b : List UInt8) (v : Value) (w : World) (hF : Fs w v l) (hl : l.length ≤ 1000) (hpl : ∀ f ∈ l, f.path.length ≤ 1000) (hbl : b.length ≤ 1000) :
    Calls Tryz.prog 376 #[v, .string ⟨a.toArray⟩, .string ⟨b.toArray⟩] w fun e w' => (∃ v', e = .returned (.tuple #[v', .int .i64 (Pf.takenE a b l)]) ∧ (Pf.takenE a b l = 0 → w'.ownsRow w.heap.size 114 3 v' (Pf.taken a b l).length (cellsF (Pf.taken a b l)))) ∧ Kx (fun _ => False) w w' := by
  obtain ⟨i0, hi, hz0, hz1, hz2⟩ := info_parts info105
  obtain ⟨q, c, hv, hc, _⟩ := id hF
  subst hv
  go_enter Tryz.func376, Tryz.ntmps376
  go_wp2
  go_loopw [13, 8] (fun iv v w' => ∃ (k : Nat), iv = .int .i64 k ∧ k ≤ l.length ∧ Kx (fun _ => False) w w' ∧ w'.ownsRow w.heap.size 114 3 v (Pf.taken a b (l.take k)).length (cellsF (Pf.taken a b (l.take k)))) (fun iv _ _ => l.length - (intOf iv).toNat)
  case atStart => exact ⟨0, rfl, by omega, Kx.refl _ _, World.ownsRow_nil _ _ _ _⟩
  case round =>
    obtain ⟨k, rfl, hk, hkx, hown⟩ := hrel
    by_cases hlt : k < l.length
    · have hlt2 : (k : Int) < (l.length : Int) := by omega
      have hFr := hF.kept hkx (fun _ _ => id)
      obtain ⟨g, o, c', he, p0, p1, p2⟩ := hFr.file k hlt
      cases he
      have HT : Hid (Pf.taken a b (l.take (k + 1)) = Pf.taken a b (l.take k) ++ (if Pf.within l[k].path a then [{ l[k] with path := Pf.move a b l[k].path }] else [])) := taken_take a b l k hlt
      have hwl : (Pf.taken a b (l.take k)).length ≤ 1000 := Nat.le_trans (taken_len _ _ _) (by simp; omega)
      have e0 : o + k * 3 = o + 3 * k := by omega
      have hfl : l[k].path.length ≤ 1000 := hpl _ (List.getElem_mem hlt)
      generalize l[k] = f at *
      obtain ⟨fp, fm, fs⟩ := f
      simp only at p0 p1 p2 hfl
      go_wp2_with fail
      refine (isWithin_any fp a _).mono ?_
      rintro _ w2 ⟨rfl, hw2⟩
      rw [hw2]
      clear hw2 w2
      have hkA := hkx.alloc (.cells #[.string ⟨fp.toArray⟩, .string ⟨fm.toArray⟩, .string ⟨(Sh.hex fs).toArray⟩] 114)
      have hoA := hown.alloc (.cells #[.string ⟨fp.toArray⟩, .string ⟨fm.toArray⟩, .string ⟨(Sh.hex fs).toArray⟩] 114)
      cases hp : Pf.within fp a
      · have HBB : Hid (Pf.taken a b (l.take (k + 1)) = Pf.taken a b (l.take k)) := by
          have := HT.out; simp only [hp] at this; rw [show (if false = true then [({ path := Pf.move a b fp, mode := fm, sum := fs } : Fi)] else []) = [] from rfl, List.append_nil] at this; exact this
        clear HT hp
        go_wp2
        go_roundw
        case rel => exact ⟨k + 1, by go_num, hlt, hkA, by rw [HBB.out]; exact hoA⟩
        case measure => simp [intOf]; omega
      · have HBB : Hid (Pf.taken a b (l.take (k + 1)) = Pf.taken a b (l.take k) ++ [⟨Pf.move a b fp, fm, fs⟩]) := by
          have := HT.out; simp only [hp] at this; exact this
        clear HT hp
        go_wp2_with fail
        refine (trimPrefix_any fp a _).mono ?_
        rintro _ w2 ⟨rfl, hw2⟩
        rw [hw2]
        clear hw2 w2
        have hnl : ¬ 9223372036854775807 < b.length + (Lib.trimPrefix fp a).length := by
          have : (Lib.trimPrefix fp a).length ≤ fp.length := trimPrefix_len fp a
          omega
        have hm : (⟨b.toArray⟩ : ByteArray) ++ ⟨(Lib.trimPrefix fp a).toArray⟩ = ⟨(Pf.move a b fp).toArray⟩ := bytes_app b _
        go_wp2_with (at_builtin; refine wpList_append_own _ rfl (.tmp 28) (.tmp 30) 107 rfl w.heap.size 114 i0 _ 3 48 Tryz.underlying107 hi hz0 hz1 hz2 rfl (by decide) _ (Pf.taken a b (l.take k)).length (cellsF (Pf.taken a b (l.take k))) rfl ?c0 ⟨wr.heap.size + 1, 0, none⟩ 1 1 [.string ⟨(Pf.move a b fp).toArray⟩, .string ⟨fm.toArray⟩, .string ⟨(Sh.hex fs).toArray⟩] rfl rfl ?c1 ?c2 ?c3 ?c4 ?c5 ?_)
        case c0 => exact (hown.alloc _).alloc _
        case c1 =>
          have h := cells_new (wr.alloc (.cells #[.string ⟨(Pf.move a b fp).toArray⟩, .string ⟨fm.toArray⟩, .string ⟨(Sh.hex fs).toArray⟩] 114)) [.string ⟨(Pf.move a b fp).toArray⟩, .string ⟨fm.toArray⟩, .string ⟨(Sh.hex fs).toArray⟩] 114
          rw [World.size_alloc] at h
          exact h
        case c2 => simp [Value.oneCell']
        case c3 => unfold maxLen; omega
        case c4 => omega
        case c5 => have := hkx.size; simp; omega
        intro v4 w4 hown4 hgrow4 _
        have hk4 : Kx (fun _ => False) w w4 := ((hkx.alloc _).alloc _).grown hgrow4 (fun k he => (hown.lt k he).1)
        have hown4' : w4.ownsRow w.heap.size 114 3 v4 (Pf.taken a b (l.take (k + 1))).length (cellsF (Pf.taken a b (l.take (k + 1)))) := by
          rw [HBB.out, cellsF_app, List.length_append]; exact hown4
        clear hown4 hgrow4 HBB hm hnl
        go_wp2
        go_roundw
        case rel => exact ⟨k + 1, by go_num, hlt, hk4, hown4'⟩
        case measure => simp [intOf]; omega
    · obtain rfl : k = l.length := by omega
      have hlt2 : ¬ (l.length : Int) < (l.length : Int) := by omega
      rw [List.take_of_length_le (Nat.le_refl _)] at hown
      obtain ⟨t, ht⟩ : ∃ t, Pf.taken a b l = t := ⟨_, rfl⟩
      have HT : Hid (Pf.taken a b l = t) := ht
      have HE : Hid (Pf.takenE a b l = if t = [] then 5 else if t.any (fun f => Pf.tooLong f.path) then 2 else 0) := by rw [← ht]; rfl
      rw [ht] at hown
      have hF2 : Fs wr u8 t := Fs.of_own hown
      have hwl := taken_len a b l
      rw [ht] at hwl
      clear ht
      obtain ⟨q2, c2, hv2, hc2, _⟩ := id hF2
      subst hv2
      cases t with
      | nil =>
        go_wp2
        go_ret2
        refine ⟨⟨.slice none 0 0, ?_, ?_⟩, hkx⟩
        · rw [HE.out]; rfl
        · rw [HE.out]; exact fun h => absurd h (by decide)
      | cons f0 t0 =>
        have hne : ¬ ((f0 :: t0).length : Int) = 0 := by simp; omega
        have HE2 : Hid (Pf.takenE a b l = if (f0 :: t0).any (fun f => Pf.tooLong f.path) then 2 else 0) := by
          have := HE.out
          rw [if_neg (by simp)] at this
          exact this
        clear HE
        generalize f0 :: t0 = t at *
        go_wp2_with fail
        refine (anyLong_any t _ _ hF2 (by omega)).mono ?_
        rintro _ w2 ⟨rfl, hk2⟩
        have hk3 := hkx.trans hk2
        have ho3 := own_kept' hown hk2 (fun _ _ _ => id)
        clear hk2 hown
        cases hb : t.any (fun f => Pf.tooLong f.path)
        · have HE3 : Hid (Pf.takenE a b l = 0) := by
            have := HE2.out; rw [hb] at this; exact this
          clear HE2 hb
          go_wp2
          go_ret2
          rw [HE3.out, HT.out]
          exact ⟨⟨_, rfl, fun _ => ho3⟩, hk3⟩
        · have HE3 : Hid (Pf.takenE a b l = 2) := by
            have := HE2.out; rw [hb] at this; exact this
          clear HE2 hb
          go_wp2
          go_ret2
          rw [HE3.out]
          exact ⟨⟨.slice none 0 0, rfl, fun h => absurd h (by decide)⟩, hk3⟩

theorem cellsF_one (l : List Fi) : ∀ u ∈ cellsF l, u.oneCell' = true := by
  intro u hu
  obtain ⟨f, _, hf⟩ := List.mem_flatMap.1 hu
  simp only [Fi.cells, List.mem_cons, List.not_mem_nil, or_false] at hf
  rcases hf with rfl | rfl | rfl <;> rfl

theorem wpList_append_fs {w : World} {ops : Array Oper} {rest : List Oper} {o : Oper} {a : Act} {Q : Exit → Act → World → Prop} (hgd : o.guard = none) (s x : Operand)
    (ho : o.op = .call { callee := .builtin .append, args := #[s, x], argTypes := #[107, 107] })
    (base : Nat) (v : Value) (L : List Fi) (hs : a.eval s = v) (hown : w.ownsRow base 114 3 v L.length (cellsF L)) (xv : Value) (M : List Fi) (hx : a.eval x = xv) (hF : Fs w xv M)
    (hlen : L.length + M.length ≤ 2000) (hbase : base ≤ w.heap.size)
    (h : ∀ v' w', w'.ownsRow base 114 3 v' (L ++ M).length (cellsF (L ++ M)) → w.grownBy w' v.ownBlock → wpList Tryz.prog ops Q rest (a.put o.dst v') w') : wpList Tryz.prog ops Q (o :: rest) a w := by
  obtain ⟨i0, hi, hz0, hz1, hz2⟩ := info_parts info105
  obtain ⟨q, c, rfl, hc, hr, hz⟩ := hF
  cases q with
  | none =>
    have hM : M = [] := by
      apply Classical.byContradiction
      intro hne
      obtain ⟨_, _, e, _⟩ := hr hne
      cases e
    subst hM
    obtain rfl := hz rfl
    refine wpList_append_own_none hgd s x 107 ho base 114 i0 3 Tryz.underlying107 hi v L.length (cellsF L) hs hown hx ?_
    refine h v w ?_ ⟨rfl, rfl, rfl, Nat.le_refl _, fun _ _ _ => rfl⟩
    rw [List.append_nil]; exact hown
  | some ad =>
    refine wpList_append_own _ hgd s x 107 ho base 114 i0 _ 3 48 Tryz.underlying107 hi hz0 hz1 hz2 rfl (by decide) v L.length (cellsF L) hs hown ad M.length c (cellsF M) hx (cellsF_len M) ?_ (cellsF_one M) (by unfold maxLen; omega) (by omega) hbase ?_
    · intro j u hu
      have hne : M ≠ [] := by rintro rfl; simp [cellsF] at hu
      obtain ⟨g, o, e, hcell⟩ := hr hne
      cases e
      have e : (⟨g, o, none⟩ : Addr).add j = ⟨g, o + j, none⟩ := by simp [Addr.add]
      rw [e]
      exact hcell j u hu
    · intro v' w' h1 h2 _
      refine h v' w' ?_ h2
      rw [cellsF_app, List.length_append]; exact h1

set_option maxHeartbeats 1600000 in
set_option maxRecDepth 100000 in
theorem grow_nil (n : Nat) (w : World) (hn : n ≤ 2000) :
    Calls Tryz.prog 393 #[.slice none 0 0, .int .i64 n] w fun e w' => (∃ v', e = .returned v' ∧ w'.ownsRow w.heap.size 114 3 v' 0 []) ∧ Kx (fun _ => False) w w' := by
  obtain ⟨i0, hi, hz0, hz1, hz2⟩ := info_parts info105
  have h1 : ¬ ((n : Int) < 0) := by omega
  have h3 : wrap64 ((n : Int) - 0) = (n : Int) := by unfold wrap64; omega
  have h3' : wrap64 (n : Int) = (n : Int) := by unfold wrap64; omega
  by_cases h0 : n = 0
  · subst h0
    go_enter Tryz.func393, Tryz.ntmps393
    go_wp2
    go_ret
    exact ⟨⟨_, rfl, World.ownsRow_nil _ _ _ _⟩, Kx.refl _ _⟩
  · have h4 : (0 : Int) < (n : Int) := by omega
    have h4' : 0 < n := by omega
    have hrz : ∀ ty, (Builtin.append_ #[107, 3] ty #[.slice none 0 0, .int .i64 (n : Int)]).run Tryz.prog w = _ := fun ty =>
      Lib.run_append_grow_zeros w 107 3 ty 114 i0 _ .i64 .i64 Tryz.underlying107 Tryz.underlying3 hi hz0 none 0 0 [] (run_firstCells_none w.drew _ 0 0 0) n h4' (by omega) (by omega) (by omega) (by rw [hz2]; omega) (growslice_fits (by omega) (by rw [hz2]; omega))
    have hge := grownCap_ge w (0 + n) 0 114
    have hle := grownCap_le_maxLen w (0 + n) 0 114 (by unfold maxLen; omega)
    generalize grownCap w (0 + n) 0 114 = G at *
    rw [Nat.zero_add] at hge
    have hcur : (Builtin.zeroCells #[.string ⟨#[]⟩, .string ⟨#[]⟩, .string ⟨#[]⟩] n ++ Builtin.zeroCells #[.string ⟨#[]⟩, .string ⟨#[]⟩, .string ⟨#[]⟩] (G - n)).size = G * 3 := by
      rw [Array.size_append, size_zeroCells, size_zeroCells]
      show n * 3 + (G - n) * 3 = G * 3
      omega
    have hown : (w.alloc (.cells (Builtin.zeroCells #[.string ⟨#[]⟩, .string ⟨#[]⟩, .string ⟨#[]⟩] n ++ Builtin.zeroCells #[.string ⟨#[]⟩, .string ⟨#[]⟩, .string ⟨#[]⟩] (G - n)) 114)).drew.ownsRow w.heap.size 114 3 (.slice (some ⟨w.heap.size, 0, none⟩) 0 G) 0 [] :=
      (World.ownsRow_made w _ G (Nat.le_refl _) hle hcur).drew
    have hkx : Kx (fun _ => False) w (w.alloc (.cells (Builtin.zeroCells #[.string ⟨#[]⟩, .string ⟨#[]⟩, .string ⟨#[]⟩] n ++ Builtin.zeroCells #[.string ⟨#[]⟩, .string ⟨#[]⟩, .string ⟨#[]⟩] (G - n)) 114)).drew := ((Kx.refl _ _).alloc _).drew
    have hG : (0 : Int) ≤ (G : Int) := by omega
    clear hcur
    go_enter Tryz.func393, Tryz.ntmps393
    go_wp2_with (at_builtin; refine Lib.wpList_append_run _ rfl _ _ _ _ rfl _ _ rfl rfl _ _ (hrz _) ?_)
    go_ret
    exact ⟨⟨_, rfl, hown⟩, hkx⟩

set_option maxHeartbeats 1600000 in
set_option maxRecDepth 100000 in
theorem concat_any (l1 l2 : List Fi) (v1 v2 : Value) (g : Nat) (w : World) (h1 : Fs w v1 l1) (h2 : Fs w v2 l2) (hlen : l1.length + l2.length ≤ 2000)
    (c1 : w.cell? ⟨g, 0, none⟩ = some v1) (c2 : w.cell? ⟨g, 1, none⟩ = some v2) :
    Calls Tryz.prog 382 #[.slice (some ⟨g, 0, none⟩) 2 2] w fun e w' => (∃ v', e = .returned v' ∧ w'.ownsRow w.heap.size 114 3 v' (l1 ++ l2).length (cellsF (l1 ++ l2))) ∧ Kx (fun _ => False) w w' := by
  obtain ⟨J, hJ⟩ : ∃ J : Nat → List Fi, J = fun k => if k = 0 then [] else if k = 1 then l1 else l1 ++ l2 := ⟨_, rfl⟩
  have J0 : Hid (J 0 = []) := by rw [hJ]; exact rfl
  have J1 : Hid (J 1 = l1) := by rw [hJ]; exact rfl
  have J2 : Hid (J 2 = l1 ++ l2) := by rw [hJ]; exact rfl
  clear hJ
  have hg := lt_of_cell (p := ⟨g, 0, none⟩) c1
  obtain ⟨q1, k1, e1, hk1, _⟩ := id h1
  obtain ⟨q2, k2, e2, hk2, _⟩ := id h2
  subst e1
  subst e2
  have hl1 : ¬ ((l1.length : Int) < 0) := by omega
  have hl2 : ¬ ((l1.length : Int) + (l2.length : Int) < 0) := by omega
  have hw1 : wrap64 (l1.length : Int) = (l1.length : Int) := by unfold wrap64; omega
  have hw2 : wrap64 ((l1.length : Int) + (l2.length : Int)) = (l1.length : Int) + (l2.length : Int) := by unfold wrap64; omega
  go_enter Tryz.func382, Tryz.ntmps382
  go_wp2
  go_loopw [11, 3] (fun iv n w' => ∃ (k : Nat), iv = .int .i64 k ∧ k ≤ 2 ∧ w' = w ∧ n = .int .i64 (J k).length) (fun iv _ _ => 2 - (intOf iv).toNat)
  case atStart => exact ⟨0, rfl, by omega, rfl, by rw [J0.out]; rfl⟩
  case round =>
    obtain ⟨k, rfl, hk, rfl, rfl⟩ := hrel
    have hk' : k = 0 ∨ k = 1 ∨ k = 2 := by omega
    rcases hk' with rfl | rfl | rfl
    · rw [J0.out]
      go_wp2
      go_roundw
      case rel => exact ⟨1, rfl, by omega, trivial, by rw [J1.out]⟩
      case measure => simp [intOf]
    · rw [J1.out]
      go_wp2
      go_roundw
      case rel => exact ⟨2, rfl, by omega, trivial, by rw [J2.out, List.length_append]; simp⟩
      case measure => simp [intOf]
    · have hn2 : (J 2).length ≤ 2000 := by rw [J2.out, List.length_append]; omega
      generalize (J 2).length = n at *
      go_wp2_with fail
      refine (grow_nil n _ hn2).mono ?_
      rintro _ w2 ⟨⟨v3, rfl, ho3⟩, hk3⟩
      go_wp2
      go_loopw [27, 6] (fun iv v w' => ∃ (k : Nat), iv = .int .i64 k ∧ k ≤ 2 ∧ Kx (fun _ => False) wr w' ∧ w'.ownsRow wr.heap.size 114 3 v (J k).length (cellsF (J k))) (fun iv _ _ => 2 - (intOf iv).toNat)
      case atStart => exact ⟨0, rfl, by omega, hk3, by rw [J0.out]; exact ho3⟩
      case round =>
        obtain ⟨k, rfl, hk, hkx, hown⟩ := hrel
        have hk' : k = 0 ∨ k = 1 ∨ k = 2 := by omega
        have d1 := (hkx.cell (p := ⟨g, 0, none⟩) hg id).trans c1
        have d2 := (hkx.cell (p := ⟨g, 1, none⟩) hg id).trans c2
        rcases hk' with rfl | rfl | rfl
        · rw [J0.out] at hown
          have hF1 := h1.kept hkx (fun _ _ => id)
          go_wp2_with (at_builtin; refine wpList_append_fs rfl (.tmp 31) (.tmp 32) rfl _ _ [] rfl hown _ l1 rfl hF1 (by simp; omega) hkx.size ?_; intro v4 w4 ho4 hg4; have hk4 := hkx.grown hg4 (fun k he => (hown.lt k he).1))
          go_roundw
          case rel => exact ⟨1, rfl, by omega, hk4, by rw [J1.out]; exact ho4⟩
          case measure => simp [intOf]
        · rw [J1.out] at hown
          have hF2 := h2.kept hkx (fun _ _ => id)
          go_wp2_with (at_builtin; refine wpList_append_fs rfl (.tmp 31) (.tmp 32) rfl _ _ l1 rfl hown _ l2 rfl hF2 (by omega) hkx.size ?_; intro v4 w4 ho4 hg4; have hk4 := hkx.grown hg4 (fun k he => (hown.lt k he).1))
          go_roundw
          case rel => exact ⟨2, rfl, by omega, hk4, by rw [J2.out]; exact ho4⟩
          case measure => simp [intOf]
        · rw [J2.out] at hown
          go_wp2
          go_ret
          exact ⟨⟨_, rfl, hown⟩, hkx⟩

end Go.Proofs.YtepgoppgblfjbaaGreatDoor

/- slices.pdqsortCmpFunc at files, laid (the shelf). -/
namespace Go.Proofs
open Go.Shelf
def Tryz.pdqF_ren : Go.Shelf.Ren := ⟨fun | 14 => 394 | 20 => 395 | 21 => 396 | 22 => 397 | 23 => 398 | 24 => 399 | 25 => 400 | 26 => 401 | 27 => 402 | 46 => 403 | 47 => 310 | 48 => 311 | 49 => 404 | 50 => 405 | 15 => 184 | 57 => 406 | 28 => 257 | 29 => 258 | n => n, fun | 24 => 114 | 22 => 106 | 3 => 3 | 25 => 445 | 4 => 4 | 0 => 0 | 46 => 347 | 45 => 346 | 50 => 351 | 66 => 399 | 39 => 283 | 55 => 229 | 70 => 403 | 76 => 423 | 77 => 424 | 53 => 172 | 5 => 5 | 9 => 9 | n => n, fun | n => n⟩
theorem Tryz.pdqF : Go.Proofs.SlLaysF0.n14 Tryz.prog Tryz.pdqF_ren := {
  mixed := by kernel_rfl
  f14 := ⟨Tryz.f394.name, by decide, Tryz.func394.trans (congrArg some (by kernel_rfl))⟩
  f15 := Tryz.func184.trans (congrArg some (by kernel_rfl))
  f20 := ⟨Tryz.f395.name, by decide, Tryz.func395.trans (congrArg some (by kernel_rfl))⟩
  f21 := ⟨Tryz.f396.name, by decide, Tryz.func396.trans (congrArg some (by kernel_rfl))⟩
  f22 := ⟨Tryz.f397.name, by decide, Tryz.func397.trans (congrArg some (by kernel_rfl))⟩
  f23 := ⟨Tryz.f398.name, by decide, Tryz.func398.trans (congrArg some (by kernel_rfl))⟩
  f24 := ⟨Tryz.f399.name, by decide, Tryz.func399.trans (congrArg some (by kernel_rfl))⟩
  f25 := ⟨Tryz.f400.name, by decide, Tryz.func400.trans (congrArg some (by kernel_rfl))⟩
  f26 := ⟨Tryz.f401.name, by decide, Tryz.func401.trans (congrArg some (by kernel_rfl))⟩
  f27 := ⟨Tryz.f402.name, by decide, Tryz.func402.trans (congrArg some (by kernel_rfl))⟩
  f28 := Tryz.func257.trans (congrArg some (by kernel_rfl))
  f29 := Tryz.func258.trans (congrArg some (by kernel_rfl))
  f46 := ⟨Tryz.f403.name, by decide, Tryz.func403.trans (congrArg some (by kernel_rfl))⟩
  f47 := Tryz.func310.trans (congrArg some (by kernel_rfl))
  f48 := Tryz.func311.trans (congrArg some (by kernel_rfl))
  f49 := ⟨Tryz.f404.name, by decide, Tryz.func404.trans (congrArg some (by kernel_rfl))⟩
  f50 := ⟨Tryz.f405.name, by decide, Tryz.func405.trans (congrArg some (by kernel_rfl))⟩
  f57 := ⟨Tryz.f406.name, by decide, Tryz.func406.trans (congrArg some (by kernel_rfl))⟩
  t0 := Tryz.underlying0
  a0 := Tryz.isAgg0
  z0 := Tryz.sizeOf0
  v0 := Tryz.zeroValue0
  t3 := Tryz.underlying3
  a3 := Tryz.isAgg3
  z3 := Tryz.sizeOf3
  v3 := Tryz.zeroValue3
  t4 := Tryz.underlying4
  a4 := Tryz.isAgg4
  z4 := Tryz.sizeOf4
  v4 := Tryz.zeroValue4
  t5 := Tryz.underlying5
  a5 := Tryz.isAgg5
  z5 := Tryz.sizeOf5
  v5 := Tryz.zeroValue5
  t9 := Tryz.underlying9
  a9 := Tryz.isAgg9
  z9 := Tryz.sizeOf9
  v9 := Tryz.zeroValue9
  t22 := Tryz.underlying106
  a22 := Tryz.isAgg106
  z22 := Tryz.sizeOf106
  v22 := Tryz.zeroValue106
  t25 := Tryz.underlying445
  a25 := Tryz.isAgg445
  z25 := Tryz.sizeOf445
  v25 := Tryz.zeroValue445
  t39 := Tryz.underlying283
  a39 := Tryz.isAgg283
  z39 := Tryz.sizeOf283
  v39 := Tryz.zeroValue283
  t45 := Tryz.underlying346
  a45 := Tryz.isAgg346
  z45 := Tryz.sizeOf346
  v45 := Tryz.zeroValue346
  t46 := Tryz.underlying347
  a46 := Tryz.isAgg347
  z46 := Tryz.sizeOf347
  v46 := Tryz.zeroValue347
  t50 := Tryz.underlying351
  a50 := Tryz.isAgg351
  z50 := Tryz.sizeOf351
  v50 := Tryz.zeroValue351
  t53 := Tryz.underlying172
  a53 := Tryz.isAgg172
  z53 := Tryz.sizeOf172
  v53 := Tryz.zeroValue172
  t55 := Tryz.underlying229
  a55 := Tryz.isAgg229
  z55 := Tryz.sizeOf229
  v55 := Tryz.zeroValue229
  t66 := Tryz.underlying399
  a66 := Tryz.isAgg399
  z66 := Tryz.sizeOf399
  v66 := Tryz.zeroValue399
  t70 := Tryz.underlying403
  a70 := Tryz.isAgg403
  z70 := Tryz.sizeOf403
  v70 := Tryz.zeroValue403
  t76 := Tryz.underlying423
  a76 := Tryz.isAgg423
  z76 := Tryz.sizeOf423
  v76 := Tryz.zeroValue423
  t77 := Tryz.underlying424
  a77 := Tryz.isAgg424
  z77 := Tryz.sizeOf424
  v77 := Tryz.zeroValue424 }
end Go.Proofs
namespace Go.Proofs.YtepgoppgblfjbaaGreatDoor
open Go.RowKit Go.Sort Go.Shelf

set_option maxHeartbeats 800000 in
set_option maxRecDepth 100000 in
theorem isNaN_any (s : ByteArray) (w : World) :
    Calls Tryz.prog 314 #[.string s] w fun e w' => e = .returned (.bool false) ∧ w' = w := by
  go_enter Tryz.func314, Tryz.ntmps314
  go_wp2
  go_ret
  exact ⟨rfl, rfl⟩

namespace Pf
def cmp (a b : List UInt8) : Int := if Op.bytesLess a b then -1 else if a == b then 0 else 1
end Pf

theorem cmp_lt (a b : List UInt8) : decide (Pf.cmp a b < 0) = Op.bytesLess a b := by
  unfold Pf.cmp
  cases h : Op.bytesLess a b
  · simp only [if_neg (show ¬ (false = true) by simp)]
    by_cases e : (a == b) = true
    · rw [if_pos e]; rfl
    · rw [if_neg e]; rfl
  · rfl

set_option maxHeartbeats 800000 in
set_option maxRecDepth 100000 in
theorem compare_any (a b : List UInt8) (w : World) :
    Calls Tryz.prog 385 #[.string ⟨a.toArray⟩, .string ⟨b.toArray⟩] w fun e w' => e = .returned (.int .i64 (Pf.cmp a b)) ∧ w' = w := by
  have HC : Hid (Pf.cmp a b = if Op.bytesLess a b then -1 else if a == b then 0 else 1) := rfl
  generalize Pf.cmp a b = C at *
  go_enter Tryz.func385, Tryz.ntmps385
  cases h1 : Op.bytesLess a b
  · cases h2 : (a == b)
    · go_wp2_with (go_at_call 314; refine (isNaN_any _ _).mono ?_; rintro _ w2 ⟨rfl, hw⟩; rw [hw])
      go_ret
      have := HC.out
      rw [h1, h2] at this
      rw [this]
      exact ⟨rfl, rfl⟩
    · go_wp2_with (go_at_call 314; refine (isNaN_any _ _).mono ?_; rintro _ w2 ⟨rfl, hw⟩; rw [hw])
      go_ret
      have := HC.out
      rw [h1, h2] at this
      rw [this]
      exact ⟨rfl, rfl⟩
  · go_wp2_with (go_at_call 314; refine (isNaN_any _ _).mono ?_; rintro _ w2 ⟨rfl, hw⟩; rw [hw])
    go_ret
    have := HC.out
    rw [h1] at this
    rw [this]
    exact ⟨rfl, rfl⟩

set_option maxHeartbeats 800000 in
set_option maxRecDepth 100000 in
theorem with1_any (x y : Fi) (w : World) :
    Calls Tryz.prog 384 #[.agg x.cells.toArray, .agg y.cells.toArray] w fun e w' => e = .returned (.int .i64 (Pf.cmp x.path y.path)) ∧ ∃ q os', w' = grow (w.drewN q) os' := by
  obtain ⟨xp, xm, xs⟩ := x
  obtain ⟨yp, ym, ys⟩ := y
  unfold Fi.cells
  simp only
  go_enter Tryz.func384, Tryz.ntmps384
  go_wp2_with (go_at_call 385; refine (compare_any xp yp _).mono ?_; rintro _ w2 ⟨rfl, hw⟩; rw [hw])
  go_ret
  exact ⟨rfl, 0, _, by rw [alloc_eq_grow, alloc_eq_grow, grow_grow]; rfl⟩

theorem swoF : SWO (ltOf fun x y : Fi => Pf.cmp x.path y.path) where
  irrefl x := by unfold ltOf; rw [cmp_lt, bytesLess_eq]; simp
  trans x y z h1 h2 := by unfold ltOf at *; rw [cmp_lt, bytesLess_eq] at *; simp at *; exact List.lt_trans h1 h2
  ntrans x y z h1 h2 := by unfold ltOf at *; rw [cmp_lt, bytesLess_eq] at *; simp at *; exact List.le_trans h2 h1

theorem cmpLaysF [Inhabited Fi] (blk off size : Nat) (w : World) : CmpLays Tryz.prog 384 #[] Fi.cells 3 (fun x y => Pf.cmp x.path y.path) blk off size w :=
  fun _ _ _ _ x y => with1_any x y _

theorem flat_eq [Inhabited Fi] (l : List Fi) : flatK Fi.cells 3 l.toArray = (cellsF l).toArray := by
  refine ext_get! (by simp [cellsF_len]) fun t ht => ?_
  have ht' : t < l.length * 3 := by simpa using ht
  have hd : t / 3 < l.length := by omega
  rw [get_flatK _ _ _ t (by simpa using ht')]
  have e1 : (l.toArray)[t / 3]! = l[t / 3] := by rw [getElem!_pos _ _ (by simpa using hd)]; simp
  rw [e1]
  have hm : t % 3 < (l[t / 3].cells).length := by simp [Fi.cells]; omega
  have h := cellsF_at l (t / 3) l[t / 3] (List.getElem?_eq_getElem hd) (t % 3) (l[t / 3].cells[t % 3]) (List.getElem?_eq_getElem hm)
  have e2 : 3 * (t / 3) + t % 3 = t := by omega
  rw [e2] at h
  have h3 : t < (cellsF l).length := by rw [cellsF_len]; exact ht'
  rw [List.getElem?_eq_getElem h3] at h
  simp only [Option.some.injEq] at h
  rw [getElem!_pos (l[t / 3].cells) (t % 3) hm, getElem!_pos (cellsF l).toArray t (by simpa using h3), ← h]
  simp

theorem sorted_block [Inhabited Fi] {w : World} {g n : Nat} {os : Array Obj} {cur : Array Value} {e : TypeId} {fr : Nat × Nat} (l : List Fi) (hb : w.heap[g]? = some (.cells cur e fr)) :
    (sortWorldK Fi.cells 3 w g 0 n l.toArray os).heap[g]? = some (.cells (putCells id 0 (cellsF l).toArray cur) e fr) := by
  have hg : g < w.heap.size := (Array.getElem?_eq_some_iff.1 hb).1
  unfold sortWorldK putRowK
  rw [flat_eq, heap_grow_old _ _ (by simpa using hg)]
  simp [putRow, mapBlock, Sort.ahead, Array.getElem?_modify, hb, onCells]

theorem sorted_kx [Inhabited Fi] {w : World} {g n : Nat} {os : Array Obj} (l : List Fi) : Kx (fun k => k = g) w (sortWorldK Fi.cells 3 w g 0 n l.toArray os) := by
  refine ⟨rfl, rfl, rfl, by simp [sortWorldK, putRowK], fun k hk hne => ?_⟩
  unfold sortWorldK putRowK
  rw [heap_grow_old _ _ (by simpa using hk)]
  have : g ≠ k := fun e => hne e.symm
  simp [putRow, mapBlock, Sort.ahead, Array.getElem?_modify, this]

theorem take_putCellsF (cur : Array Value) (xs : List Value) (h : xs.length ≤ cur.size) : (putCells id 0 xs.toArray cur).toList.take xs.length = xs := by
  apply List.ext_getElem?
  intro j
  by_cases hj : j < xs.length
  · rw [List.getElem?_take_of_lt hj, Array.getElem?_toList]
    simp [putCells, hj, show j < cur.size by omega]
  · rw [List.getElem?_take_eq_none (by omega), List.getElem?_eq_none (by omega)]

theorem own_sorted [Inhabited Fi] {w : World} {base g cap n : Nat} {os : Array Obj} {l l' : List Fi} (hl : l'.length = l.length) (h : w.ownsRow base 114 3 (.slice (some ⟨g, 0, none⟩) l.length cap) l.length (cellsF l)) :
    (sortWorldK Fi.cells 3 w g 0 n l'.toArray os).ownsRow base 114 3 (.slice (some ⟨g, 0, none⟩) l'.length cap) l'.length (cellsF l') := by
  rcases h.2 with ⟨h0, _⟩ | ⟨g', cap', cur, e, hb, hg, hc, hm, hs, ht⟩
  · cases h0
  · cases e
    refine ⟨cellsF_len l', .inr ⟨g, cap, _, rfl, hb, sorted_block l' hg, by omega, hm, by simp [putCells, hs], ?_⟩⟩
    rw [← cellsF_len l']
    exact take_putCellsF cur (cellsF l') (by rw [cellsF_len]; omega)

theorem holds_own [Inhabited Fi] {w : World} {base g cap : Nat} {l : List Fi} (h : w.ownsRow base 114 3 (.slice (some ⟨g, 0, none⟩) l.length cap) l.length (cellsF l)) : HoldsK Fi.cells 3 w g 0 l.toArray := by
  rcases h.2 with ⟨h0, _⟩ | ⟨g', cap', cur, e, hb, hg, hc, hm, hs, ht⟩
  · cases h0
  · cases e
    unfold HoldsK
    rw [flat_eq]
    intro j hj
    have hj' : j < (cellsF l).length := by simpa using hj
    have hj3 : j < l.length * 3 := by rw [cellsF_len] at hj'; exact hj'
    refine ⟨?_, by simp [World.frozen?, hg]⟩
    have h1 : (cur.toList.take (l.length * 3))[j]? = (cellsF l)[j]? := by rw [ht]
    rw [List.getElem?_take_of_lt hj3] at h1
    simp only [World.cell?, hg, Nat.zero_add]
    simp only [Option.isSome_none, Bool.false_eq_true, if_false]
    rw [← Array.getElem?_toList, h1]
    simp [hj']

def SortedF (l : List Fi) : Prop := l.Pairwise fun x y => Op.bytesLess y.path x.path = false

set_option maxHeartbeats 1600000 in
set_option maxRecDepth 100000 in
theorem sortF_any (l : List Fi) (g cap base : Nat) (w : World) (hown : w.ownsRow base 114 3 (.slice (some ⟨g, 0, none⟩) l.length cap) l.length (cellsF l)) (hl : l.length ≤ 1000) :
    Calls Tryz.prog 383 #[.slice (some ⟨g, 0, none⟩) l.length cap, .func (.func 384) #[] #[]] w fun e w' => e = .returned (.tuple #[]) ∧
      ∃ l', l'.Perm l ∧ SortedF l' ∧ w'.ownsRow base 114 3 (.slice (some ⟨g, 0, none⟩) l'.length cap) l'.length (cellsF l') ∧ Kx (fun k => k = g) w w' := by
  haveI : Inhabited Fi := ⟨⟨[], [], []⟩⟩
  have eg : ∀ args w, (callFunc 384 args).run Tryz.prog w = .ok (.enter 384 args) w := enters_of Tryz.func384 (by kernel_rfl) rfl
  have hH := holds_own hown
  have hblk : g < w.heap.size := (hown.lt g rfl).2
  have hp := AnyQ.pdqsortCmpFunc_all Tryz.pdqF 3 Tryz.isAgg114 Tryz.sizeOf114 Fi.cells (fun x y => Pf.cmp x.path y.path) 384 #[] swoF g 0 cap l.toArray w eg (cmpLaysF g 0 _ w) ⟨fun _ => rfl, fun x v hv => by simp only [Fi.cells, List.mem_cons, List.not_mem_nil, or_false] at hv; rcases hv with rfl | rfl | rfl <;> rfl, hH, hblk⟩ (l.length + 1) 0 l.length (Lib.bitLen l.length) l.toArray w (by omega) rfl (SWK.start hH) (Nat.zero_le _) (by simp) (by simp; omega) (Nat.lt_of_le_of_lt (Lib.bitLen_le l.length 62 (by omega) (by omega)) (by omega)) (Or.inl rfl)
  change Calls Tryz.prog 394 _ _ _ at hp
  have hsort := pdq_sorts (ltOf fun x y : Fi => Pf.cmp x.path y.path) swoF l.toArray 0 l.length (Lib.bitLen l.length) true true (Nat.zero_le _) (by simp) (Or.inl rfl)
  have hlen : Calls Tryz.prog 184 #[.int .u64 (l.length : Int)] w fun e w' => e = .returned (.int .i64 (Lib.bitLen l.length : Nat)) ∧ w' = w := by
    have h := Any.bits_Len (SlLaysF0.n15.bits (P := Tryz.prog) (ρ := Tryz.pdqF_ren) { Tryz.pdqF with }) (l.length : Int) w (by omega) (by omega)
    rwa [Int.toNat_natCast] at h
  have wr : IntKind.u64.wrap (l.length : Int) = l.length := by simp [IntKind.wrap, IntKind.bits, IntKind.signed]; omega
  generalize pdq (ltOf fun x y : Fi => Pf.cmp x.path y.path) l.toArray 0 l.length (Lib.bitLen l.length) true true = d at *
  obtain ⟨⟨hs1, _, hs2⟩, hs3⟩ := hsort
  have hdl : d.toList.length = l.length := by simpa using hs1
  have hperm : d.toList.Perm l := by
    have e1 : d.extract 0 l.length = d := by rw [← show d.size = l.length by simpa using hs1]; simp
    have e2 : l.toArray.extract 0 l.length = l.toArray := by simp
    rw [e1, e2] at hs2
    simpa using hs2
  have hsrt : SortedF d.toList := by
    refine List.pairwise_iff_getElem.2 fun i j hi hj hij => ?_
    have h := hs3 i j (Nat.zero_le _) hij (by rw [← hdl]; exact hj)
    unfold ltOf at h
    rw [cmp_lt] at h
    rw [getElem!_pos d j (by simpa using hj), getElem!_pos d i (by simpa using hi)] at h
    simpa using h
  have hend : ∀ W, SWK Fi.cells 3 w g 0 d W → ∃ l' : List Fi, l'.Perm l ∧ SortedF l' ∧ W.ownsRow base 114 3 (.slice (some ⟨g, 0, none⟩) l'.length cap) l'.length (cellsF l') ∧ Kx (fun k => k = g) w W := by
    rintro W ⟨n, os, rfl⟩
    refine ⟨d.toList, hperm, hsrt, ?_, ?_⟩
    · have := own_sorted (n := n) (os := os) hdl hown
      rw [Array.toArray_toList] at this
      exact this
    · have := sorted_kx (w := w) (g := g) (n := n) (os := os) d.toList
      rw [Array.toArray_toList] at this
      exact this
  have HEND : Hid (∀ W, SWK Fi.cells 3 w g 0 d W → ∃ l' : List Fi, l'.Perm l ∧ SortedF l' ∧ W.ownsRow base 114 3 (.slice (some ⟨g, 0, none⟩) l'.length cap) l'.length (cellsF l') ∧ Kx (fun k => k = g) w W) := hend
  clear hend hsrt hperm hdl hs1 hs2 hs3 hH hown eg
  have hp' : Calls Tryz.prog 394 #[.slice (some ⟨g, 0, none⟩) l.length cap, .int .i64 (0 : Int), .int .i64 (l.length : Int), .int .i64 (Lib.bitLen l.length : Nat), .func (.func 384) #[] #[]] w fun e w' => e = .returned (.tuple #[]) ∧ SWK Fi.cells 3 w g 0 d w' := by
    have := hp
    rw [List.size_toArray] at this
    exact this
  clear hp
  go_enter Tryz.func383, Tryz.ntmps383
  go_wp2_with (first | (go_at_call 184; refine hlen.mono ?_; rintro e w' ⟨rfl, rfl⟩) | (go_at_call 394; refine hp'.mono ?_; rintro e w' ⟨rfl, hSW⟩))
  go_end0
  exact ⟨rfl, HEND.out _ hSW⟩

end Go.Proofs.YtepgoppgblfjbaaGreatDoor
namespace Go.Proofs.YtepgoppgblfjbaaGreatDoor
open Go.RowKit

namespace Pf
def sortF (l : List Fi) : List Fi := l.mergeSort fun x y => !Op.bytesLess y.path x.path
def withE (l : List Fi) : Int := if l.length ≤ 60 then 0 else 2
end Pf

theorem sortF_perm (l : List Fi) : (Pf.sortF l).Perm l := List.mergeSort_perm _ _

theorem sortF_sorted (l : List Fi) : SortedF (Pf.sortF l) := by
  have h := List.pairwise_mergeSort (le := fun x y : Fi => !Op.bytesLess y.path x.path) (fun a b c h1 h2 => by
      simp only [bytesLess_eq, Bool.not_eq_true', decide_eq_false_iff_not, List.not_lt] at *
      exact List.le_trans h1 h2) (fun a b => by
      simp only [bytesLess_eq, Bool.or_eq_true, Bool.not_eq_true', decide_eq_false_iff_not, List.not_lt]
      exact List.le_total _ _) l
  exact h.imp (fun h => by simpa using h)

theorem sorted_one {l l' : List Fi} (hnd : (l.map Fi.path).Nodup) (hp : l'.Perm l) (hs : SortedF l') : l' = Pf.sortF l := by
  refine List.Perm.eq_of_pairwise (le := fun x y : Fi => Op.bytesLess y.path x.path = false) ?_ hs (sortF_sorted l) (hp.trans (sortF_perm l).symm)
  intro a b ha hb h1 h2
  have ha' := hp.mem_iff.1 ha
  have hb' := (sortF_perm l).mem_iff.1 hb
  simp only [bytesLess_eq, decide_eq_false_iff_not, List.not_lt] at h1 h2
  have e : a.path = b.path := List.le_antisymm h1 h2
  have hpw : l.Pairwise fun x y => x.path ≠ y.path := List.pairwise_map.1 hnd
  apply Classical.byContradiction
  intro hne
  obtain ⟨i, hi, rfl⟩ := List.getElem_of_mem ha'
  obtain ⟨j, hj, rfl⟩ := List.getElem_of_mem hb'
  have hpw' := List.pairwise_iff_getElem.1 hpw
  rcases Nat.lt_trichotomy i j with h | h | h
  · exact hpw' i j hi hj h e
  · subst h; exact hne rfl
  · exact hpw' j i hj hi h e.symm

theorem Kx.trans_new {a b c : World} {g : Nat} (h : Kx (fun _ => False) a b) (k : Kx (fun k => k = g) b c) (hg : a.heap.size ≤ g) : Kx (fun _ => False) a c := by
  refine ⟨k.os.trans h.os, k.tape.trans h.tape, k.output.trans h.output, Nat.le_trans h.size k.size, fun j hj hx => ?_⟩
  rw [k.block j (Nat.lt_of_lt_of_le hj h.size) (by omega), h.block j hj hx]

set_option maxHeartbeats 1600000 in
set_option maxRecDepth 100000 in
theorem joined_any (l1 l2 : List Fi) (v1 v2 : Value) (w : World) (h1 : Fs w v1 l1) (h2 : Fs w v2 l2) (hlen : l1.length ≤ 500) (hlen2 : l2.length ≤ 500) (hne : l2 ≠ []) (hnd : ((l1 ++ l2).map Fi.path).Nodup) :
    Calls Tryz.prog 360 #[v1, v2] w fun e w' => (∃ v', e = .returned v' ∧ w'.ownsRow w.heap.size 114 3 v' (Pf.sortF (l1 ++ l2)).length (cellsF (Pf.sortF (l1 ++ l2)))) ∧ Kx (fun _ => False) w w' := by
  have hkA := (Kx.refl (fun _ => False) w).alloc (.cells #[v1, v2] 107)
  have g1 := h1.kept hkA (fun _ _ => id)
  have g2 := h2.kept hkA (fun _ _ => id)
  have c1 : (w.alloc (.cells #[v1, v2] 107)).cell? ⟨w.heap.size, 0, none⟩ = some v1 := by rw [World.cell?_alloc_at _ _ _ _ rfl]; rfl
  have c2 : (w.alloc (.cells #[v1, v2] 107)).cell? ⟨w.heap.size, 1, none⟩ = some v2 := by rw [World.cell?_alloc_at _ _ _ _ rfl]; rfl
  have hcon := concat_any l1 l2 v1 v2 w.heap.size _ g1 g2 (by omega) c1 c2
  obtain ⟨q1, k1, e1, hk1, _⟩ := id h1
  obtain ⟨q2, k2, e2, hk2, _⟩ := id h2
  subst e1
  subst e2
  clear g1 g2 c1 c2 h1 h2
  have hLne : l1 ++ l2 ≠ [] := by simp [hne]
  have hL : (l1 ++ l2).length ≤ 1000 := by rw [List.length_append]; omega
  generalize l1 ++ l2 = L at *
  clear hne
  go_enter Tryz.func360, Tryz.ntmps360
  go_wp2_with fail
  refine hcon.mono ?_
  rintro e w2 ⟨⟨v3, rfl, ho3⟩, hk3⟩
  have hk4 := hkA.trans hk3
  have ho4 : w2.ownsRow w.heap.size 114 3 v3 L.length (cellsF L) := own_mono ho3 (by rw [World.size_alloc]; omega)
  obtain ⟨g, cap, rfl, hgb⟩ : ∃ g cap, v3 = .slice (some ⟨g, 0, none⟩) L.length cap ∧ w.heap.size ≤ g := by
    rcases ho4.2 with ⟨rfl, h0⟩ | ⟨g, cap, cur, e, hb, _⟩
    · exact absurd (List.eq_nil_of_length_eq_zero h0) hLne
    · exact ⟨g, cap, e, hb⟩
  clear hcon hkA hk3 ho3
  have hsort := sortF_any L g cap w.heap.size w2 ho4 hL
  have HN : Hid ((L.map Fi.path).Nodup) := hnd
  clear hnd ho4
  go_wp2_with fail
  refine hsort.mono ?_
  rintro e w5 ⟨rfl, l', hp, hs, ho5, hk5⟩
  have hk6 : Kx (fun _ => False) w w5 := hk4.trans_new hk5 hgb
  have hl' : l'.length = L.length := hp.length_eq
  rw [hl'] at ho5
  have HL : Hid (l' = Pf.sortF L) := sorted_one HN.out hp hs
  clear hsort hp hs hk5 hl'
  go_wp2
  go_ret
  refine ⟨⟨_, rfl, ?_⟩, hk6⟩
  have hl2 : (Pf.sortF L).length = L.length := (sortF_perm L).length_eq
  rw [hl2, ← HL.out]
  exact ho5

set_option maxHeartbeats 800000 in
set_option maxRecDepth 100000 in
theorem with_any (l1 l2 : List Fi) (v1 v2 : Value) (w : World) (h1 : Fs w v1 l1) (h2 : Fs w v2 l2) (hlen : l1.length ≤ 500) (hlen2 : l2.length ≤ 500) (hne : l2 ≠ []) (hnd : ((l1 ++ l2).map Fi.path).Nodup) :
    Calls Tryz.prog 373 #[v1, v2] w fun e w' => (∃ v', e = .returned (.tuple #[v', .int .i64 (Pf.withE (l1 ++ l2))]) ∧ (Pf.withE (l1 ++ l2) = 0 → w'.ownsRow w.heap.size 114 3 v' (Pf.sortF (l1 ++ l2)).length (cellsF (Pf.sortF (l1 ++ l2))))) ∧ Kx (fun _ => False) w w' := by
  have hj := joined_any l1 l2 v1 v2 w h1 h2 hlen hlen2 hne hnd
  obtain ⟨q1, k1, e1, hk1, _⟩ := id h1
  obtain ⟨q2, k2, e2, hk2, _⟩ := id h2
  subst e1
  subst e2
  have hl2 : (Pf.sortF (l1 ++ l2)).length = (l1 ++ l2).length := (sortF_perm _).length_eq
  generalize l1 ++ l2 = L at *
  go_enter Tryz.func373, Tryz.ntmps373
  go_wp2_with fail
  refine hj.mono ?_
  rintro e w2 ⟨⟨v3, rfl, ho3⟩, hk3⟩
  clear hj
  rw [hl2] at ho3
  obtain ⟨a3, c3, rfl⟩ : ∃ a3 c3, v3 = .slice a3 L.length c3 := by
    rcases ho3.2 with ⟨rfl, h0⟩ | ⟨g, cap, cur, e, hb, _⟩
    · exact ⟨none, 0, by rw [h0]⟩
    · exact ⟨_, _, e⟩
  have HL2 : Hid ((Pf.sortF L).length = L.length) := hl2
  clear hl2
  by_cases h60 : L.length ≤ 60
  · have h60' : ¬ (60 : Int) < (L.length : Int) := by omega
    go_wp2
    go_ret2
    rw [show Pf.withE L = 0 from if_pos h60]
    exact ⟨⟨_, rfl, fun _ => by rw [HL2.out]; exact ho3⟩, hk3⟩
  · have h60' : (60 : Int) < (L.length : Int) := by omega
    go_wp2
    go_ret2
    rw [show Pf.withE L = 2 from if_neg h60]
    exact ⟨⟨_, rfl, fun h => absurd h (by decide)⟩, hk3⟩

end Go.Proofs.YtepgoppgblfjbaaGreatDoor
