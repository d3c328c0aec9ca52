import Derived.Test.YtepgoppgblfjbaaGreatDoorMw28
import Derived.Deep.QuietTactic
import Derived.BigQuiet
import Derived.Deep.CutRange
/- Merkle itself. -/
namespace Go.Proofs.YtepgoppgblfjbaaGreatDoor
open Go.RowKit

/-- Numbers that came in, cell by cell. -/
structure IntsAt (W : World) (a : Option Addr) (len : Nat) (f : Nat → Int) : Prop where
  small : len ≤ maxLen
  ok : ∀ i, i < len → I64 (f i)
  at' : len ≠ 0 → ∃ b off, a = some ⟨b, off, none⟩ ∧ ∀ i, i < len → W.cell? ⟨b, off + i, none⟩ = some (.int .i64 (f i))

theorem IntsAt.kept {W W' : World} {a : Option Addr} {len : Nat} {f : Nat → Int} (h : IntsAt W a len f) (hk : Kx (fun _ => False) W W') : IntsAt W' a len f := by
  refine ⟨h.small, h.ok, fun h0 => ?_⟩
  obtain ⟨b, off, e, hc⟩ := h.at' h0
  exact ⟨b, off, e, fun i hi => (hk.cell (p := ⟨b, off + i, none⟩) (lt_of_cell (p := ⟨b, off + i, none⟩) (hc i hi)) id).trans (hc i hi)⟩

def mPath (i : Nat) : List UInt8 := Pu.mPaths.getD i []
theorem mPath_mem (i : Nat) (h : i < 7) : mPath i ∈ Pu.mPaths := by
  have : i = 0 ∨ i = 1 ∨ i = 2 ∨ i = 3 ∨ i = 4 ∨ i = 5 ∨ i = 6 := by omega
  rcases this with rfl | rfl | rfl | rfl | rfl | rfl | rfl <;> decide
theorem mPath_len : ∀ p ∈ Pu.mPaths, p.length ≤ 5 := by decide
/-- The put of number i. -/
def mPut (D : Nat → Int) (i : Nat) : List UInt8 × Nat := (mPath i, pickN (D i) 50)
def mPuts (D : Nat → Int) (n : Nat) : List (List UInt8 × Nat) := (List.range n).map (mPut D)
def mAll (D : Nat → Int) (n : Nat) : List UInt8 := (mPuts D n).flatMap Pu.putT

theorem mPut_ok (D : Nat → Int) (i : Nat) (h : i < 7) : Pu.PutOk (mPut D i) ∧ (mPut D i).1.length ≤ 60 := by
  refine ⟨Pu.putOk (mPath_mem i h) (pickN_lt _ _ (by omega)), ?_⟩
  have := mPath_len _ (mPath_mem i h)
  show (mPath i).length ≤ 60
  omega

theorem mAll_succ (D : Nat → Int) (i : Nat) : mAll D (i + 1) = mAll D i ++ Pu.putT (mPut D i) := by
  unfold mAll mPuts
  rw [List.range_succ]
  simp

theorem mAll_len (D : Nat → Int) : ∀ n, n ≤ 7 → (mAll D n).length ≤ 43 * n := by
  intro n
  induction n with
  | zero => intro _; exact Nat.le_refl _
  | succ n ih =>
    intro h
    rw [mAll_succ, List.length_append]
    have := ih (by omega)
    have := (mPut_ok D n (by omega)).1.len
    omega

theorem Duo.start {w w1 w2 w3 : World} {s h o c r t s' h' o' c' r' t' : Nat} {M : Nat → Prop} (hk : Kx (fun _ => False) w w1) (hM : ∀ k, M k ↔ (False ∨ k = s ∨ Fo o c r t k)) (hN : StrNew (fun _ => False) w1 w2 s h o c r t) (hN' : StrNew M w2 w3 s' h' o' c' r' t') (hgl : Gl w3) :
    Duo w w3 s s' 0 (fun k => M k ∨ k = s' ∨ Fo o' c' r' t' k) St.empty St.empty := by
  obtain ⟨a1, a2⟩ := One.start hN
  obtain ⟨b1, b2⟩ := One.start hN'
  have hMe : M = fun k => False ∨ k = s ∨ Fo o c r t k := funext fun k => propext (hM k)
  have hsz := hN.kx.size
  have hsz0 := hk.size
  have hn' := hN'.new
  refine ⟨⟨_, _, a1.move ?_ ?_ hN'.kx (fun _ _ e => e.elim) (fun _ _ => id) b1.low, b1, fun k e e2 => ?_⟩, fun k e => ⟨?_, (b1.low k e).2⟩, hgl, (hk.trans hN.kx).trans hN'.kx⟩
  · intro k hk2 e
    rcases e with e | e | e
    · exact (hM k).1 e
    · omega
    · unfold Fo at e; omega
  · intro k e
    exact .inl ((hM k).2 e)
  · have h1 := b2 k e2
    have h2 := (a1.low k (a1.inM k e)).2
    omega
  · have hn := hN.new
    rcases e with e | e | e
    · rcases (hM k).1 e with e | e | e
      · exact e.elim
      · omega
      · unfold Fo at e; omega
    · omega
    · unfold Fo at e; omega

def intsV (l : List Nat) : List Value := l.map fun (j : Nat) => Value.int .i64 (j : Int)
theorem info3 : (Tryz.prog.info? 3).map (fun i => (i.zero, i.size, i.bytes)) = some (some (.int .i64 0), 1, 8) := by kernel_rfl
theorem intsV_app (a b : List Nat) : intsV (a ++ b) = intsV a ++ intsV b := List.map_append

theorem mkS_all (D : Nat → Int) (n : Nat) : Pu.mkS (mPuts D n) = Pu.folHead ++ mAll D n ++ [10, 100, 111, 110, 101, 10] := by
  simp [Pu.mkS, Pu.putX, mAll]
theorem mkS_nil : Pu.mkS [] = Pu.folHead ++ [10, 100, 111, 110, 101, 10] := rfl
theorem mPuts_ok (D : Nat → Int) (n : Nat) (hn : n ≤ 7) : ∀ x ∈ mPuts D n, Pu.PutOk x ∧ x.1.length ≤ 60 := by
  intro x hx
  obtain ⟨i, hi, rfl⟩ := List.mem_map.1 hx
  exact mPut_ok D i (by have := List.mem_range.1 hi; omega)
theorem mPuts_len (D : Nat → Int) (n : Nat) : (mPuts D n).length = n := by simp [mPuts]

theorem intsV_take {L : List Nat} {n m : Nat} {y : Value} (h : (intsV (L.take n))[m]? = some y) : (intsV L)[m]? = some y := by
  unfold intsV at h ⊢
  rw [List.map_take] at h
  have hm : m < n := by
    have := (List.getElem?_eq_some_iff.1 h).1
    rw [List.length_take] at this
    omega
  rw [List.getElem?_take_of_lt hm] at h
  exact h
theorem intsV_drop {L : List Nat} {n m : Nat} {y : Value} (h : (intsV (L.drop n))[m]? = some y) : (intsV L)[n + m]? = some y := by
  unfold intsV at h ⊢
  rw [List.map_drop, List.getElem?_drop] at h
  exact h

theorem perm_step {dn L A B : List Nat} {x k : Nat} (h : (dn.reverse ++ L).Perm (List.range k)) (e : L = A ++ x :: B) : ((dn ++ [x]).reverse ++ (A ++ B)).Perm (List.range k) := by
  subst e
  refine List.Perm.trans ?_ h
  rw [List.reverse_append, ← List.append_assoc dn.reverse A, List.reverse_singleton, List.singleton_append, List.cons_append, ← List.append_assoc dn.reverse A]
  exact List.perm_middle.symm

theorem putAll_len (KK : List Int) : ∀ (xs : List (List UInt8 × Nat)) (l : List Fi), (putAll KK l xs).length ≤ l.length + xs.length := by
  intro xs
  induction xs with
  | nil => intro l; exact Nat.le_refl _
  | cons x xs ih =>
    intro l
    have h1 : putAll KK l (x :: xs) = putAll KK (Pf.put (fileOf KK x) l) xs := rfl
    have h2 := ih (Pf.put (fileOf KK x) l)
    have h3 := put_len (fileOf KK x) l
    rw [h1, List.length_cons]
    omega

theorem mPaths_clear : (List.range 7).Pairwise fun a b => Pf.within (mPath a) (mPath b) = false ∧ Pf.within (mPath b) (mPath a) = false := by decide +kernel

theorem mPuts_clear (D : Nat → Int) (n : Nat) (hn : n ≤ 7) (dn : List Nat) (hp : dn.Perm (List.range n)) : Clear (dn.map (mPut D)) := by
  have h1 : (List.range n).Pairwise fun a b => Pf.within (mPath a) (mPath b) = false ∧ Pf.within (mPath b) (mPath a) = false := by
    have e : List.range n = (List.range 7).take n := by rw [List.take_range]; congr 1; omega
    rw [e]
    exact mPaths_clear.sublist (List.take_sublist _ _)
  have h2 : dn.Pairwise fun a b => Pf.within (mPath a) (mPath b) = false ∧ Pf.within (mPath b) (mPath a) = false := (hp.pairwise_iff (fun {_ _} h => ⟨h.2, h.1⟩)).2 h1
  exact List.pairwise_map.2 h2

theorem Clear.reverse {xs : List (List UInt8 × Nat)} (h : Clear xs) : Clear xs.reverse := ((List.reverse_perm xs).pairwise_iff (fun {_ _} h => ⟨h.2, h.1⟩)).2 h

theorem puts_same (D : Nat → Int) (n : Nat) (dn : List Nat) (hn : n ≤ 7) (hp : dn.Perm (List.range n)) : putAll Sh.K [] (dn.map (mPut D)) = putAll Sh.K [] (mPuts D n) := by
  have c1 := mPuts_clear D n hn dn hp
  have c2 := mPuts_clear D n hn (List.range n) (List.Perm.refl _)
  obtain ⟨a1, a2⟩ := putAll_perm Sh.K (dn.map (mPut D)) [] [] (List.Perm.refl _) List.Pairwise.nil (by rw [List.append_nil]; exact c1.reverse)
  obtain ⟨b1, b2⟩ := putAll_perm Sh.K (mPuts D n) [] [] (List.Perm.refl _) List.Pairwise.nil (by rw [List.append_nil]; exact Clear.reverse c2)
  rw [List.append_nil] at a1 b1
  have hpp : (putAll Sh.K [] (dn.map (mPut D))).Perm (putAll Sh.K [] (mPuts D n)) := by
    refine a1.trans (List.Perm.trans ?_ b1.symm)
    refine List.Perm.map _ ?_
    refine (List.reverse_perm _).trans (List.Perm.trans ?_ (List.reverse_perm _).symm)
    exact hp.map _
  refine sorted_eq hpp a2 b2 ?_
  exact ((a1.map Fi.path).nodup_iff).2 (clear_nodup Sh.K c1.reverse)

set_option maxHeartbeats 6400000 in
set_option maxRecDepth 100000 in
theorem merkle_any (ad ao : Option Addr) (ld lo cd co : Nat) (D O : Nat → Int) (w : World) (hgl : Gl w) (h7 : 7 ≤ w.heap.size) (hD : IntsAt w ad ld D) (hO : IntsAt w ao lo O) :
    Calls Tryz.prog 7 #[.slice ad ld cd, .slice ao lo co] w fun e w' => e = .returned (.bool true) ∧ Kx (fun _ => False) w w' := by
  have hmx : maxLen = 9223372036854775807 := rfl
  have happ := app_str
  obtain ⟨i3, hi3, hy0, hy1, hy2⟩ := info_parts info3
  have hds := hD.small
  have hos := hO.small
  rw [hmx] at hds hos
  obtain ⟨n, hn⟩ : ∃ n : Nat, min ld 7 = n := ⟨_, rfl⟩
  have hn7 : n ≤ 7 := by omega
  have hnl : n ≤ ld := by omega
  have hmin : min (ld : Int) 7 = (n : Int) := by omega
  clear hn
  go_enter Tryz.func7, Tryz.ntmps7
  go_wp2_with fail
  refine (imported_any w hgl h7).mono ?_
  rintro _ w1 ⟨rfl, hk1⟩
  have hgl1 := hgl.kept hk1 (fun _ _ => id)
  go_wp2_with fail
  have hcb := Cb.new #[.string ⟨#[97]⟩, .string ⟨#[98, 47, 99]⟩, .string ⟨#[98, 47, 100]⟩, .string ⟨#[98, 47, 101, 47, 102]⟩, .string ⟨#[98, 46, 103]⟩, .string ⟨#[98, 45, 104]⟩, .string ⟨#[122]⟩] 9 w1
  have hk2 := hk1.alloc (.cells #[.string ⟨#[97]⟩, .string ⟨#[98, 47, 99]⟩, .string ⟨#[98, 47, 100]⟩, .string ⟨#[98, 47, 101, 47, 102]⟩, .string ⟨#[98, 46, 103]⟩, .string ⟨#[98, 45, 104]⟩, .string ⟨#[122]⟩] 9)
  revert hcb hk2
  generalize w1.alloc (.cells #[.string ⟨#[97]⟩, .string ⟨#[98, 47, 99]⟩, .string ⟨#[98, 47, 100]⟩, .string ⟨#[98, 47, 101, 47, 102]⟩, .string ⟨#[98, 46, 103]⟩, .string ⟨#[98, 45, 104]⟩, .string ⟨#[122]⟩] 9) = w2
  generalize w1.heap.size = pb
  intro hcb hk2
  have Hpc : Hid (∀ i, i < 7 → w2.cell? ⟨pb, i, none⟩ = some (.string ⟨(mPath i).toArray⟩)) := fun i hi => by
    have : i = 0 ∨ i = 1 ∨ i = 2 ∨ i = 3 ∨ i = 4 ∨ i = 5 ∨ i = 6 := by omega
    rcases this with rfl | rfl | rfl | rfl | rfl | rfl | rfl <;> exact hcb.cell _
  have hgl2 := hgl.kept hk2 (fun _ _ => id)
  have HD2 : Hid (IntsAt w2 ad ld D) := hD.kept hk2
  have HO2 : Hid (IntsAt w2 ao lo O) := hO.kept hk2
  have HD0 : Hid (IntsAt w ad ld D) := hD
  have HO0 : Hid (IntsAt w ao lo O) := hO
  clear hcb hk1 hgl hgl1 hD hO
  go_loopw [9, 7] (fun iv av wr => ∃ i : Nat, iv = .int .i64 i ∧ i ≤ n ∧ av = .string ⟨(mAll D i).toArray⟩ ∧ Kx (fun _ => False) w2 wr) (fun iv _ _ => n - (intOf iv).toNat)
  case atStart => exact ⟨0, rfl, by omega, rfl, Kx.refl _ _⟩
  case round =>
    obtain ⟨i, rfl, hi, rfl, hkr⟩ := hrel
    by_cases hin : i < n
    · have hin2 : (i : Int) < (n : Int) := by omega
      have hil : (i : Int) < (ld : Int) := by omega
      have hi7 : (i : Int) < 7 := by omega
      obtain ⟨b, off, rfl, hcell⟩ := (HD2.out.kept hkr).at' (by omega)
      have hci := hcell i (by omega)
      obtain ⟨oD1, oD2⟩ := HD2.out.ok i (by omega)
      have HA : Hid (mAll D (i + 1) = mAll D i ++ Pu.putT (mPut D i)) := mAll_succ D i
      have hal := mAll_len D i (by omega)
      have hd50 := pickN_lt (D i) 50 (by omega)
      have hpl := mPath_len _ (mPath_mem i (by omega))
      have hpc2 := Hpc.out i (by omega)
      clear hcell
      unfold mPut Pu.putT Pu.putL Pu.putD at HA
      simp only at HA
      have hdl := dig_len (pickN (D i) 50)
      have hdl2 := dig_len (Pu.dig (pickN (D i) 50)).length
      have hpick := pick_any (D i) 50 wr (by omega) (by omega) oD1 oD2
      generalize pickN (D i) 50 = d at *
      generalize mPath i = p at *
      generalize mAll D i = A at *
      generalize D i = di at *
      clear oD1 oD2
      obtain ⟨hd1, hd2⟩ := hdl
      obtain ⟨hd3, hd4⟩ := hdl2
      go_wp2_with fail
      refine hpick.mono ?_
      rintro _ w3 ⟨rfl, hw3⟩
      subst hw3
      clear hpick
      go_wp2_with fail
      refine (digits_any (d : Int) _ (by omega) (by omega)).mono ?_
      rintro _ w4 ⟨rfl, hk4⟩
      have hk4 := hk4 (fun _ => False)
      rw [Int.toNat_natCast]
      have hdig := fun w => digits_any ((Pu.dig d).length : Int) w (by omega) (by omega)
      rw [Int.toNat_natCast] at hdig
      have hk24 := hkr.trans hk4
      have hpc4 := (hk24.cell (p := ⟨pb, i, none⟩) (lt_of_cell (p := ⟨pb, i, none⟩) hpc2) id).trans hpc2
      generalize Pu.dig (Pu.dig d).length = DD at *
      generalize Pu.dig d = D1 at *
      clear hci hk4 hkr hpc2
      go_wp2_with fail
      refine wp_region_ord (C := fun w' => Kx (fun _ => False) w4 w') [(0, true), (1, true), (2, true), (3, true), (4, true), (5, true), (6, true), (7, true), (8, true), (9, true), (13, true), (10, false), (11, false), (12, false), (14, false), (15, false)] 16 (by kernel_rfl) (by kernel_rfl) rfl (Kx.refl _ _).drew ?_
      refine ord_val rfl (.string ⟨A.toArray⟩) (fun w' hC => by go_simp) ?_
      refine ord_val rfl (.string ⟨(A ++ [77, 32, 49, 48, 48, 54, 52, 52, 32, 105, 110, 108, 105, 110, 101, 32]).toArray⟩) (fun w' hC => by go_simp; omega) ?_
      refine ord_val rfl (.slice (some ⟨pb, 0, none⟩) 7 7) (fun w' hC => by go_simp) ?_
      refine ord_val rfl (.int .i64 i) (fun w' hC => by go_simp) ?_
      refine ord_val rfl (.pointer (some ⟨pb, i, none⟩)) (fun w' hC => by go_simp) ?_
      refine ord_val rfl (.string ⟨p.toArray⟩) (fun w' hC => by
        have hc0 : w'.cell? ⟨pb, i, none⟩ = some (.string ⟨p.toArray⟩) := (hC.cell (p := ⟨pb, i, none⟩) (lt_of_cell (p := ⟨pb, i, none⟩) hpc4) id).trans hpc4
        go_simp) ?_
      refine ord_val rfl (.string ⟨(A ++ [77, 32, 49, 48, 48, 54, 52, 52, 32, 105, 110, 108, 105, 110, 101, 32] ++ p).toArray⟩) (fun w' hC => by go_simp; omega) ?_
      refine ord_val rfl (.string ⟨(A ++ [77, 32, 49, 48, 48, 54, 52, 52, 32, 105, 110, 108, 105, 110, 101, 32] ++ p ++ [10, 100, 97, 116, 97, 32]).toArray⟩) (fun w' hC => by go_simp; omega) ?_
      refine ord_val rfl (.string ⟨D1.toArray⟩) (fun w' hC => by go_simp) ?_
      refine ord_val rfl (.int .i64 (D1.length : Int)) (fun w' hC => by go_simp) ?_
      refine ord_val rfl (.string ⟨D1.toArray⟩) (fun w' hC => by go_simp) ?_
      simp only [Act.put, List.setIfInBounds_toArray, List.set_cons_succ, List.set_cons_zero]
      have hkd := (Kx.refl (fun _ => False) w4).drew
      refine ord_enter rfl 23 #[.int .i64 (D1.length : Int)] (by go_simp) ?_
      refine (hdig _).mono ?_
      rintro _ w6 ⟨rfl, hk6⟩
      have hk56 := hkd.trans (hk6 (fun _ => False))
      refine ⟨_, rfl, hk56, ?_⟩
      simp only [Act.put, List.setIfInBounds_toArray, List.set_cons_succ, List.set_cons_zero]
      refine ord_valT rfl (.string ⟨(A ++ [77, 32, 49, 48, 48, 54, 52, 52, 32, 105, 110, 108, 105, 110, 101, 32] ++ p ++ [10, 100, 97, 116, 97, 32] ++ DD).toArray⟩) (by go_simp; omega) hk56 ?_
      simp only [Act.put, List.setIfInBounds_toArray, List.set_cons_succ, List.set_cons_zero]
      refine ord_valT rfl (.string ⟨(A ++ [77, 32, 49, 48, 48, 54, 52, 52, 32, 105, 110, 108, 105, 110, 101, 32] ++ p ++ [10, 100, 97, 116, 97, 32] ++ DD ++ [10]).toArray⟩) (by go_simp; omega) hk56 ?_
      simp only [Act.put, List.setIfInBounds_toArray, List.set_cons_succ, List.set_cons_zero]
      refine ord_valT rfl (.string ⟨(A ++ [77, 32, 49, 48, 48, 54, 52, 52, 32, 105, 110, 108, 105, 110, 101, 32] ++ p ++ [10, 100, 97, 116, 97, 32] ++ DD ++ [10] ++ D1).toArray⟩) (by go_simp; omega) hk56 ?_
      simp only [Act.put, List.setIfInBounds_toArray, List.set_cons_succ, List.set_cons_zero]
      refine ord_valT rfl (.string ⟨(A ++ [77, 32, 49, 48, 48, 54, 52, 52, 32, 105, 110, 108, 105, 110, 101, 32] ++ p ++ [10, 100, 97, 116, 97, 32] ++ DD ++ [10] ++ D1 ++ [10]).toArray⟩) (by go_simp; omega) hk56 ?_
      simp only [Act.put, List.setIfInBounds_toArray, List.set_cons_succ, List.set_cons_zero]
      refine ord_nil ?_
      have HA2 : Hid (A ++ [77, 32, 49, 48, 48, 54, 52, 52, 32, 105, 110, 108, 105, 110, 101, 32] ++ p ++ [10, 100, 97, 116, 97, 32] ++ DD ++ [10] ++ D1 ++ [10] = mAll D (i + 1)) := by
        show _ = _
        rw [HA.out]
        simp only [List.append_assoc, List.cons_append, List.nil_append]
      generalize A ++ [77, 32, 49, 48, 48, 54, 52, 52, 32, 105, 110, 108, 105, 110, 101, 32] ++ p ++ [10, 100, 97, 116, 97, 32] ++ DD ++ [10] ++ D1 ++ [10] = A2 at *
      have hk26 := hk24.trans hk56
      go_wp2
      go_roundw
      case rel => exact ⟨i + 1, by go_num, by omega, by rw [HA2.out], hk26⟩
      case measure => simp [intOf]; omega
    · obtain rfl : i = n := by omega
      have hin2 : ¬ (i : Int) < (i : Int) := by omega
      have hal := mAll_len D i (by omega)
      have hgl3 := hgl2.kept hkr (fun _ _ => id)
      have hk3 := hk2.trans hkr
      have h73 : 7 ≤ wr.heap.size := Nat.le_trans h7 hk3.size
      have Hpc3 : Hid (∀ i, i < 7 → wr.cell? ⟨pb, i, none⟩ = some (.string ⟨(mPath i).toArray⟩)) := fun i hi => (hkr.cell (p := ⟨pb, i, none⟩) (lt_of_cell (p := ⟨pb, i, none⟩) (Hpc.out i hi)) id).trans (Hpc.out i hi)
      clear Hpc HD2 HO2 hkr hk2 hgl2
      go_wp2_with fail
      refine (new_any (fun _ => False) wr (fun _ h => h.elim) h73).mono ?_
      rintro _ w4 ⟨s, h, o, c, r, t, rfl, hN⟩
      have hgl4 := hgl3.kept hN.kx (fun _ _ => id)
      obtain ⟨Ms, hMs⟩ : ∃ Ms : Nat → Prop, Ms = fun k => False ∨ k = s ∨ Fo o c r t k := ⟨_, rfl⟩
      have hMi : ∀ k, Ms k ↔ (False ∨ k = s ∨ Fo o c r t k) := fun k => by rw [hMs]
      have h74 : 7 ≤ w4.heap.size := Nat.le_trans h73 hN.kx.size
      have hlow : ∀ k, Ms k → 7 ≤ k ∧ k < w4.heap.size := fun k e => (One.start hN).1.low k ((hMi k).1 e)
      clear hMs
      go_wp2_with fail
      refine (new_any Ms w4 hlow h74).mono ?_
      rintro _ w5 ⟨s', h', o', c', r', t', rfl, hN'⟩
      have hP := Duo.start hk3 hMi hN hN' (hgl4.kept hN'.kx (fun _ _ => id))
      have hk35 := hN.kx.trans hN'.kx
      have hpM : ¬ (Ms pb ∨ pb = s' ∨ Fo o' c' r' t' pb) := fun e => by
        have h1 := lt_of_cell (p := ⟨pb, 0, none⟩) (Hpc3.out 0 (by omega))
        have hn := hN.new
        have hn' := hN'.new
        have := hN.kx.size
        have h1' : pb < wr.heap.size := h1
        rcases e with e | e | e
        · rcases (hMi pb).1 e with e | e | e
          · exact e
          · omega
          · unfold Fo at e; omega
        · omega
        · unfold Fo at e; omega
      have Hpc5 : Hid (∀ i, i < 7 → w5.cell? ⟨pb, i, none⟩ = some (.string ⟨(mPath i).toArray⟩)) := fun i hi => (hk35.cell (p := ⟨pb, i, none⟩) (lt_of_cell (p := ⟨pb, i, none⟩) (Hpc3.out i hi)) id).trans (Hpc3.out i hi)
      clear hN hN' hMi hlow h74 hgl3 hgl4 Hpc3 h73
      obtain ⟨M0, hM0⟩ : ∃ M0 : Nat → Prop, M0 = fun k => Ms k ∨ k = s' ∨ Fo o' c' r' t' k := ⟨_, rfl⟩
      rw [← hM0] at hP
      have HpM : Hid (¬ M0 pb) := by show ¬ M0 pb; rw [hM0]; exact hpM
      clear hM0 hpM
      have hx1 := mPuts_ok D i (by omega)
      have hxl := mPuts_len D i
      obtain ⟨q1, q2, q3⟩ := Pu.mk_ok (mPuts D i) (fun x hx => (hx1 x hx).1) (by omega)
      have hml : mainFiles St.empty = [] := rfl
      obtain ⟨u1, u2⟩ := MkM.step (S := St.empty) (fun _ _ => rfl) (mPuts D i) (fun x hx => (hx1 x hx).1) (by omega) (by rw [hml, List.length_nil]; omega)
      obtain ⟨v1, v2⟩ := MkM.step (S := St.empty) (fun _ _ => rfl) [] (fun x hx => by cases hx) (by decide) (by rw [hml]; decide)
      rw [hml] at u2 v2
      have himp1 := hP.swap.import (by decide) (Pu.mkS (mPuts D i)) (put_strOk _ hx1 (by omega)) (by omega)
      rw [u1] at himp1
      generalize (Pd.imp Sh.K St.empty (Pu.mkS (mPuts D i))).2 = S1 at *
      rw [mkS_all] at himp1
      unfold Pu.folHead at himp1
      simp only [List.cons_append, List.nil_append] at himp1
      clear q1 q2 q3 u1
      go_wp2_with fail
      refine himp1.mono ?_
      rintro _ w6 ⟨rfl, M1, hP6, hM1, hkM1⟩
      clear himp1
      have himp2 := hP6.swap.import (by decide) (Pu.mkS []) (put_strOk _ (fun x hx => by cases hx) (by decide)) (by decide)
      rw [v1] at himp2
      generalize (Pd.imp Sh.K St.empty (Pu.mkS [])).2 = T1 at *
      rw [mkS_nil] at himp2
      unfold Pu.folHead at himp2
      simp only [List.cons_append, List.nil_append] at himp2
      clear v1 hP
      go_wp2_with fail
      refine himp2.mono ?_
      rintro _ w7 ⟨rfl, M2, hP7, hM2, hkM2⟩
      clear himp2
      have Hpc6 : Hid (∀ i, i < 7 → w6.cell? ⟨pb, i, none⟩ = some (.string ⟨(mPath i).toArray⟩)) := fun i hi => (hkM1.cell (p := ⟨pb, i, none⟩) (lt_of_cell (p := ⟨pb, i, none⟩) (Hpc5.out i hi)) HpM.out).trans (Hpc5.out i hi)
      have HpM1 : Hid (¬ M1 pb) := fun e => (hM1 pb e).elim HpM.out (fun h => absurd h (Nat.not_le.2 (lt_of_cell (p := ⟨pb, 0, none⟩) (Hpc5.out 0 (by omega)))))
      have Hpc7 : Hid (∀ i, i < 7 → w7.cell? ⟨pb, i, none⟩ = some (.string ⟨(mPath i).toArray⟩)) := fun i hi => (hkM2.cell (p := ⟨pb, i, none⟩) (lt_of_cell (p := ⟨pb, i, none⟩) (Hpc6.out i hi)) HpM1.out).trans (Hpc6.out i hi)
      have HpM2 : Hid (¬ M2 pb) := fun e => (hM2 pb e).elim HpM1.out (fun h => absurd h (Nat.not_le.2 (lt_of_cell (p := ⟨pb, 0, none⟩) (Hpc6.out 0 (by omega)))))
      clear HpM HpM1 Hpc5 Hpc6 hM1 hM2 hkM1 hkM2 hP6 hk35 hk3 hal hin hin2
      go_wp2_with fail
      go_loopw [14, 13] (fun kv lv wq => ∃ k : Nat, kv = .int .i64 k ∧ k ≤ i ∧ Kx (fun _ => False) w7 wq ∧ wq.ownsRow w7.heap.size 3 1 lv k (intsV (List.range k))) (fun kv _ _ => i - (intOf kv).toNat)
      case atStart => exact ⟨0, rfl, by omega, Kx.refl _ _, World.ownsRow_nil _ _ _ _⟩
      case round =>
        obtain ⟨k, rfl, hk, hkq, hown⟩ := hrel
        by_cases hkl : k < i
        · have hkl2 : (k : Int) < (i : Int) := by omega
          have HR : Hid (intsV (List.range (k + 1)) = intsV (List.range k) ++ [.int .i64 (k : Int)]) := by
            show _ = _
            rw [List.range_succ, intsV_app]
            rfl
          go_wp2_with (at_builtin; refine wpList_append_own _ rfl (.tmp 82) (.tmp 84) 49 rfl w7.heap.size 3 i3 _ 1 8 Tryz.underlying49 hi3 hy0 hy1 hy2 rfl (by decide) _ k (intsV (List.range k)) rfl (hown.alloc _) ⟨wr.heap.size, 0, none⟩ 1 1 [.int .i64 (k : Int)] rfl rfl ?c1 ?c2 ?c3 ?c4 ?c5 ?_)
          all_goals try (first | omega | (unfold maxLen; omega) | (simp [Value.oneCell']; done) | (have := hkq.size; simp; omega) | exact cells_new wr [.int .i64 (k : Int)] 3)
          intro v10 w10 hown10 hgrow10 _
          have hk10 : Kx (fun _ => False) w7 w10 := (hkq.alloc _).grown hgrow10 (fun k he => (hown.lt k he).1)
          have hown11 : w10.ownsRow w7.heap.size 3 1 v10 (k + 1) (intsV (List.range (k + 1))) := by rw [HR.out]; exact hown10
          clear hown10 hgrow10
          go_wp2
          go_roundw
          case rel => exact ⟨k + 1, by go_num, hkl, hk10, hown11⟩
          case measure => simp [intOf]; omega
        · obtain rfl : k = i := by omega
          have hkl2 : ¬ (k : Int) < (k : Int) := by omega
          have HMs : Hid (MkM S1 (putAll Sh.K [] (mPuts D k))) := u2
          have HT0 : Hid (MkM T1 (putAll Sh.K [] (([] : List Nat).map (mPut D)))) := v2
          have hP8 := hP7.kept hkq
          have HR8 : Hid (Reads wr _ k (intsV (List.range k))) := Reads.of_own hown
          obtain ⟨al0, cl0, rfl, _, _⟩ := Reads.of_own hown
          have HO8 : Hid (∀ x, (Value.slice al0 k cl0).ownBlock = some x → ¬ M2 x) := fun x e h => absurd (hP7.new x h).2 (Nat.not_lt.2 (hown.lt x e).1)
          have Hpc8 : Hid (∀ i, i < 7 → wr.cell? ⟨pb, i, none⟩ = some (.string ⟨(mPath i).toArray⟩)) := fun i hi => (hkq.cell (p := ⟨pb, i, none⟩) (lt_of_cell (p := ⟨pb, i, none⟩) (Hpc7.out i hi)) id).trans (Hpc7.out i hi)
          clear u2 v2 hP7 hkq hown Hpc7 hk hkl
          go_wp2_with fail
          go_loopw [15, 13] (fun jv lv wq => ∃ (j : Nat) (L dn : List Nat) (M : Nat → Prop) (T : St) (al : Option Addr) (cl : Nat), jv = .int .i64 j ∧ lv = .slice al L.length cl ∧ j + L.length = k ∧ Duo w wq s s' (2 + j) M S1 T ∧ Hid (MkM T (putAll Sh.K [] (dn.map (mPut D)))) ∧ Hid ((dn.reverse ++ L).Perm (List.range k)) ∧ Hid (Reads wq (.slice al L.length cl) L.length (intsV L)) ∧ Hid (∀ x, (Value.slice al L.length cl).ownBlock = some x → ¬ M x) ∧ Hid (¬ M pb) ∧ Hid (∀ i, i < 7 → wq.cell? ⟨pb, i, none⟩ = some (.string ⟨(mPath i).toArray⟩))) (fun jv _ _ => k - (intOf jv).toNat)
          case atStart =>
            refine ⟨0, List.range k, [], M2, T1, al0, cl0, rfl, by simp, by simp, hP8, HT0, List.Perm.refl _, ?_, ?_, HpM2, Hpc8⟩
            · show Reads _ _ _ _; rw [List.length_range]; exact HR8.out
            · show ∀ x, _; rw [List.length_range]; exact HO8.out
          case round =>
            obtain ⟨j, L, dn, M, T, al, cl, rfl, rfl, hjl, hP, HT, HPm, HR, HO, HpM, Hpc⟩ := hrel
            clear HR8 HO8 Hpc8 HpM2 hP8 HT0
            by_cases hL : 0 < L.length
            · have hL2 : (0 : Int) < (L.length : Int) := by omega
              go_upto_if 94 with fail
              go_cut [16] from 86 to 147 (fun kv wx => ∃ kk : Nat, kv = .int .i64 (kk : Int) ∧ kk < L.length ∧ wx = wr)
              case first =>
                by_cases hjo : j < lo
                · have hjo2 : (j : Int) < (lo : Int) := by omega
                  obtain ⟨bo, oo, rfl, hcellO⟩ := (HO0.out.kept hP.kx).at' (by omega)
                  have hco := hcellO j hjo
                  obtain ⟨oo1, oo2⟩ := HO0.out.ok j hjo
                  have hpick := pick_any (O j) L.length wr (by omega) (by omega) oo1 oo2
                  have hkk := pickN_lt (O j) L.length hL
                  clear hcellO oo1 oo2
                  generalize pickN (O j) L.length = kk at *
                  generalize O j = oj at *
                  go_wp2_with fail
                  refine hpick.mono ?_
                  rintro _ w3 ⟨rfl, hw3⟩
                  subst hw3
                  clear hpick hco
                  go_wp2_with fail
                  go_meet
                  case rel => exact ⟨kk, rfl, hkk, rfl⟩
                · have hjo2 : ¬ (j : Int) < (lo : Int) := by omega
                  go_wp2_with fail
                  go_meet
                  case rel => exact ⟨0, rfl, hL, rfl⟩
              case rest =>
                obtain ⟨kk, rfl, hkk, hcw⟩ := hcut
                subst hcw
                obtain ⟨q, c9, he, hcap, hr⟩ := HR.out
                cases he
                obtain ⟨g, og, rfl, hcell⟩ := hr (by omega)
                have hcx := hcell kk (.int .i64 (L[kk] : Int)) (by simp [intsV, hkk])
                have hxk : L[kk] < k := List.mem_range.1 ((HPm.out).mem_iff.1 (List.mem_append_right _ (List.getElem_mem hkk)))
                obtain ⟨bd, od, rfl, hcellD⟩ := (HD0.out.kept hP.kx).at' (by omega)
                have hcd := hcellD L[kk] (by omega)
                obtain ⟨oD1, oD2⟩ := HD0.out.ok L[kk] (by omega)
                have hpick2 := fun w => pick_any (D L[kk]) 50 w (by omega) (by omega) oD1 oD2
                have HLk : Hid (L = L.take kk ++ L[kk] :: L.drop (kk + 1)) := by show _ = _; rw [← List.drop_eq_getElem_cons hkk, List.take_append_drop]
                have hxd : (L[kk] : Int) < (ld : Int) := by omega
                clear oD1 oD2 hcellD
                generalize hxe : L[kk] = x at *
                have hx7 : x < 7 := by omega
                have hx72 : (x : Int) < 7 := by omega
                obtain ⟨hpo, hpo2⟩ := mPut_ok D x hx7
                have hd50 := pickN_lt (D x) 50 (by omega)
                have hpl := mPath_len _ (mPath_mem x hx7)
                have HX : Hid (mPut D x = (mPath x, pickN (D x) 50)) := rfl
                have hdl := dig_len (pickN (D x) 50)
                have hdl2 := dig_len (Pu.dig (pickN (D x) 50)).length
                have hpc := Hpc.out x hx7
                generalize pickN (D x) 50 = d at *
                generalize mPath x = p at *
                generalize D x = dx at *
                obtain ⟨hd1, hd2⟩ := hdl
                obtain ⟨hd3, hd4⟩ := hdl2
                clear hxe
                go_wp2_with fail
                refine (hpick2 _).mono ?_
                rintro _ w31 ⟨rfl, hw31⟩
                subst hw31
                clear hpick2
                go_wp2_with fail
                refine (digits_any (d : Int) _ (by omega) (by omega)).mono ?_
                rintro _ w4 ⟨rfl, hk4⟩
                have hk4 := hk4 (fun _ => False)
                rw [Int.toNat_natCast]
                have hdig := fun w => digits_any ((Pu.dig d).length : Int) w (by omega) (by omega)
                rw [Int.toNat_natCast] at hdig
                have hcell4 : ∀ m y, (intsV L)[m]? = some y → w4.cell? ⟨g, og + m, none⟩ = some y := fun m y hy => (hk4.cell (p := ⟨g, og + m, none⟩) (lt_of_cell (p := ⟨g, og + m, none⟩) (hcell m y hy)) id).trans (hcell m y hy)
                clear hcell hr hcx hcd
                have Hcell4 : Hid (∀ m y, (intsV L)[m]? = some y → w4.cell? ⟨g, og + m, none⟩ = some y) := hcell4
                clear hcell4
                have hkk2 : (kk : Int) ≤ (L.length : Int) := by omega
                have htk : Hid ((L.take kk).length = kk) := by show _ = _; rw [List.length_take]; omega
                go_wp2_with (at_builtin; refine wpList_append_own _ rfl (.tmp 112) (.tmp 115) 49 rfl w4.heap.size 3 i3 _ 1 8 Tryz.underlying49 hi3 hy0 hy1 hy2 rfl (by decide) _ 0 [] rfl (World.ownsRow_nil _ _ _ _) ⟨g, og, none⟩ kk cl (intsV (L.take kk)) rfl ?d1 ?d2 ?d3 ?d4 ?d5 ?d6 ?_)
                case d1 => unfold intsV; rw [List.length_map, htk.out]; omega
                case d2 =>
                  intro m y hy
                  have : w4.cell? ⟨g, og + m, none⟩ = some y := Hcell4.out m y (intsV_take hy)
                  rw [show (⟨g, og, none⟩ : Addr).add m = ⟨g, og + m, none⟩ from by unfold Addr.add; split <;> simp_all]
                  exact this
                case d3 => intro y hy; obtain ⟨a, _, rfl⟩ := List.mem_map.1 hy; rfl
                all_goals try (first | omega | (unfold maxLen; omega))
                intro v1 w5 hown1 hgrow1 _
                have hk5 : Kx (fun _ => False) w4 w5 := (Kx.refl _ _).grown hgrow1 (fun _ e => by cases e)
                have Hcell5 : Hid (∀ m y, (intsV L)[m]? = some y → w5.cell? ⟨g, og + m, none⟩ = some y) := fun m y hy => (hk5.cell (p := ⟨g, og + m, none⟩) (lt_of_cell (p := ⟨g, og + m, none⟩) (Hcell4.out m y hy)) id).trans (Hcell4.out m y hy)
                have hkc : kk + 1 ≤ cl := by omega
                have hkL : kk + 1 ≤ L.length := by omega
                clear hgrow1 Hcell4
                obtain ⟨A2, hA2, HA2⟩ : ∃ A2 : Addr, (if cl = kk + 1 then some (⟨g, og, none⟩ : Addr) else some ⟨g, og + (kk + 1), none⟩) = some A2 ∧ Hid (∀ m, m < L.length - (kk + 1) → A2.add m = ⟨g, og + (kk + 1 + m), none⟩) := by
                  by_cases h : cl = kk + 1
                  · exact ⟨⟨g, og, none⟩, by simp [h], fun m hm => by omega⟩
                  · exact ⟨⟨g, og + (kk + 1), none⟩, by simp [h], fun m hm => by rw [Addr.add_lit, Nat.add_assoc]⟩
                go_wp2_with (at_builtin; refine wpList_append_own _ rfl (.tmp 117) (.tmp 121) 49 rfl w4.heap.size 3 i3 _ 1 8 Tryz.underlying49 hi3 hy0 hy1 hy2 rfl (by decide) _ _ _ rfl hown1 A2 (L.length - (kk + 1)) (cl - (kk + 1)) (intsV (L.drop (kk + 1))) rfl ?e1 ?e2 ?e3 ?e4 ?e5 ?e6 ?_)
                case e1 => unfold intsV; rw [List.length_map, List.length_drop]; omega
                case e2 =>
                  intro m y hy
                  have hm : m < L.length - (kk + 1) := by have := (List.getElem?_eq_some_iff.1 hy).1; unfold intsV at this; rw [List.length_map, List.length_drop] at this; exact this
                  rw [HA2.out m hm]
                  exact Hcell5.out _ y (intsV_drop hy)
                case e3 => intro y hy; obtain ⟨a, _, rfl⟩ := List.mem_map.1 hy; rfl
                case e6 => exact hk5.size
                all_goals try (first | omega | (unfold maxLen; omega))
                intro v2 w6 hown2 hgrow2 _
                have hk6 : Kx (fun _ => False) w4 w6 := hk5.grown hgrow2 (fun k he => (hown1.lt k he).1)
                obtain ⟨L2, hL2⟩ : ∃ L2, L2 = L.take kk ++ L.drop (kk + 1) := ⟨_, rfl⟩
                have hl2 : L2.length = L.length - 1 := by rw [hL2, List.length_append, htk.out, List.length_drop]; omega
                have hown3 : w6.ownsRow w4.heap.size 3 1 v2 L2.length (intsV L2) := by
                  rw [hl2, hL2, intsV_app]
                  have e : L.length - 1 = kk + (L.length - (kk + 1)) := by omega
                  rw [e]
                  exact hown2
                have hpc6 : w6.cell? ⟨pb, x, none⟩ = some (.string ⟨p.toArray⟩) := ((hk4.trans hk6).cell (p := ⟨pb, x, none⟩) (lt_of_cell (p := ⟨pb, x, none⟩) hpc) id).trans hpc
                have Hpc6 : Hid (∀ i, i < 7 → w6.cell? ⟨pb, i, none⟩ = some (.string ⟨(mPath i).toArray⟩)) := fun i hi => ((hk4.trans hk6).cell (p := ⟨pb, i, none⟩) (lt_of_cell (p := ⟨pb, i, none⟩) (Hpc.out i hi)) id).trans (Hpc.out i hi)
                have hP6 := hP.kept (hk4.trans hk6)
                have HoldM : Hid (∀ y, M y → y < w4.heap.size) := fun y e => Nat.lt_of_lt_of_le (hP.new y e).2 hk4.size
                have HR6 : Hid (Reads w6 v2 L2.length (intsV L2)) := Reads.of_own hown3
                have HO6 : Hid (∀ y, v2.ownBlock = some y → w4.heap.size ≤ y ∧ y < w6.heap.size) := fun y e => hown3.lt y e
                have HPm2 : Hid (((dn ++ [x]).reverse ++ L2).Perm (List.range k)) := by show List.Perm _ _; rw [hL2]; exact perm_step HPm.out HLk.out
                have HE2 : Hid (putAll Sh.K [] ((dn ++ [x]).map (mPut D)) = putAll Sh.K (putAll Sh.K [] (dn.map (mPut D))) [mPut D x]) := by show _ = _; rw [List.map_append]; unfold putAll; rw [List.foldl_append]; rfl
                have hdn : dn.length ≤ 7 := by have := HPm.out.length_eq; rw [List.length_append, List.length_reverse, List.length_range] at this; omega
                obtain ⟨u1, u2⟩ := MkM.step HT.out.ref [mPut D x] (fun y hy => by rw [List.mem_singleton.1 hy]; exact hpo) (by simp) (by rw [HT.out.files]; have := putAll_len Sh.K (dn.map (mPut D)) []; rw [List.length_map, List.length_nil] at this; simp only [List.length_singleton]; omega)
                rw [HT.out.files, ← HE2.out] at u2
                have himp := fun (w9 : World) (hP9 : Duo w w9 s s' (2 + j) M S1 T) => hP9.import (by omega) (Pu.mkS [mPut D x]) (put_strOk _ (fun y hy => by rw [List.mem_singleton.1 hy]; exact ⟨hpo, hpo2⟩) (by simp)) (by have := (Pu.mk_ok [mPut D x] (fun y hy => by rw [List.mem_singleton.1 hy]; exact hpo) (by simp)).2.2; simp only [List.length_singleton] at this; omega)
                rw [u1] at himp
                have HMS : Hid (Pu.mkS [mPut D x] = Pu.folHead ++ ([77, 32, 49, 48, 48, 54, 52, 52, 32, 105, 110, 108, 105, 110, 101, 32] ++ p ++ [10] ++ ([100, 97, 116, 97, 32] ++ Pu.dig (Pu.dig d).length ++ [10] ++ Pu.dig d ++ [10]) ++ [10, 100, 111, 110, 101, 10])) := by show _ = _; rw [HX.out]; simp [Pu.mkS, Pu.putX, Pu.putT, Pu.putL, Pu.putD]
                unfold Pu.folHead at HMS
                generalize (Pd.imp Sh.K T (Pu.mkS [mPut D x])).2 = T2 at *
                generalize Pu.mkS [mPut D x] = XX at *
                have HT2 : Hid (MkM T2 (putAll Sh.K [] ((dn ++ [x]).map (mPut D)))) := u2
                generalize Pu.dig (Pu.dig d).length = DD at *
                generalize Pu.dig d = D1 at *
                clear hown2 hown1 hown3 hgrow2 hA2 HA2 Hcell5 hk5 hk4 hk6 HT HPm HR HO Hpc hpc HLk htk u1 u2 hL2 HX HE2 hpo hpo2 hdn hP hcap hkk hkk2 hkc hkL hd50
                go_wp2_with fail
                refine wp_region_ord (C := fun w' => Kx M w6 w') [(0, true), (1, true), (2, true), (3, true), (4, true), (5, true), (6, true), (7, true), (8, true), (12, true), (9, false), (10, false), (11, false), (13, false), (14, false), (15, false), (16, false), (17, true), (18, true), (19, false)] 20 (by kernel_rfl) (by kernel_rfl) rfl (Kx.refl _ _).drew ?_
                refine ord_val rfl (.pointer (some ⟨s', 0, none⟩)) (fun w' hC => by go_simp) ?_
                refine ord_val rfl (.slice (some ⟨pb, 0, none⟩) 7 7) (fun w' hC => by go_simp) ?_
                refine ord_val rfl (.int .i64 x) (fun w' hC => by go_simp) ?_
                refine ord_val rfl (.pointer (some ⟨pb, x, none⟩)) (fun w' hC => by go_simp) ?_
                refine ord_val rfl (.string ⟨p.toArray⟩) (fun w' hC => by
                  have hc0 : w'.cell? ⟨pb, x, none⟩ = some (.string ⟨p.toArray⟩) := (hC.cell (p := ⟨pb, x, none⟩) (lt_of_cell (p := ⟨pb, x, none⟩) hpc6) HpM.out).trans hpc6
                  go_simp) ?_
                refine ord_val rfl (.string ⟨([99, 111, 109, 109, 105, 116, 32, 109, 97, 105, 110, 10, 109, 97, 114, 107, 32, 58, 49, 10, 97, 117, 116, 104, 111, 114, 32, 65, 32, 60, 97, 62, 32, 49, 10, 100, 97, 116, 97, 32, 48, 10, 10, 77, 32, 49, 48, 48, 54, 52, 52, 32, 105, 110, 108, 105, 110, 101, 32] ++ p).toArray⟩) (fun w' hC => by go_simp; omega) ?_
                refine ord_val rfl (.string ⟨([99, 111, 109, 109, 105, 116, 32, 109, 97, 105, 110, 10, 109, 97, 114, 107, 32, 58, 49, 10, 97, 117, 116, 104, 111, 114, 32, 65, 32, 60, 97, 62, 32, 49, 10, 100, 97, 116, 97, 32, 48, 10, 10, 77, 32, 49, 48, 48, 54, 52, 52, 32, 105, 110, 108, 105, 110, 101, 32] ++ p ++ [10, 100, 97, 116, 97, 32]).toArray⟩) (fun w' hC => by go_simp; omega) ?_
                refine ord_val rfl (.string ⟨D1.toArray⟩) (fun w' hC => by go_simp) ?_
                refine ord_val rfl (.int .i64 (D1.length : Int)) (fun w' hC => by go_simp) ?_
                refine ord_val rfl (.string ⟨D1.toArray⟩) (fun w' hC => by go_simp) ?_
                simp only [Act.put, List.setIfInBounds_toArray, List.set_cons_succ, List.set_cons_zero]
                have hkd := (Kx.refl (fun _ => False) w6).drew
                refine ord_enter rfl 23 #[.int .i64 (D1.length : Int)] (by go_simp) ?_
                refine (hdig _).mono ?_
                rintro _ w8 ⟨rfl, hk8⟩
                have hk68 := hkd.trans (hk8 (fun _ => False))
                have hk68M : Kx M w6 w8 := hk68.mono (fun _ _ e => e.elim)
                refine ⟨_, rfl, hk68M, ?_⟩
                simp only [Act.put, List.setIfInBounds_toArray, List.set_cons_succ, List.set_cons_zero]
                refine ord_valT rfl (.string ⟨([99, 111, 109, 109, 105, 116, 32, 109, 97, 105, 110, 10, 109, 97, 114, 107, 32, 58, 49, 10, 97, 117, 116, 104, 111, 114, 32, 65, 32, 60, 97, 62, 32, 49, 10, 100, 97, 116, 97, 32, 48, 10, 10, 77, 32, 49, 48, 48, 54, 52, 52, 32, 105, 110, 108, 105, 110, 101, 32] ++ p ++ [10, 100, 97, 116, 97, 32] ++ DD).toArray⟩) (by go_simp; omega) hk68M ?_
                simp only [Act.put, List.setIfInBounds_toArray, List.set_cons_succ, List.set_cons_zero]
                refine ord_valT rfl (.string ⟨([99, 111, 109, 109, 105, 116, 32, 109, 97, 105, 110, 10, 109, 97, 114, 107, 32, 58, 49, 10, 97, 117, 116, 104, 111, 114, 32, 65, 32, 60, 97, 62, 32, 49, 10, 100, 97, 116, 97, 32, 48, 10, 10, 77, 32, 49, 48, 48, 54, 52, 52, 32, 105, 110, 108, 105, 110, 101, 32] ++ p ++ [10, 100, 97, 116, 97, 32] ++ DD ++ [10]).toArray⟩) (by go_simp; omega) hk68M ?_
                simp only [Act.put, List.setIfInBounds_toArray, List.set_cons_succ, List.set_cons_zero]
                refine ord_valT rfl (.string ⟨([99, 111, 109, 109, 105, 116, 32, 109, 97, 105, 110, 10, 109, 97, 114, 107, 32, 58, 49, 10, 97, 117, 116, 104, 111, 114, 32, 65, 32, 60, 97, 62, 32, 49, 10, 100, 97, 116, 97, 32, 48, 10, 10, 77, 32, 49, 48, 48, 54, 52, 52, 32, 105, 110, 108, 105, 110, 101, 32] ++ p ++ [10, 100, 97, 116, 97, 32] ++ DD ++ [10] ++ D1).toArray⟩) (by go_simp; omega) hk68M ?_
                simp only [Act.put, List.setIfInBounds_toArray, List.set_cons_succ, List.set_cons_zero]
                refine ord_valT rfl (.string ⟨([99, 111, 109, 109, 105, 116, 32, 109, 97, 105, 110, 10, 109, 97, 114, 107, 32, 58, 49, 10, 97, 117, 116, 104, 111, 114, 32, 65, 32, 60, 97, 62, 32, 49, 10, 100, 97, 116, 97, 32, 48, 10, 10, 77, 32, 49, 48, 48, 54, 52, 52, 32, 105, 110, 108, 105, 110, 101, 32] ++ p ++ [10, 100, 97, 116, 97, 32] ++ DD ++ [10] ++ D1 ++ [10, 10, 100, 111, 110, 101, 10]).toArray⟩) (by go_simp; omega) hk68M ?_
                simp only [Act.put, List.setIfInBounds_toArray, List.set_cons_succ, List.set_cons_zero]
                have HXX : Hid ([99, 111, 109, 109, 105, 116, 32, 109, 97, 105, 110, 10, 109, 97, 114, 107, 32, 58, 49, 10, 97, 117, 116, 104, 111, 114, 32, 65, 32, 60, 97, 62, 32, 49, 10, 100, 97, 116, 97, 32, 48, 10, 10, 77, 32, 49, 48, 48, 54, 52, 52, 32, 105, 110, 108, 105, 110, 101, 32] ++ p ++ [10, 100, 97, 116, 97, 32] ++ DD ++ [10] ++ D1 ++ [10, 10, 100, 111, 110, 101, 10] = XX) := by
                  show _ = _
                  rw [HMS.out]
                  simp only [List.append_assoc, List.cons_append, List.nil_append]
                generalize [99, 111, 109, 109, 105, 116, 32, 109, 97, 105, 110, 10, 109, 97, 114, 107, 32, 58, 49, 10, 97, 117, 116, 104, 111, 114, 32, 65, 32, 60, 97, 62, 32, 49, 10, 100, 97, 116, 97, 32, 48, 10, 10, 77, 32, 49, 48, 48, 54, 52, 52, 32, 105, 110, 108, 105, 110, 101, 32] ++ p ++ [10, 100, 97, 116, 97, 32] ++ DD ++ [10] ++ D1 ++ [10, 10, 100, 111, 110, 101, 10] = X2 at *
                obtain rfl : X2 = XX := HXX.out
                have hP8 := hP6.kept hk68
                refine ord_enter rfl 24 #[.pointer (some ⟨s', 0, none⟩), .string ⟨X2.toArray⟩] (by go_simp) ?_
                refine (himp _ hP8).mono ?_
                rintro _ w9 ⟨rfl, M9, hP9, hM9, hk9⟩
                clear himp
                have hk69 : Kx M w6 w9 := hk68M.trans hk9
                refine ⟨_, rfl, hk69, ?_⟩
                simp only [Act.put, List.setIfInBounds_toArray, List.set_cons_succ, List.set_cons_zero]
                refine ord_valT rfl (.tuple #[.int .i64 1, .int .i64 0]) (by go_simp) hk69 ?_
                simp only [Act.put, List.setIfInBounds_toArray, List.set_cons_succ, List.set_cons_zero]
                refine ord_val rfl (.int .i64 1) (fun w' hC => by go_simp) ?_
                refine ord_val rfl (.int .i64 0) (fun w' hC => by go_simp) ?_
                simp only [Act.put, List.setIfInBounds_toArray, List.set_cons_succ, List.set_cons_zero]
                refine ord_valT rfl (.int .i64 1) (by go_simp) hk69 ?_
                simp only [Act.put, List.setIfInBounds_toArray, List.set_cons_succ, List.set_cons_zero]
                refine ord_nil ?_
                obtain ⟨al2, cl2, rfl, _, _⟩ := HR6.out
                have hr1 : Reads w9 (.slice al2 L2.length cl2) L2.length (intsV L2) := HR6.out.kept hk69 (fun y e h => absurd (HoldM.out y h) (Nat.not_lt.2 (HO6.out y e).1))
                have hr2 : ∀ y, (Value.slice al2 L2.length cl2).ownBlock = some y → ¬ M9 y := fun y e h => (hM9 y h).elim (fun h => absurd (HoldM.out y h) (Nat.not_lt.2 (HO6.out y e).1)) (fun h => absurd (Nat.lt_of_lt_of_le (HO6.out y e).2 hk68.size) (Nat.not_lt.2 h))
                have hr3 : ¬ M9 pb := fun h => (hM9 pb h).elim HpM.out (fun h => absurd (Nat.lt_of_lt_of_le (lt_of_cell (p := ⟨pb, x, none⟩) hpc6) hk68.size) (Nat.not_lt.2 h))
                have hr4 : ∀ i, i < 7 → w9.cell? ⟨pb, i, none⟩ = some (.string ⟨(mPath i).toArray⟩) := fun i hi => (hk69.cell (p := ⟨pb, i, none⟩) (lt_of_cell (p := ⟨pb, i, none⟩) (Hpc6.out i hi)) HpM.out).trans (Hpc6.out i hi)
                have HG : Hid (∃ (j2 : Nat) (L3 dn2 : List Nat) (M3 : Nat → Prop) (T3 : St) (al3 : Option Addr) (cl3 : Nat), Value.int .i64 ((j : Int) + 1) = .int .i64 j2 ∧ Value.slice al2 L2.length cl2 = .slice al3 L3.length cl3 ∧ j2 + L3.length = k ∧ Duo w w9 s s' (2 + j2) M3 S1 T3 ∧ Hid (MkM T3 (putAll Sh.K [] (dn2.map (mPut D)))) ∧ Hid ((dn2.reverse ++ L3).Perm (List.range k)) ∧ Hid (Reads w9 (.slice al3 L3.length cl3) L3.length (intsV L3)) ∧ Hid (∀ x, (Value.slice al3 L3.length cl3).ownBlock = some x → ¬ M3 x) ∧ Hid (¬ M3 pb) ∧ Hid (∀ i, i < 7 → w9.cell? ⟨pb, i, none⟩ = some (.string ⟨(mPath i).toArray⟩))) :=
                  ⟨j + 1, L2, dn ++ [x], M9, T2, al2, cl2, by go_num, rfl, by omega, hP9, HT2, HPm2, hr1, hr2, hr3, hr4⟩
                have hjk : j < k := by omega
                clear hr1 hr2 hr3 hr4 hP9 hP8 hP6 HT2 HPm2 HR6 HO6 HoldM hM9 hk69 hk68M hk68 hk9 hk8 hkd HXX HMS Hpc6 hpc6 HpM hdig
                go_wp2
                go_roundw
                case rel =>
                  first
                    | exact HG.out
                    | ((repeat apply Exists.intro); exact ⟨HG.out, rfl⟩)
                case measure => simp [intOf]; omega
            · have hL0 : L.length = 0 := by omega
              obtain rfl : L = [] := List.length_eq_zero_iff.1 hL0
              have hjl2 : j = k := by simpa using hjl
              subst hjl2
              obtain ⟨XS, XT, hOS, hOT, hap⟩ := hP.ex
              have hperm : dn.Perm (List.range j) := by have := HPm.out; rw [List.append_nil] at this; exact (List.reverse_perm dn).symm.trans this
              have HE : putAll Sh.K [] (dn.map (mPut D)) = putAll Sh.K [] (mPuts D j) := puts_same D j dn (by omega) hperm
              have hT := HT.out
              rw [HE] at hT
              have hS := HMs.out
              generalize putAll Sh.K [] (mPuts D j) = FL at *
              have hta := hOS.tree (by omega) hS
              go_wp2_with fail
              refine hta.mono ?_
              rintro _ w9 ⟨rfl, hk9⟩
              have htb := (hOT.kept hk9).tree (by omega) hT
              have htl := treeL_len FL
              have hne : ((treeL FL) == ([] : List UInt8)) = false := by cases h : treeL FL with | nil => rw [h] at htl; cases htl | cons a b => rfl
              generalize treeL FL = TL at *
              go_wp2_with fail
              refine htb.mono ?_
              rintro _ w10 ⟨rfl, hk10⟩
              clear hta htb
              have hFin := (hP.kx.trans hk9).trans hk10
              go_wp2
              go_ret
              exact ⟨rfl, hFin⟩

end Go.Proofs.YtepgoppgblfjbaaGreatDoor
