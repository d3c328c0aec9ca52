import Derived.Test.YtepgoppgblfjbaaGreatDoorTw07
import Derived.Test.YtepgoppgblfjbaaGreatDoorTw08
import Derived.Laws.IdiomStrings
import Derived.Test.YtepgoppgblfjbaaGreatDoorTw03
/- The statement's own small functions: pick, digits, refs, paths. -/
namespace Go.Proofs.YtepgoppgblfjbaaGreatDoor
open Go.RowKit

/-- Which of n things the raw number c speaks of. -/
def pickN (c : Int) (n : Nat) : Nat := if c < 0 then (-(c + 1)).toNat % n else c.toNat % n

theorem pickN_lt (c : Int) (n : Nat) (h : 0 < n) : pickN c n < n := by
  unfold pickN; split <;> exact Nat.mod_lt _ h

theorem ret_int {k : IntKind} {a b : Int} (h : a = b) : Ending.returned (.int k a) = .returned (.int k b) := by rw [h]

theorem toNat_mod (x : Int) (n : Nat) (h : 0 ≤ x) : ((x.toNat % n : Nat) : Int) = x % (n : Int) := by
  obtain ⟨k, rfl⟩ := Int.eq_ofNat_of_zero_le h
  rw [Int.toNat_natCast]; rfl

set_option maxHeartbeats 400000 in
theorem pick_any (c : Int) (n : Nat) (w : World) (h1 : 0 < n) (h2 : n ≤ 8000) (hc1 : -9223372036854775808 ≤ c) (hc2 : c ≤ 9223372036854775807) :
    Calls Tryz.prog 19 #[.int .i64 c, .int .i64 (n : Int)] w fun e w' => e = .returned (.int .i64 (pickN c n : Nat)) ∧ w' = w := by
  by_cases h : c < 0
  · have HE : Hid ((pickN c n : Int) = -(c + 1).tmod (n : Int)) := by
      show _ = _
      unfold pickN
      rw [if_pos h, toNat_mod _ _ (by omega), ← Int.tmod_eq_emod_of_nonneg (by omega), Int.neg_tmod]
    have hn : ¬ (n : Int) = 0 := by omega
    go_enter Tryz.func19, Tryz.ntmps19
    go_wp2
    go_ret
    exact ⟨ret_int HE.out.symm, rfl⟩
  · have HE : Hid ((pickN c n : Int) = c % (n : Int)) := by
      show _ = _
      unfold pickN; rw [if_neg h, toNat_mod _ _ (by omega)]
    have hn : ¬ (n : Int) = 0 := by omega
    go_enter Tryz.func19, Tryz.ntmps19
    go_wp2
    go_ret
    exact ⟨ret_int HE.out.symm, rfl⟩

theorem app_str (a b : List UInt8) : (⟨a.toArray⟩ : ByteArray) ++ ⟨b.toArray⟩ = ⟨(a ++ b).toArray⟩ := by
  have h : ((⟨a.toArray⟩ : ByteArray) ++ ⟨b.toArray⟩).data = (a ++ b).toArray := by
    rw [ByteArray.data_append]; simp
  exact congrArg ByteArray.mk h

theorem conv_one (w : World) (x : Int) (u : UInt8) (h : (u.toNat : Int) = x) :
    (convert 58 9 (.slice (some ⟨w.heap.size, 0, none⟩) 1 1)).run Tryz.prog (w.alloc (.cells #[.int .u8 x] 5)) = .ok (.string ⟨#[u]⟩) (w.alloc (.cells #[.int .u8 x] 5)) := by
  subst h
  have h := run_convert_bytes_back (P := Tryz.prog) (w.alloc (.cells #[.int .u8 (u.toNat : Int)] 5)) 58 9 5 ⟨w.heap.size, 0, none⟩ 1 [u] Tryz.underlying58 Tryz.underlying5 Tryz.underlying9 (by
    intro j hj
    have hj0 : j = 0 := by simpa using hj
    subst hj0
    exact cells_new w [_] 5 0 _ rfl)
  exact h

set_option maxHeartbeats 400000 in
set_option maxRecDepth 100000 in
/-- A number below 10. -/
theorem digits_one (a : Int) (w : World) (h0 : 0 ≤ a) (h : a < 10) :
    Calls Tryz.prog 23 #[.int .i64 a] w fun e w' => e = .returned (.string ⟨(Pu.dig a.toNat).toArray⟩) ∧ ∀ X, Kx X w w' := by
  have hu : ((UInt8.ofNat (48 + a.toNat)).toNat : Int) = 48 + a % 10 := by
    rw [UInt8.toNat_ofNat']; omega
  have hcv := conv_one w (48 + a % 10) (UInt8.ofNat (48 + a.toNat)) hu
  have HE : Hid (Pu.dig a.toNat = [UInt8.ofNat (48 + a.toNat)]) := by show _ = _; unfold Pu.dig; rw [if_pos (by omega)]
  clear hu
  generalize UInt8.ofNat (48 + a.toNat) = u at *
  go_enter Tryz.func23, Tryz.ntmps23
  go_wp2
  go_ret
  exact ⟨by rw [HE.out]; rfl, fun X => (Kx.refl X w).alloc _⟩

set_option maxHeartbeats 400000 in
set_option maxRecDepth 100000 in
/-- A number below 100. -/
theorem digits_any (a : Int) (w : World) (h0 : 0 ≤ a) (h : a < 100) :
    Calls Tryz.prog 23 #[.int .i64 a] w fun e w' => e = .returned (.string ⟨(Pu.dig a.toNat).toArray⟩) ∧ ∀ X, Kx X w w' := by
  by_cases h10 : a < 10
  · exact digits_one a w h0 h10
  have hu : ((UInt8.ofNat (48 + a.toNat % 10)).toNat : Int) = 48 + a % 10 := by
    rw [UInt8.toNat_ofNat']; omega
  have hcv := conv_one w (48 + a % 10) (UInt8.ofNat (48 + a.toNat % 10)) hu
  have HE : Hid (Pu.dig a.toNat = [UInt8.ofNat (48 + a.toNat / 10), UInt8.ofNat (48 + a.toNat % 10)]) := by show _ = _; unfold Pu.dig; rw [if_neg (by omega)]
  have HD : Hid (Pu.dig (a / 10).toNat = [UInt8.ofNat (48 + a.toNat / 10)]) := by
    show _ = _
    unfold Pu.dig; rw [if_pos (by omega)]
    have : (a / 10).toNat = a.toNat / 10 := by omega
    rw [this]
  clear hu
  have happ := app_str
  generalize UInt8.ofNat (48 + a.toNat % 10) = u at *
  generalize UInt8.ofNat (48 + a.toNat / 10) = v at *
  go_enter Tryz.func23, Tryz.ntmps23
  go_wp2_with fail
  refine (digits_one (a / 10) _ (by omega) (by omega)).mono ?_
  rintro e w1 ⟨rfl, hk⟩
  rw [HD.out]
  go_wp2
  go_ret
  exact ⟨by rw [HE.out]; rfl, fun X => ((Kx.refl X w).alloc _).trans (hk X)⟩

end Go.Proofs.YtepgoppgblfjbaaGreatDoor

/- The statement's own functions: refs, paths, change, command, stream. -/
namespace Go.Proofs.YtepgoppgblfjbaaGreatDoor
open Go.RowKit

/-- A list of texts in a block of its own. -/
structure Ls (L : List (List UInt8)) (w w' : World) : Prop where
  size : w'.heap.size = w.heap.size + 1
  tbl : Cb w.heap.size (L.map (fun x => Value.string ⟨x.toArray⟩)).toArray 9 w'
  kx : ∀ X, Kx X w w'

set_option maxHeartbeats 400000 in
theorem refs_any (w : World) :
    Calls Tryz.prog 76 #[] w fun e w' => e = .returned (.slice (some ⟨w.heap.size, 0, none⟩) 3 3) ∧ Ls Pu.refsL w w' := by
  go_enter Tryz.func76, Tryz.ntmps76
  go_wp2
  go_ret
  exact ⟨rfl, by simp, Cb.new _ _ _, fun X => (Kx.refl X w).alloc _⟩

set_option maxHeartbeats 400000 in
theorem paths_any (w : World) :
    Calls Tryz.prog 22 #[] w fun e w' => e = .returned (.slice (some ⟨w.heap.size, 0, none⟩) 7 7) ∧ Ls Pu.pathsL w w' := by
  go_enter Tryz.func22, Tryz.ntmps22
  go_wp2
  go_ret
  exact ⟨rfl, by simp, Cb.new _ _ _, fun X => (Kx.refl X w).alloc _⟩

/-- Numbers of 64 bits. -/
def I64 (c : Int) : Prop := -9223372036854775808 ≤ c ∧ c ≤ 9223372036854775807

/-- The paths and refs, by number. -/
def pathAt (i : Nat) : List UInt8 := Pu.pathsL.getD i []
def refAt (i : Nat) : List UInt8 := Pu.refsL.getD i []

theorem pathAt_mem (i : Nat) (h : i < 7) : pathAt i ∈ Pu.pathsL := by
  have : i = 0 ∨ i = 1 ∨ i = 2 ∨ i = 3 ∨ i = 4 ∨ i = 5 ∨ i = 6 := by omega
  rcases this with rfl | rfl | rfl | rfl | rfl | rfl | rfl <;> decide
theorem refAt_mem (i : Nat) (h : i < 3) : refAt i ∈ Pu.refsL := by
  have : i = 0 ∨ i = 1 ∨ i = 2 := by omega
  rcases this with rfl | rfl | rfl <;> decide
theorem paths_short : ∀ p ∈ Pu.pathsL, p.length ≤ 5 := by decide
theorem refs_short : ∀ p ∈ Pu.refsL, p.length ≤ 4 := by decide

theorem pick_five (c : Int) : pickN c 5 = pickN c 30 % 5 := by
  unfold pickN
  split <;> rw [Nat.mod_mod_of_dvd _ (by decide : 5 ∣ 30)]

theorem dig_len (n : Nat) : (Pu.dig n).length ≤ 2 ∧ 1 ≤ (Pu.dig n).length := by unfold Pu.dig; split <;> simp

theorem ret_str {a b : List UInt8} (h : a = b) : Ending.returned (.string ⟨a.toArray⟩) = .returned (.string ⟨b.toArray⟩) := by rw [h]

theorem Ls.path {w w' : World} (h : Ls Pu.pathsL w w') (i : Nat) (hi : i < 7) : w'.cell? ⟨w.heap.size, i, none⟩ = some (.string ⟨(pathAt i).toArray⟩) := by
  have : i = 0 ∨ i = 1 ∨ i = 2 ∨ i = 3 ∨ i = 4 ∨ i = 5 ∨ i = 6 := by omega
  rcases this with rfl | rfl | rfl | rfl | rfl | rfl | rfl <;> exact h.tbl.cell _
theorem Ls.ref {w w' : World} (h : Ls Pu.refsL w w') (i : Nat) (hi : i < 3) : w'.cell? ⟨w.heap.size, i, none⟩ = some (.string ⟨(refAt i).toArray⟩) := by
  have : i = 0 ∨ i = 1 ∨ i = 2 := by omega
  rcases this with rfl | rfl | rfl <;> exact h.tbl.cell _

set_option maxHeartbeats 2000000 in
set_option maxRecDepth 100000 in
theorem changeL_aux (k A B C D : Int) (w : World) (hB : I64 B) (hC : I64 C) (hD : I64 D) (kB i1 i2 d5 d : Nat) (P1 P2 : List UInt8)
    (HB : Hid (pickN B 10 = kB)) (H1 : Hid (pickN C 7 = i1)) (H2 : Hid (pickN D 7 = i2)) (H5 : Hid (pickN D 5 = d5)) (H30 : Hid (pickN D 30 = d)) (HP1 : Hid (pathAt i1 = P1)) (HP2 : Hid (pathAt i2 = P2)) (HM : Hid (d5 = d % 5)) :
    Calls Tryz.prog 77 #[.agg #[.int .i64 k, .int .i64 A, .int .i64 B, .int .i64 C, .int .i64 D]] w fun e w' =>
      e = .returned (.string ⟨(Pu.changeS kB P1 P2 d).toArray⟩) ∧ ∀ X, Kx X w w' := by
  obtain ⟨hB1, hB2⟩ := hB
  obtain ⟨hC1, hC2⟩ := hC
  obtain ⟨hD1, hD2⟩ := hD
  have happ := app_str
  have hbox := Cb.new #[.int .i64 k, .int .i64 A, .int .i64 B, .int .i64 C, .int .i64 D] 38 w
  have hkb := fun X => (Kx.refl X w).alloc (.cells #[.int .i64 k, .int .i64 A, .int .i64 B, .int .i64 C, .int .i64 D] 38)
  have q1 : i1 < 7 := by rw [← H1.out]; exact pickN_lt C 7 (by omega)
  have q2 : i2 < 7 := by rw [← H2.out]; exact pickN_lt D 7 (by omega)
  have hd30 : d < 30 := by rw [← H30.out]; exact pickN_lt D 30 (by omega)
  have s1 : P1.length ≤ 5 := by rw [← HP1.out]; exact paths_short _ (pathAt_mem _ q1)
  have s2 : P2.length ≤ 5 := by rw [← HP2.out]; exact paths_short _ (pathAt_mem _ q2)
  go_enter Tryz.func77, Tryz.ntmps77
  go_wp2_with fail
  refine (paths_any _).mono ?_
  rintro e W ⟨rfl, hL⟩
  have hb2 := hbox.kept (hL.kx (fun _ => False)) id
  have hkW : ∀ X, Kx X w W := fun X => (hkb X).trans (hL.kx X)
  have p1 := hL.path i1 q1
  have p2 := hL.path i2 q2
  rw [World.size_alloc, HP1.out] at p1
  rw [World.size_alloc, HP2.out] at p2
  have a2 := hb2.cell 2
  have a3 := hb2.cell 3
  have a4 := hb2.cell 4
  clear hbox hkb hL
  go_wp2_with fail
  refine (pick_any C 7 _ (by omega) (by omega) hC1 hC2).mono ?_
  rintro e w1 ⟨rfl, rfl⟩
  rw [H1.out]
  go_wp2_with fail
  refine (pick_any D 7 _ (by omega) (by omega) hD1 hD2).mono ?_
  rintro e w1 ⟨rfl, rfl⟩
  rw [H2.out]
  go_wp2_with fail
  refine (pick_any B 10 _ (by omega) (by omega) hB1 hB2).mono ?_
  rintro e w1 ⟨rfl, rfl⟩
  rw [HB.out]
  by_cases h6 : kB = 6
  · subst h6
    go_wp2
    go_ret
    exact ⟨ret_str (by simp [Pu.changeS]), hkW⟩
  by_cases h7 : kB = 7
  · subst h7
    go_wp2
    go_ret
    exact ⟨ret_str (by simp [Pu.changeS]), hkW⟩
  by_cases h8 : kB = 8
  · subst h8
    go_wp2
    go_ret
    exact ⟨ret_str (by simp [Pu.changeS]), hkW⟩
  by_cases h9 : kB = 9
  · subst h9
    go_wp2
    go_ret
    exact ⟨ret_str (by simp [Pu.changeS]), hkW⟩
  have b6 : ((kB : Int) == 6) = false := beq_eq_false_iff_ne.2 (by omega)
  have b7 : ((kB : Int) == 7) = false := beq_eq_false_iff_ne.2 (by omega)
  have b8 : ((kB : Int) == 8) = false := beq_eq_false_iff_ne.2 (by omega)
  have b9 : ((kB : Int) == 9) = false := beq_eq_false_iff_ne.2 (by omega)
  have HS : Hid (Pu.changeS kB P1 P2 d = [77, 32] ++ (if d % 5 = 4 then Pu.s755 else Pu.s644) ++ [32, 105, 110, 108, 105, 110, 101, 32] ++ P1 ++ [10, 100, 97, 116, 97, 32] ++ Pu.dig (Pu.dig d).length ++ [10] ++ Pu.dig d ++ [10]) := by
    show _ = _
    unfold Pu.changeS
    rw [if_neg h6, if_neg h7, if_neg h8, if_neg h9]
  clear h6 h7 h8 h9
  go_wp2_with fail
  refine (pick_any D 5 _ (by omega) (by omega) hD1 hD2).mono ?_
  rintro e w1 ⟨rfl, rfl⟩
  rw [H5.out]
  obtain ⟨md, HMd, b4⟩ : ∃ md, Hid ((if d % 5 = 4 then Pu.s755 else Pu.s644) = md) ∧ ((((d5 : Int) == 4) = true ∧ md = [49, 48, 48, 55, 53, 53]) ∨ (((d5 : Int) == 4) = false ∧ md = [49, 48, 48, 54, 52, 52])) := by
    refine ⟨_, rfl, ?_⟩
    rw [HM.out]
    by_cases e : d % 5 = 4
    · left; rw [if_pos e, e]; exact ⟨rfl, rfl⟩
    · right; rw [if_neg e]; exact ⟨beq_eq_false_iff_ne.2 (by omega), rfl⟩
  rw [HMd.out] at HS
  obtain ⟨dd, HDD⟩ : ∃ dd, Hid (Pu.dig d = dd) := ⟨_, rfl⟩
  have hdd := dig_len d
  rw [HDD.out] at hdd HS
  obtain ⟨d2, HD2⟩ : ∃ d2, Hid (Pu.dig dd.length = d2) := ⟨_, rfl⟩
  have hd2 := dig_len dd.length
  rw [HD2.out] at hd2 HS
  rcases b4 with ⟨b4, rfl⟩ | ⟨b4, rfl⟩
  all_goals
    go_wp2_with fail
    refine (pick_any D 30 _ (by omega) (by omega) hD1 hD2).mono ?_
    rintro e w1 ⟨rfl, rfl⟩
    rw [H30.out]
    go_wp2_with fail
    refine (digits_any d _ (by omega) (by omega)).mono ?_
    rintro e w2 ⟨rfl, hk2⟩
    rw [Int.toNat_natCast, HDD.out]
    go_wp2_with fail
    refine (digits_any dd.length _ (by omega) (by omega)).mono ?_
    rintro e w3 ⟨rfl, hk3⟩
    rw [Int.toNat_natCast, HD2.out]
    go_wp2
    go_ret
    exact ⟨ret_str (by rw [HS.out]; simp), fun X => ((hkW X).trans (hk2 X)).trans (hk3 X)⟩

theorem changeL_any (k A B C D : Int) (w : World) (hB : I64 B) (hC : I64 C) (hD : I64 D) :
    Calls Tryz.prog 77 #[.agg #[.int .i64 k, .int .i64 A, .int .i64 B, .int .i64 C, .int .i64 D]] w fun e w' =>
      e = .returned (.string ⟨(Pu.changeS (pickN B 10) (pathAt (pickN C 7)) (pathAt (pickN D 7)) (pickN D 30)).toArray⟩) ∧ ∀ X, Kx X w w' :=
  changeL_aux k A B C D w hB hC hD _ _ _ _ _ _ _ rfl rfl rfl rfl rfl rfl rfl (pick_five D)

end Go.Proofs.YtepgoppgblfjbaaGreatDoor

/- The statement's own command. -/
namespace Go.Proofs.YtepgoppgblfjbaaGreatDoor
open Go.RowKit

set_option maxHeartbeats 4000000 in
set_option maxRecDepth 100000 in
theorem commandL_aux (K A B C D : Int) (w : World) (hK : I64 K) (hA : I64 A) (hB : I64 B) (hC : I64 C) (hD : I64 D) (a n : Int) (nn kk ia ib : Nat) (R O G : List UInt8) (ha : a = n) (hn : n = (nn : Int)) (hnn : nn < 100)
    (HK : Hid (pickN K 9 = kk)) (HA : Hid (pickN A 3 = ia)) (HB : Hid (pickN B 3 = ib)) (HR : Hid (refAt ia = R)) (HO : Hid (refAt ib = O)) (HG : Hid (Pu.changeS (pickN B 10) (pathAt (pickN C 7)) (pathAt (pickN D 7)) (pickN D 30) = G)) (hG : G.length ≤ 100) :
    Calls Tryz.prog 48 #[.agg #[.int .i64 K, .int .i64 A, .int .i64 B, .int .i64 C, .int .i64 D], .int .i64 a] w fun e w' =>
      e = .returned (.string ⟨(Pu.commandS kk R O nn ia G).toArray⟩) ∧ ∀ X, Kx X w w' := by
  subst ha hn
  obtain ⟨hK1, hK2⟩ := hK
  obtain ⟨hA1, hA2⟩ := hA
  obtain ⟨hB1, hB2⟩ := id hB
  have happ := app_str
  have hbox := Cb.new #[.int .i64 K, .int .i64 A, .int .i64 B, .int .i64 C, .int .i64 D] 38 w
  have hkb := fun X => (Kx.refl X w).alloc (.cells #[.int .i64 K, .int .i64 A, .int .i64 B, .int .i64 C, .int .i64 D] 38)
  have q1 : ia < 3 := by rw [← HA.out]; exact pickN_lt A 3 (by omega)
  have q2 : ib < 3 := by rw [← HB.out]; exact pickN_lt B 3 (by omega)
  have s1 : R.length ≤ 4 := by rw [← HR.out]; exact refs_short _ (refAt_mem _ q1)
  have s2 : O.length ≤ 4 := by rw [← HO.out]; exact refs_short _ (refAt_mem _ q2)
  obtain ⟨dn, HDN⟩ : ∃ dn, Hid (Pu.dig nn = dn) := ⟨_, rfl⟩
  obtain ⟨dt, HDT⟩ : ∃ dt, Hid (Pu.dig ia = dt) := ⟨_, rfl⟩
  have hdn := (dig_len nn).1
  have hdt := (dig_len ia).1
  rw [HDN.out] at hdn
  rw [HDT.out] at hdt
  obtain ⟨hd, HH⟩ : ∃ hd, Hid (Pu.headS R nn = hd) := ⟨_, rfl⟩
  have HC : Hid (Pu.commandS kk R O nn ia G = if kk < 6 then hd ++ G ++ [10]
      else if kk = 6 then [114, 101, 115, 101, 116, 32] ++ R ++ [10, 102, 114, 111, 109, 32] ++ O ++ [10, 10]
      else if kk = 7 then [116, 97, 103, 32, 116] ++ dt ++ [10, 102, 114, 111, 109, 32] ++ O ++ [10, 100, 97, 116, 97, 32, 48, 10, 10]
      else hd ++ [109, 101, 114, 103, 101, 32] ++ O ++ [10, 10]) := by
    show _ = _
    unfold Pu.commandS; rw [HH.out, HDT.out]
  have HHd : Hid ([99, 111, 109, 109, 105, 116, 32] ++ R ++ [10, 109, 97, 114, 107, 32, 58] ++ dn ++ [10, 97, 117, 116, 104, 111, 114, 32, 65, 32, 66, 32, 60, 97, 64, 98, 62, 32] ++ dn ++ [10, 100, 97, 116, 97, 32, 49, 10, 109, 10] = hd) := by
    show _ = _
    rw [← HH.out, ← HDN.out]; rfl
  have hhl : hd.length ≤ 100 := by rw [← HHd.out]; simp; omega
  clear HH
  go_enter Tryz.func48, Tryz.ntmps48
  go_wp2_with fail
  refine (refs_any _).mono ?_
  rintro e W ⟨rfl, hL⟩
  have hb2 := hbox.kept (hL.kx (fun _ => False)) id
  have hkW : ∀ X, Kx X w W := fun X => (hkb X).trans (hL.kx X)
  have p1 := hL.ref ia q1
  have p2 := hL.ref ib q2
  rw [World.size_alloc, HR.out] at p1
  rw [World.size_alloc, HO.out] at p2
  have a0 := hb2.cell 0
  have a1 := hb2.cell 1
  have a2 := hb2.cell 2
  have a3 := hb2.cell 3
  have a4 := hb2.cell 4
  clear hbox hkb hL
  go_wp2_with fail
  refine (pick_any A 3 _ (by omega) (by omega) hA1 hA2).mono ?_
  rintro e w1 ⟨rfl, rfl⟩
  rw [HA.out]
  go_wp2_with fail
  refine (pick_any B 3 _ (by omega) (by omega) hB1 hB2).mono ?_
  rintro e w1 ⟨rfl, rfl⟩
  rw [HB.out]
  go_wp2_with fail
  clear p1 p2
  refine (digits_any nn _ (by omega) (by omega)).mono ?_
  rintro e w2 ⟨rfl, hk2⟩
  rw [Int.toNat_natCast, HDN.out]
  go_wp2_with fail
  refine (digits_any nn _ (by omega) (by omega)).mono ?_
  rintro e w3 ⟨rfl, hk3⟩
  rw [Int.toNat_natCast, HDN.out]
  have hb3 := (hb2.kept (hk2 (fun _ => False)) id).kept (hk3 (fun _ => False)) id
  have hk4 : ∀ X, Kx X w w3 := fun X => ((hkW X).trans (hk2 X)).trans (hk3 X)
  clear a0 a1 a2 a3 a4 hb2 hk2 hk3 hkW
  have a0 := hb3.cell 0
  have a1 := hb3.cell 1
  have a2 := hb3.cell 2
  have a3 := hb3.cell 3
  have a4 := hb3.cell 4
  clear hb3
  go_wp2_with fail
  refine (pick_any K 9 _ (by omega) (by omega) hK1 hK2).mono ?_
  rintro e w4 ⟨rfl, rfl⟩
  rw [HK.out]
  by_cases h6 : kk < 6
  · have HC2 : Hid (Pu.commandS kk R O nn ia G = hd ++ G ++ [10]) := by show _ = _; rw [HC.out, if_pos h6]
    clear HC
    go_wp2_with fail
    refine (changeL_any K A B C D _ hB hC hD).mono ?_
    rintro e w5 ⟨rfl, hk5⟩
    rw [HG.out]
    go_wp2
    go_ret
    exact ⟨ret_str (by rw [HC2.out, ← HHd.out]; simp), fun X => (hk4 X).trans (hk5 X)⟩
  by_cases h7 : kk = 6
  · subst h7
    have HC2 : Hid (Pu.commandS 6 R O nn ia G = [114, 101, 115, 101, 116, 32] ++ R ++ [10, 102, 114, 111, 109, 32] ++ O ++ [10, 10]) := by show _ = _; rw [HC.out]; rfl
    clear HC
    go_wp2
    go_ret
    exact ⟨ret_str (by rw [HC2.out]; simp), hk4⟩
  by_cases h8 : kk = 7
  · subst h8
    have HC2 : Hid (Pu.commandS 7 R O nn ia G = [116, 97, 103, 32, 116] ++ dt ++ [10, 102, 114, 111, 109, 32] ++ O ++ [10, 100, 97, 116, 97, 32, 48, 10, 10]) := by show _ = _; rw [HC.out]; rfl
    clear HC
    go_wp2_with fail
    refine (pick_any A 3 _ (by omega) (by omega) hA1 hA2).mono ?_
    rintro e w4 ⟨rfl, rfl⟩
    rw [HA.out]
    go_wp2_with fail
    refine (digits_any ia _ (by omega) (by omega)).mono ?_
    rintro e w5 ⟨rfl, hk5⟩
    rw [Int.toNat_natCast, HDT.out]
    go_wp2
    go_ret
    exact ⟨ret_str (by rw [HC2.out]; simp), fun X => (hk4 X).trans (hk5 X)⟩
  · have HC2 : Hid (Pu.commandS kk R O nn ia G = hd ++ [109, 101, 114, 103, 101, 32] ++ O ++ [10, 10]) := by show _ = _; rw [HC.out, if_neg h6, if_neg h7, if_neg h8]
    have b6 : ((kk : Int) == 6) = false := beq_eq_false_iff_ne.2 (by omega)
    have b7 : ((kk : Int) == 7) = false := beq_eq_false_iff_ne.2 (by omega)
    clear HC
    go_wp2
    go_ret
    exact ⟨ret_str (by rw [HC2.out, ← HHd.out]; simp), hk4⟩

/-- An act. -/
structure Ac where
  K : Int
  A : Int
  B : Int
  C : Int
  D : Int

def Ac.ok (a : Ac) : Prop := I64 a.K ∧ I64 a.A ∧ I64 a.B ∧ I64 a.C ∧ I64 a.D
/-- Its text, as the command with the mark n. -/
def Ac.text (a : Ac) (n : Nat) : List UInt8 :=
  Pu.commandS (pickN a.K 9) (refAt (pickN a.A 3)) (refAt (pickN a.B 3)) n (pickN a.A 3) (Pu.changeS (pickN a.B 10) (pathAt (pickN a.C 7)) (pathAt (pickN a.D 7)) (pickN a.D 30))
def Ac.val (a : Ac) : Value := .agg #[.int .i64 a.K, .int .i64 a.A, .int .i64 a.B, .int .i64 a.C, .int .i64 a.D]

theorem Ac.good (a : Ac) (n : Nat) (h : 1 ≤ n ∧ n ≤ 12) : Pu.Good (a.text n) :=
  Pu.command_good _ _ _ n _ _ (refAt_mem _ (pickN_lt _ 3 (by omega))) (refAt_mem _ (pickN_lt _ 3 (by omega))) h (pickN_lt _ 3 (by omega))
    (Pu.change_good _ _ _ _ (pickN_lt _ 10 (by omega)) (pathAt_mem _ (pickN_lt _ 7 (by omega))) (pathAt_mem _ (pickN_lt _ 7 (by omega))) (pickN_lt _ 30 (by omega)))

theorem commandL_any (a : Ac) (ha : a.ok) (n : Int) (nn : Nat) (hn : n = (nn : Int)) (hnn : nn < 100) (w : World) :
    Calls Tryz.prog 48 #[.agg #[.int .i64 a.K, .int .i64 a.A, .int .i64 a.B, .int .i64 a.C, .int .i64 a.D], .int .i64 n] w fun e w' => e = .returned (.string ⟨(a.text nn).toArray⟩) ∧ ∀ X, Kx X w w' := by
  have hg := (Pu.change_good (pickN a.B 10) (pathAt (pickN a.C 7)) (pathAt (pickN a.D 7)) (pickN a.D 30) (pickN_lt _ 10 (by omega)) (pathAt_mem _ (pickN_lt _ 7 (by omega))) (pathAt_mem _ (pickN_lt _ 7 (by omega))) (pickN_lt _ 30 (by omega))).2
  rw [List.length_append] at hg
  exact commandL_aux a.K a.A a.B a.C a.D w ha.1 ha.2.1 ha.2.2.1 ha.2.2.2.1 ha.2.2.2.2 n n nn _ _ _ _ _ _ rfl hn hnn rfl rfl rfl rfl rfl rfl (by omega)

end Go.Proofs.YtepgoppgblfjbaaGreatDoor

/- The statement's own stream. -/
namespace Go.Proofs.YtepgoppgblfjbaaGreatDoor
open Go.RowKit

/-- The texts of the first k acts. -/
def texts (f : Nat → Ac) (k : Nat) : List (List UInt8) := (List.range k).map (fun j => (f j).text (j + 1))

theorem texts_succ (f : Nat → Ac) (k : Nat) : (texts f (k + 1)).flatten = (texts f k).flatten ++ (f k).text (k + 1) := by
  unfold texts; rw [List.range_succ]; simp

theorem texts_good (f : Nat → Ac) (k : Nat) (hk : k ≤ 12) : ∀ c ∈ texts f k, Pu.Good c := by
  intro c hc
  unfold texts at hc
  obtain ⟨j, hj, rfl⟩ := List.mem_map.1 hc
  exact (f j).good (j + 1) ⟨by omega, by have := List.mem_range.1 hj; omega⟩

theorem texts_len (f : Nat → Ac) (k : Nat) (hk : k ≤ 12) : (texts f k).flatten.length ≤ 2400 := by
  have h := Pu.stream_len (texts f k) (texts_good f k hk)
  have h2 : (texts f k).length = k := by simp [texts]
  omega

/-- The stream of acts. -/
def streamOf (f : Nat → Ac) (len : Nat) : List UInt8 := Pu.streamS (texts f (min len 12))

set_option maxHeartbeats 1000000 in
set_option maxRecDepth 100000 in
theorem streamL_any (b off len cap : Nat) (f : Nat → Ac) (w : World) (hlen : len ≤ maxLen) (hok : ∀ i, i < len → (f i).ok)
    (h0 : ∀ i, i < len → w.cell? ⟨b, off + i * 5, none⟩ = some (.int .i64 (f i).K))
    (h1 : ∀ i, i < len → w.cell? ⟨b, off + i * 5 + 1, none⟩ = some (.int .i64 (f i).A))
    (h2 : ∀ i, i < len → w.cell? ⟨b, off + i * 5 + 2, none⟩ = some (.int .i64 (f i).B))
    (h3 : ∀ i, i < len → w.cell? ⟨b, off + i * 5 + 3, none⟩ = some (.int .i64 (f i).C))
    (h4 : ∀ i, i < len → w.cell? ⟨b, off + i * 5 + 4, none⟩ = some (.int .i64 (f i).D)) :
    Calls Tryz.prog 17 #[.slice (some ⟨b, off, none⟩) len cap] w fun e w' => e = .returned (.string ⟨(streamOf f len).toArray⟩) ∧ ∀ X, Kx X w w' := by
  unfold maxLen at hlen
  have happ := app_str
  go_enter Tryz.func17, Tryz.ntmps17
  go_wp2
  go_loopw [3, 4] (fun sv iv w' => ∃ k : Nat, k ≤ len ∧ k ≤ 12 ∧ iv = .int .i64 k ∧ sv = .string ⟨(texts f k).flatten.toArray⟩ ∧ ∀ X, Kx X w w') (fun _ iv _ => 12 - (intOf iv).toNat)
  case atStart => exact ⟨0, by omega, by omega, rfl, rfl, fun X => Kx.refl X w⟩
  case round =>
    obtain ⟨k, hkl, hk12, rfl, rfl, hk⟩ := hrel
    have htl := texts_len f k hk12
    by_cases hc : k < len ∧ k < 12
    · obtain ⟨hc1, hc2⟩ := hc
      have HS : Hid ((texts f (k + 1)).flatten = (texts f k).flatten ++ (f k).text (k + 1)) := texts_succ f k
      have hgl := ((f k).good (k + 1) ⟨by omega, by omega⟩).len
      have hcl := fun p hp => (hk (fun _ => False)).cell (p := p) hp id
      have e0 := h0 k hc1
      have e1 := h1 k hc1
      have e2 := h2 k hc1
      have e3 := h3 k hc1
      have e4 := h4 k hc1
      have c0 := (hcl _ (lt_of_cell e0)).trans e0
      have c1 := (hcl _ (lt_of_cell e1)).trans e1
      have c2 := (hcl _ (lt_of_cell e2)).trans e2
      have c3 := (hcl _ (lt_of_cell e3)).trans e3
      have c4 := (hcl _ (lt_of_cell e4)).trans e4
      have hck := hok k hc1
      clear e0 e1 e2 e3 e4 hcl h0 h1 h2 h3 h4 hok
      generalize (texts f k).flatten = T at *
      go_wp2_with fail
      refine (commandL_any (f k) hck _ (k + 1) (by omega) (by omega) _).mono ?_
      rintro e w2 ⟨rfl, hk2⟩
      generalize (f k).text (k + 1) = C at *
      go_wp2
      go_roundw
      case rel => exact ⟨k + 1, by omega, by omega, by go_num, by rw [HS.out], fun X => (hk X).trans (hk2 X)⟩
      case measure => simp [intOf]; omega
    · have hmin : min len 12 = k := by omega
      have HE : Hid (streamOf f len = (texts f k).flatten ++ [100, 111, 110, 101, 10]) := by show _ = _; unfold streamOf Pu.streamS; rw [hmin]
      clear h0 h1 h2 h3 h4 hok hmin
      generalize (texts f k).flatten = T at *
      by_cases hc1 : k < len
      · have hc2 : ¬ k < 12 := fun e => hc ⟨hc1, e⟩
        clear hc
        go_wp2
        go_ret
        exact ⟨by rw [HE.out]; rfl, hk⟩
      · clear hc
        go_wp2
        go_ret
        exact ⟨by rw [HE.out]; rfl, hk⟩

set_option maxHeartbeats 400000 in
set_option maxRecDepth 100000 in
/-- No acts at all. -/
theorem streamL_none (ao : Option Addr) (cap : Nat) (f : Nat → Ac) (w : World) :
    Calls Tryz.prog 17 #[.slice ao 0 cap] w fun e w' => e = .returned (.string ⟨(streamOf f 0).toArray⟩) ∧ ∀ X, Kx X w w' := by
  have HE : Hid (streamOf f 0 = [100, 111, 110, 101, 10]) := rfl
  have happ := app_str
  go_enter Tryz.func17, Tryz.ntmps17
  go_wp2
  refine wp_loop_rounds 1 ?_
  rw [rounds_succ]
  go_wp2
  go_ret
  exact ⟨by rw [HE.out]; rfl, fun X => Kx.refl X w⟩

theorem readAll_streamOf (f : Nat → Ac) (len : Nat) : Pu.readAll (streamOf f len) = (min len 12, [], false) := by
  unfold streamOf
  rw [Pu.readAll_stream _ (texts_good f _ (by omega))]
  simp [texts]

theorem streamOf_len (f : Nat → Ac) (len : Nat) : (streamOf f len).length ≤ 2405 ∧ 0 < (streamOf f len).length := by
  have := texts_len f (min len 12) (by omega)
  unfold streamOf Pu.streamS
  rw [List.length_append]
  simp only [List.length_cons, List.length_nil]
  omega

end Go.Proofs.YtepgoppgblfjbaaGreatDoor

/- The statement itself, over every list of acts and every cut: what the call leaves. -/
namespace Go.Proofs.YtepgoppgblfjbaaGreatDoor
open Go.RowKit

def exampleL : List UInt8 := [98, 108, 111, 98, 10, 109, 97, 114, 107, 32, 58, 49, 10, 100, 97, 116, 97, 32, 50, 10, 104, 105, 10, 99, 111, 109, 109, 105, 116, 32, 109, 97, 105, 110, 10, 109, 97, 114, 107, 32, 58, 50, 10, 97, 117, 116, 104, 111, 114, 32, 65, 32, 66, 32, 60, 97, 64, 98, 62, 32, 55, 10, 100, 97, 116, 97, 32, 49, 10, 120, 10, 77, 32, 49, 48, 48, 54, 52, 52, 32, 58, 49, 32, 100, 47, 102, 10, 10, 100, 111, 110, 101, 10]
theorem example_check : Pu.check exampleL = (2, 0) := by kernel_rfl
theorem done_check : Pu.check [100, 111, 110, 101, 10] = (0, 0) := by kernel_rfl
theorem zero_check : Pu.check [98, 108, 111, 98, 10, 109, 97, 114, 107, 32, 58, 48, 10] = (1, 1) := by kernel_rfl

set_option maxHeartbeats 400000 in
theorem example_any (w : World) : Calls Tryz.prog 47 #[] w fun e w' => e = .returned (.string ⟨exampleL.toArray⟩) ∧ w' = w := by
  go_enter Tryz.func47, Tryz.ntmps47
  go_wp2
  go_ret
  exact ⟨congrArg (fun l : List UInt8 => Ending.returned (.string ⟨l.toArray⟩)) (by decide +kernel), rfl⟩

theorem check_kx (s : List UInt8) (m : Int) (w : World) (hm : Mx m w) (hmax : s.length ≤ maxLen) (n e : Int) (h : Pu.check s = (n, e)) :
    Calls Tryz.prog 18 #[.string ⟨s.toArray⟩] w fun x w' => x = .returned (.tuple #[.int .i64 n, .int .i64 e]) ∧ ∀ X, Kx X w w' := by
  refine (check_any s m w hm.1 hm.2 hmax).mono ?_
  rintro x w' ⟨rfl, hb⟩
  rw [h]
  exact ⟨rfl, fun X => hb.mono (fun _ _ e => e.elim)⟩

set_option maxHeartbeats 400000 in
theorem checked_any (m : Int) (w : World) (hm : Mx m w) :
    Calls Tryz.prog 16 #[] w fun e w' => e = .returned (.bool true) ∧ ∀ X, Kx X w w' := by
  go_enter Tryz.func16, Tryz.ntmps16
  go_wp2_with fail
  refine (example_any _).mono ?_
  rintro e w1 ⟨rfl, rfl⟩
  go_wp2_with fail
  refine (check_kx exampleL m _ hm (by decide) 2 0 example_check).mono ?_
  rintro e w2 ⟨rfl, hk2⟩
  have hm2 := max_kept hm hk2
  go_wp2_with fail
  refine (check_kx [100, 111, 110, 101, 10] m _ hm2 (by decide) 0 0 done_check).mono ?_
  rintro e w3 ⟨rfl, hk3⟩
  have hm3 := max_kept hm2 hk3
  go_wp2_with fail
  refine (check_kx [98, 108, 111, 98, 10, 109, 97, 114, 107, 32, 58, 48, 10] m _ hm3 (by decide) 1 1 zero_check).mono ?_
  rintro e w4 ⟨rfl, hk4⟩
  go_wp2
  go_ret
  exact ⟨rfl, fun X => ((hk2 X).trans (hk3 X)).trans (hk4 X)⟩

set_option maxHeartbeats 1000000 in
set_option maxRecDepth 100000 in
/-- What follows the stream. -/
theorem cut_walk (v : Value) (S : List UInt8) (cut : Int) (m : Int) (N c : Nat) (na nb ng nh : Int) (w : World) (hm : Mx m w) (hcut : I64 cut)
    (hstream : ∀ w1 : World, (∀ X, Kx X w w1) → Calls Tryz.prog 17 #[v] w1 fun e w' => e = .returned (.string ⟨S.toArray⟩) ∧ ∀ X, Kx X w1 w')
    (hS : S.length ≤ 2405) (hS0 : 0 < S.length) (Hc : Hid (pickN cut S.length = c)) (hc : c < S.length)
    (H0 : Hid (Pu.check S = ((N : Int), 0))) (H1 : Hid (Pu.check (S.take c) = (na, 1))) (H2 : Hid (Pu.check (S.take (c + 1)) = (nb, ng))) (H3 : Hid (Pu.check (S ++ [120]) = (nh, 1)))
    (h1 : 1 ≤ na) (h2 : na ≤ (N : Int) + 1) (hN : N ≤ 60) (hg : ng = 0 ∨ (ng = 1 ∧ na ≤ nb)) :
    Calls Tryz.prog 4 #[v, .int .i64 cut] w fun e w' => e = .returned (.bool true) ∧ ∀ X, Kx X w w' := by
  obtain ⟨hc1, hc2⟩ := hcut
  have happ := app_str
  have hext := ext_take S
  go_enter Tryz.func4, Tryz.ntmps4
  go_wp2_with fail
  refine (checked_any m _ hm).mono ?_
  rintro e w1 ⟨rfl, k1⟩
  have m1 := max_kept hm k1
  go_wp2_with fail
  refine (hstream _ k1).mono ?_
  rintro e w2 ⟨rfl, k2⟩
  have m2 := max_kept m1 k2
  go_wp2_with fail
  refine (check_kx S m _ m2 (by unfold maxLen; omega) _ _ H0.out).mono ?_
  rintro e w3 ⟨rfl, k3⟩
  have m3 := max_kept m2 k3
  go_wp2_with fail
  refine (pick_any cut S.length _ hS0 (by omega) hc1 hc2).mono ?_
  rintro e w4 ⟨rfl, rfl⟩
  rw [Hc.out]
  go_wp2_with fail
  refine (check_kx (S.take c) m _ m3 (by unfold maxLen; simp; omega) _ _ H1.out).mono ?_
  rintro e w5 ⟨rfl, k5⟩
  have m5 := max_kept m3 k5
  go_wp2_with fail
  refine (check_kx (S.take (c + 1)) m _ m5 (by unfold maxLen; simp; omega) _ _ H2.out).mono ?_
  rintro e w6 ⟨rfl, k6⟩
  have m6 := max_kept m5 k6
  go_wp2_with fail
  refine (check_kx (S ++ [120]) m _ m6 (by unfold maxLen; simp; omega) _ _ H3.out).mono ?_
  rintro e w7 ⟨rfl, k7⟩
  have kk : ∀ X, Kx X w w7 := fun X => (((((k1 X).trans (k2 X)).trans (k3 X)).trans (k5 X)).trans (k6 X)).trans (k7 X)
  rcases hg with rfl | ⟨rfl, hab⟩
  · go_wp2
    go_ret
    exact ⟨rfl, kk⟩
  · go_wp2
    go_ret
    exact ⟨rfl, kk⟩

end Go.Proofs.YtepgoppgblfjbaaGreatDoor

/- The streams that the statement Followed writes, and their commands. -/
namespace Go.Proofs.YtepgoppgblfjbaaGreatDoor
namespace Pu

def whB (a b : Wh) : Bool := a.mark == b.mark && a.ref == b.ref
def whsB : List Wh → List Wh → Bool
  | [], [] => true
  | a :: r, b :: s => whB a b && whsB r s
  | _, _ => false
def chB (a b : Ch) : Bool := a.word == b.word && (a.mode == b.mode && (a.mark == b.mark && (a.data == b.data && (a.path == b.path && a.to == b.to))))
def chsB : List Ch → List Ch → Bool
  | [], [] => true
  | a :: r, b :: s => chB a b && chsB r s
  | _, _ => false
def coB (a b : Co) : Bool := a.word == b.word && (a.ref == b.ref && (a.mark == b.mark && (a.au.name == b.au.name && (a.au.mail == b.au.mail && (a.au.time == b.au.time && (a.data == b.data && (whB a.frm b.frm && (whsB a.merges b.merges && chsB a.changes b.changes))))))))
def cosB : List Co → List Co → Bool
  | [], [] => true
  | a :: r, b :: s => coB a b && cosB r s
  | _, _ => false

theorem whB_eq {a b : Wh} (h : whB a b = true) : a = b := by
  obtain ⟨m, r⟩ := a
  obtain ⟨m', r'⟩ := b
  simp only [whB, Bool.and_eq_true, beq_iff_eq] at h
  obtain ⟨rfl, rfl⟩ := h
  rfl
theorem whsB_eq : ∀ {a b : List Wh}, whsB a b = true → a = b
  | [], [], _ => rfl
  | a :: r, b :: s, h => by
    simp only [whsB, Bool.and_eq_true] at h
    rw [whB_eq h.1, whsB_eq h.2]
  | [], _ :: _, h => by simp [whsB] at h
  | _ :: _, [], h => by simp [whsB] at h
theorem chB_eq {a b : Ch} (h : chB a b = true) : a = b := by
  obtain ⟨a1, a2, a3, a4, a5, a6⟩ := a
  obtain ⟨b1, b2, b3, b4, b5, b6⟩ := b
  simp only [chB, Bool.and_eq_true, beq_iff_eq] at h
  obtain ⟨rfl, rfl, rfl, rfl, rfl, rfl⟩ := h
  rfl
theorem chsB_eq : ∀ {a b : List Ch}, chsB a b = true → a = b
  | [], [], _ => rfl
  | a :: r, b :: s, h => by
    simp only [chsB, Bool.and_eq_true] at h
    rw [chB_eq h.1, chsB_eq h.2]
  | [], _ :: _, h => by simp [chsB] at h
  | _ :: _, [], h => by simp [chsB] at h
theorem coB_eq {a b : Co} (h : coB a b = true) : a = b := by
  obtain ⟨a1, a2, a3, ⟨n, m, t⟩, a5, a6, a7, a8⟩ := a
  obtain ⟨b1, b2, b3, ⟨n', m', t'⟩, b5, b6, b7, b8⟩ := b
  simp only [coB, Bool.and_eq_true, beq_iff_eq] at h
  obtain ⟨rfl, rfl, rfl, rfl, rfl, rfl, rfl, h1, h2, h3⟩ := h
  rw [whB_eq h1, whsB_eq h2, chsB_eq h3]
theorem cosB_eq : ∀ {a b : List Co}, cosB a b = true → a = b
  | [], [], _ => rfl
  | a :: r, b :: s, h => by
    simp only [cosB, Bool.and_eq_true] at h
    rw [coB_eq h.1, cosB_eq h.2]
  | [], _ :: _, h => by simp [cosB] at h
  | _ :: _, [], h => by simp [cosB] at h

def sMain : List UInt8 := [109, 97, 105, 110]
/-- "commit main\nmark :1\nauthor A <a> 1\ndata 0\n\n" -/
def folHead : List UInt8 := [99, 111, 109, 109, 105, 116, 32, 109, 97, 105, 110, 10, 109, 97, 114, 107, 32, 58, 49, 10, 97, 117, 116, 104, 111, 114, 32, 65, 32, 60, 97, 62, 32, 49, 10, 100, 97, 116, 97, 32, 48, 10, 10]
def folText (gone : Bool) (p : List UInt8) (d : Nat) : List UInt8 :=
  if gone then [68, 32] ++ p ++ [10]
  else [77, 32, 49, 48, 48, 54, 52, 52, 32, 105, 110, 108, 105, 110, 101, 32] ++ p ++ [10, 100, 97, 116, 97, 32] ++ dig (dig d).length ++ [10] ++ dig d ++ [10]
def folS (gone : Bool) (p : List UInt8) (d : Nat) : List UInt8 := folHead ++ folText gone p d ++ [10, 100, 111, 110, 101, 10]
def folCh (gone : Bool) (p : List UInt8) (d : Nat) : Ch := if gone then ⟨[68], [], 0, [], p, []⟩ else ⟨[77], s644, 0, dig d, p, []⟩
def folCo (gone : Bool) (p : List UInt8) (d : Nat) : Co := ⟨sCommit, sMain, 1, ⟨[65], [97], 1⟩, [], ⟨0, []⟩, [], [folCh gone p d]⟩

theorem fol_put_ok : (pathsL.all fun p => (List.range 30).all fun d => cosB (commands (folS false p d)) [folCo false p d] && (check (folS false p d) == (1, 0) && decide ((folS false p d).length ≤ 200))) = true := by kernel_rfl
theorem fol_del_ok : (pathsL.all fun p => cosB (commands (folS true p 0)) [folCo true p 0] && (check (folS true p 0) == (1, 0) && decide ((folS true p 0).length ≤ 200))) = true := by kernel_rfl

theorem fol_ok (gone : Bool) (p : List UInt8) (d : Nat) (hp : p ∈ pathsL) (hd : d < 30) : commands (folS gone p d) = [folCo gone p d] ∧ check (folS gone p d) = (1, 0) ∧ (folS gone p d).length ≤ 200 := by
  cases gone with
  | false =>
    have h := List.all_eq_true.1 (List.all_eq_true.1 fol_put_ok p hp) d (List.mem_range.2 hd)
    simp only [Bool.and_eq_true, beq_iff_eq, decide_eq_true_eq] at h
    exact ⟨cosB_eq h.1, h.2⟩
  | true =>
    have h := List.all_eq_true.1 fol_del_ok p hp
    simp only [Bool.and_eq_true, beq_iff_eq, decide_eq_true_eq] at h
    exact ⟨cosB_eq h.1, h.2⟩

end Pu
end Go.Proofs.YtepgoppgblfjbaaGreatDoor
