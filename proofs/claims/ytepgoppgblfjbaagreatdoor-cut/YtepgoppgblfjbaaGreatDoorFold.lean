/- The statement's own small functions: pick, digits, refs, paths. -/
import Derived.Test.YtepgoppgblfjbaaGreatDoorCheck
import Derived.Test.YtepgoppgblfjbaaGreatDoorCutPure
import Derived.Laws.IdiomStrings
namespace Go.Proofs.YtepgoppgblfjbaaGreatDoor
open Go.RowKit

/-- Which of n things the raw number c speaks of. -/
def pickN (c : Int) (n : Nat) : Nat := if c < 0 then (-(c + 1)).toNat % n else c.toNat % n

theorem pickN_lt (c : Int) (n : Nat) (h : 0 < n) : pickN c n < n := by
  unfold pickN; split <;> exact Nat.mod_lt _ h

theorem ret_int {k : IntKind} {a b : Int} (h : a = b) : Ending.returned (.int k a) = .returned (.int k b) := by rw [h]

theorem toNat_mod (x : Int) (n : Nat) (h : 0 ≤ x) : ((x.toNat % n : Nat) : Int) = x % (n : Int) := by
  obtain ⟨k, rfl⟩ := Int.eq_ofNat_of_zero_le h
  rw [Int.toNat_natCast]; rfl

set_option maxHeartbeats 400000 in
theorem pick_any (c : Int) (n : Nat) (w : World) (h1 : 0 < n) (h2 : n ≤ 8000) (hc1 : -9223372036854775808 ≤ c) (hc2 : c ≤ 9223372036854775807) :
    Calls Tryz.prog 19 #[.int .i64 c, .int .i64 (n : Int)] w fun e w' => e = .returned (.int .i64 (pickN c n : Nat)) ∧ w' = w := by
  by_cases h : c < 0
  · have HE : Hid ((pickN c n : Int) = -(c + 1).tmod (n : Int)) := by
      show _ = _
      unfold pickN
      rw [if_pos h, toNat_mod _ _ (by omega), ← Int.tmod_eq_emod_of_nonneg (by omega), Int.neg_tmod]
    have hn : ¬ (n : Int) = 0 := by omega
    go_enter Tryz.func19, Tryz.ntmps19
    go_wp2
    go_ret
    exact ⟨ret_int HE.out.symm, rfl⟩
  · have HE : Hid ((pickN c n : Int) = c % (n : Int)) := by
      show _ = _
      unfold pickN; rw [if_neg h, toNat_mod _ _ (by omega)]
    have hn : ¬ (n : Int) = 0 := by omega
    go_enter Tryz.func19, Tryz.ntmps19
    go_wp2
    go_ret
    exact ⟨ret_int HE.out.symm, rfl⟩

theorem app_str (a b : List UInt8) : (⟨a.toArray⟩ : ByteArray) ++ ⟨b.toArray⟩ = ⟨(a ++ b).toArray⟩ := by
  have h : ((⟨a.toArray⟩ : ByteArray) ++ ⟨b.toArray⟩).data = (a ++ b).toArray := by
    rw [ByteArray.data_append]; simp
  exact congrArg ByteArray.mk h

theorem conv_one (w : World) (x : Int) (u : UInt8) (h : (u.toNat : Int) = x) :
    (convert 58 9 (.slice (some ⟨w.heap.size, 0, none⟩) 1 1)).run Tryz.prog (w.alloc (.cells #[.int .u8 x] 5)) = .ok (.string ⟨#[u]⟩) (w.alloc (.cells #[.int .u8 x] 5)) := by
  subst h
  have h := run_convert_bytes_back (P := Tryz.prog) (w.alloc (.cells #[.int .u8 (u.toNat : Int)] 5)) 58 9 5 ⟨w.heap.size, 0, none⟩ 1 [u] Tryz.underlying58 Tryz.underlying5 Tryz.underlying9 (by
    intro j hj
    have hj0 : j = 0 := by simpa using hj
    subst hj0
    exact cells_new w [_] 5 0 _ rfl)
  exact h

set_option maxHeartbeats 400000 in
set_option maxRecDepth 100000 in
/-- A number below 10. -/
theorem digits_one (a : Int) (w : World) (h0 : 0 ≤ a) (h : a < 10) :
    Calls Tryz.prog 23 #[.int .i64 a] w fun e w' => e = .returned (.string ⟨(Pu.dig a.toNat).toArray⟩) ∧ ∀ X, Kx X w w' := by
  have hu : ((UInt8.ofNat (48 + a.toNat)).toNat : Int) = 48 + a % 10 := by
    rw [UInt8.toNat_ofNat']; omega
  have hcv := conv_one w (48 + a % 10) (UInt8.ofNat (48 + a.toNat)) hu
  have HE : Hid (Pu.dig a.toNat = [UInt8.ofNat (48 + a.toNat)]) := by show _ = _; unfold Pu.dig; rw [if_pos (by omega)]
  clear hu
  generalize UInt8.ofNat (48 + a.toNat) = u at *
  go_enter Tryz.func23, Tryz.ntmps23
  go_wp2
  go_ret
  exact ⟨by rw [HE.out]; rfl, fun X => (Kx.refl X w).alloc _⟩

set_option maxHeartbeats 400000 in
set_option maxRecDepth 100000 in
/-- A number below 100. -/
theorem digits_any (a : Int) (w : World) (h0 : 0 ≤ a) (h : a < 100) :
    Calls Tryz.prog 23 #[.int .i64 a] w fun e w' => e = .returned (.string ⟨(Pu.dig a.toNat).toArray⟩) ∧ ∀ X, Kx X w w' := by
  by_cases h10 : a < 10
  · exact digits_one a w h0 h10
  have hu : ((UInt8.ofNat (48 + a.toNat % 10)).toNat : Int) = 48 + a % 10 := by
    rw [UInt8.toNat_ofNat']; omega
  have hcv := conv_one w (48 + a % 10) (UInt8.ofNat (48 + a.toNat % 10)) hu
  have HE : Hid (Pu.dig a.toNat = [UInt8.ofNat (48 + a.toNat / 10), UInt8.ofNat (48 + a.toNat % 10)]) := by show _ = _; unfold Pu.dig; rw [if_neg (by omega)]
  have HD : Hid (Pu.dig (a / 10).toNat = [UInt8.ofNat (48 + a.toNat / 10)]) := by
    show _ = _
    unfold Pu.dig; rw [if_pos (by omega)]
    have : (a / 10).toNat = a.toNat / 10 := by omega
    rw [this]
  clear hu
  have happ := app_str
  generalize UInt8.ofNat (48 + a.toNat % 10) = u at *
  generalize UInt8.ofNat (48 + a.toNat / 10) = v at *
  go_enter Tryz.func23, Tryz.ntmps23
  go_wp2_with fail
  refine (digits_one (a / 10) _ (by omega) (by omega)).mono ?_
  rintro e w1 ⟨rfl, hk⟩
  rw [HD.out]
  go_wp2
  go_ret
  exact ⟨by rw [HE.out]; rfl, fun X => ((Kx.refl X w).alloc _).trans (hk X)⟩

end Go.Proofs.YtepgoppgblfjbaaGreatDoor
