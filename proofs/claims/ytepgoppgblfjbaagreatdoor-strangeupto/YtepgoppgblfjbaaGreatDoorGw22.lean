import Derived.Test.YtepgoppgblfjbaaGreatDoorGw21
namespace Go.Proofs.YtepgoppgblfjbaaGreatDoor
open Go.RowKit

theorem Rd.new (s : List UInt8) (m : Int) (w : World) (hz : 6 < w.heap.size) (hm : w.cell? ⟨1, 0, none⟩ = some (.int .i64 m)) (hs : s.length ≤ 8000) : Rd w.heap.size s false (w.alloc (.cells #[.string ⟨s.toArray⟩, .bool false] 144)) := by
  have h0 := lt_of_cell hm
  have hC := Cb.new #[.string ⟨s.toArray⟩, .bool false] 144 w
  refine ⟨hC.cell 0, hC.cell 1, hC.frozen 0, hC.frozen 1, hz, ⟨m, ?_⟩, hs⟩
  have hk := (Kx.refl (fun _ => False) w).alloc (.cells #[.string ⟨s.toArray⟩, .bool false] 144)
  rw [hk.cell (p := ⟨1, 0, none⟩) h0 id]; exact hm

theorem new_only {w w' : World} {o : Obj} (h : Kx (Only w.heap.size) (w.alloc o) w') : Kx (fun _ => False) w w' :=
  ((Kx.refl (fun _ => False) w).alloc o).trans' h (fun j hj e => by unfold Only at e; omega)

set_option maxHeartbeats 400000 in
theorem clone_any (s : List UInt8) (w : World) (hs : s.length ≤ 281474976710656) :
    Calls Tryz.prog 78 #[.string ⟨s.toArray⟩] w fun e w' => e = .returned (.string ⟨s.toArray⟩) ∧ Kx (fun _ => False) w w' := by
  go_enter Tryz.func78, Tryz.ntmps78
  go_wp2_with fail
  refine (Tryz.stringslite_Clone ⟨s.toArray⟩ _ (by simpa [ByteArray.size] using hs)).mono ?_
  rintro e w1 ⟨rfl, hb⟩
  go_wp2
  go_ret
  exact ⟨rfl, Kx.of_below hb⟩

set_option maxHeartbeats 800000 in
theorem read_any (s : List UInt8) (m : Int) (w : World) (hz : 6 < w.heap.size) (hm : w.cell? ⟨1, 0, none⟩ = some (.int .i64 m)) (hmax : s.length ≤ maxLen) :
    Calls Tryz.prog 49 #[.string ⟨s.toArray⟩] w fun e w' => (∃ a n c, e = .returned (.tuple #[.slice a n c, .int .i64 (Pu.check s).1, .int .i64 (Pu.check s).2]) ∧ ((Pu.check s).2 = 0 → CosAt w' w.heap.size (.slice a n c) (Pu.commands s))) ∧ Kx (fun _ => False) w w' := by
  unfold maxLen at hmax
  by_cases hl : 8000 < s.length
  · have HE : Hid (Pu.check s = (0, 2)) := by show _ = _; unfold Pu.check; rw [if_pos hl]
    have hl2 : (8000 : Int) < (s.length : Int) := by omega
    go_enter Tryz.func49, Tryz.ntmps49
    go_wp2
    go_ret3
    exact ⟨⟨none, 0, 0, by rw [HE.out]; rfl, fun h => by rw [HE.out] at h; cases h⟩, Kx.refl _ _⟩
  · have hs : s.length ≤ 8000 := by omega
    have hl2 : ¬ (8000 : Int) < (s.length : Int) := by omega
    have HE : Hid (Pu.check s = if (Pu.readAll s).2.2 then (((Pu.readAll s).1 : Int) + 1, 1)
        else if (Pu.readAll s).2.1 != [] then (((Pu.readAll s).1 : Int) + 2, 1)
        else if 60 < (Pu.readAll s).1 then (0, 2) else ((Pu.readAll s).1, 0)) := by show _ = _; unfold Pu.check; rw [if_neg hl]
    go_enter Tryz.func49, Tryz.ntmps49
    go_wp2_with fail
    refine (clone_any s _ (by omega)).mono ?_
    rintro e w0 ⟨rfl, hk0⟩
    have hz0 : 6 < w0.heap.size := Nat.lt_of_lt_of_le hz hk0.size
    have hm0 : w0.cell? ⟨1, 0, none⟩ = some (.int .i64 m) := by rw [hk0.cell (p := ⟨1, 0, none⟩) (lt_of_cell hm) id]; exact hm
    have hr0 := Rd.new s m w0 hz0 hm0 hs
    have hw0 := hk0.size
    go_wp2_with fail
    refine (readAll_any w0.heap.size s _ hr0).mono ?_
    rintro e w1 ⟨⟨av, cv, rfl, hcos⟩, hr, hn, hk⟩
    have hcos1 : CosAt w1 w.heap.size (.slice av (Pu.readAll s).1 cv) (Pu.commands s) := hcos.mono (by rw [World.size_alloc]; omega)
    generalize Pu.readAll s = R at *
    obtain ⟨n, s1, bad1⟩ := R
    have hbel : Kx (fun _ => False) w w1 := hk0.trans (new_only hk)
    obtain ⟨c0, c1, f0, f1, pos, ⟨m1, hm1⟩, short⟩ := hr
    have HC : Hid (CosAt w1 w.heap.size (.slice av n cv) (Pu.commands s)) := hcos1
    clear hk hr0 hcos hcos1
    cases bad1
    · by_cases h0 : s1 = []
      · subst h0
        by_cases h60 : 60 < n
        · have HE2 : Hid (Pu.check s = (0, 2)) := by show _ = _; rw [HE.out]; simp [h60]
          have h61 : (60 : Int) < (n : Int) := by omega
          clear HE
          go_wp2
          go_ret3
          exact ⟨⟨none, 0, 0, by rw [HE2.out]; rfl, fun h => by rw [HE2.out] at h; cases h⟩, hbel⟩
        · have HE2 : Hid (Pu.check s = ((n : Int), 0)) := by show _ = _; rw [HE.out]; simp [h60]
          have h61 : ¬ (60 : Int) < (n : Int) := by omega
          clear HE
          go_wp2
          go_ret3
          exact ⟨⟨av, n, cv, by rw [HE2.out]; rfl, fun _ => HC.out⟩, hbel⟩
      · have HE2 : Hid (Pu.check s = ((n : Int) + 2, 1)) := by show _ = _; rw [HE.out]; simp [h0]
        have hb : (s1 == []) = false := by simpa using h0
        have hb2 : s1.isEmpty = false := by simpa using h0
        clear HE
        go_wp2
        go_ret3
        exact ⟨⟨none, 0, 0, by rw [HE2.out]; rfl, fun h => by rw [HE2.out] at h; cases h⟩, hbel⟩
    · have HE2 : Hid (Pu.check s = ((n : Int) + 1, 1)) := by show _ = _; rw [HE.out]; simp
      clear HE
      go_wp2
      go_ret3
      exact ⟨⟨none, 0, 0, by rw [HE2.out]; rfl, fun h => by rw [HE2.out] at h; cases h⟩, hbel⟩

set_option maxHeartbeats 400000 in
theorem check_any (s : List UInt8) (m : Int) (w : World) (hz : 6 < w.heap.size) (hm : w.cell? ⟨1, 0, none⟩ = some (.int .i64 m)) (hmax : s.length ≤ maxLen) :
    Calls Tryz.prog 18 #[.string ⟨s.toArray⟩] w fun e w' => e = .returned (.tuple #[.int .i64 (Pu.check s).1, .int .i64 (Pu.check s).2]) ∧ Kx (fun _ => False) w w' := by
  go_enter Tryz.func18, Tryz.ntmps18
  go_wp2_with fail
  refine (read_any s m _ hz hm hmax).mono ?_
  rintro e w1 ⟨⟨a, n, c, rfl, _⟩, hbel⟩
  go_wp2
  go_ret2
  exact ⟨rfl, hbel⟩

def Mx (m : Int) (w : World) : Prop := 6 < w.heap.size ∧ w.cell? ⟨1, 0, none⟩ = some (.int .i64 m)

theorem max_kept {w w' : World} {m : Int} (hm : Mx m w) (hk : ∀ X, Kx X w w') : Mx m w' := by
  refine ⟨Nat.lt_of_lt_of_le hm.1 (hk (fun _ => False)).size, ?_⟩
  rw [(hk (fun _ => False)).cell (p := ⟨1, 0, none⟩) (lt_of_cell hm.2) id]; exact hm.2

theorem Sto.move {M M' X : Nat → Prop} {w w' : World} {h o c r t n : Nat} {S : St} (hs : Sto M w h o c r t n S) (hM : ∀ k, k < w.heap.size → M' k → M k) (hsub : ∀ k, Fo o c r t k → M' k) (hk : Kx X w w') (hX : ∀ k, k < w.heap.size → X k → M' k) (hF : ∀ k, Fo o c r t k → ¬ X k)
    (hlow : ∀ k, M' k → 7 ≤ k ∧ k < w'.heap.size) : Sto M' w' h o c r t n S := by
  obtain ⟨f1, a1, b1⟩ := hs.com
  obtain ⟨f2, a2, b2⟩ := hs.ref
  obtain ⟨f3, a3, b3⟩ := hs.tag
  have ho : ¬ M' h := fun e => hs.outM (hM h hs.hi.lt e)
  exact ⟨hs.hi.kept hk (fun e => ho (hX h hs.hi.lt e)), hs.obj.kept hk (hF o (.inl rfl)), ⟨f1, a1.kept hk (hF c (.inr (.inl rfl))), (b1.mono hM).kept hk hX⟩, ⟨f2, a2.kept hk (hF r (.inr (.inr (.inl rfl)))), (b2.mono hM).kept hk hX⟩,
    ⟨f3, a3.kept hk (hF t (.inr (.inr (.inr rfl)))), (b3.mono hM).kept hk hX⟩, hsub, ho, hs.sep, hlow⟩

structure Str (M : Nat → Prop) (w : World) (s h o c r t n : Nat) (S : St) (j : List UInt8) (vj : Value) : Prop where
  sto : Sto M w h o c r t n S
  jr : Jr w s (some ⟨h, 0, none⟩) j vj
  inS : M s
  inV : ∀ k, vj.ownBlock = some k → M k

theorem own_ne_map {w : World} {base b n k : Nat} {e : TypeId} {v : Value} {xs : List Value} {f : List UInt8 → Option Value} (h : OwnB w base e v xs) (hm : MpS w b n f) (hk : v.ownBlock = some k) : k ≠ b := by
  intro e
  subst e
  obtain ⟨D, ⟨es, clock, hb, _⟩, _⟩ := hm
  rcases h with ⟨rfl, _⟩ | ⟨g, cap, cur, fz, rfl, _, hg, _⟩
  · cases hk
  · have : g = k := Option.some.inj hk
    subst this
    rw [hb] at hg
    cases hg

section
variable {M : Nat → Prop} {w : World} {s h o c r t n : Nat} {S : St} {j : List UInt8} {vj : Value}

theorem Str.s_fo (hs : Str M w s h o c r t n S j vj) : ¬ Fo o c r t s := fun e => by
  obtain ⟨f1, a1, _⟩ := hs.sto.com
  obtain ⟨f2, a2, _⟩ := hs.sto.ref
  obtain ⟨f3, a3, _⟩ := hs.sto.tag
  rcases e with e | e | e | e
  · exact map_ne hs.sto.obj hs.jr.blk e
  · exact map_ne a1 hs.jr.blk e
  · exact map_ne a2 hs.jr.blk e
  · exact map_ne a3 hs.jr.blk e

theorem Str.v_fo (hs : Str M w s h o c r t n S j vj) : ∀ k, vj.ownBlock = some k → ¬ Fo o c r t k := fun k hk e => by
  obtain ⟨f1, a1, _⟩ := hs.sto.com
  obtain ⟨f2, a2, _⟩ := hs.sto.ref
  obtain ⟨f3, a3, _⟩ := hs.sto.tag
  rcases e with e | e | e | e
  · exact own_ne_map hs.jr.own hs.sto.obj hk e
  · exact own_ne_map hs.jr.own a1 hk e
  · exact own_ne_map hs.jr.own a2 hk e
  · exact own_ne_map hs.jr.own a3 hk e

def StX (s o c r t : Nat) (vj : Value) : Nat → Prop := fun k => k = s ∨ Fo o c r t k ∨ vj.ownBlock = some k

theorem Str.inX (hs : Str M w s h o c r t n S j vj) : ∀ k, StX s o c r t vj k → M k := fun k e => by
  rcases e with rfl | e | e
  · exact hs.inS
  · exact hs.sto.inM k e
  · exact hs.inV k e

theorem Str.kept {X : Nat → Prop} {w' : World} (hs : Str M w s h o c r t n S j vj) (hk : Kx X w w') (hX : ∀ k, k < w.heap.size → X k → M k) (hF : ∀ k, StX s o c r t vj k → ¬ X k) : Str M w' s h o c r t n S j vj :=
  ⟨hs.sto.kept hk hX (fun k e => hF k (.inr (.inl e))), hs.jr.kept hk (hF s (.inl rfl)) (fun k e => hF k (.inr (.inr e))), hs.inS, hs.inV⟩
end

structure StrNew (M : Nat → Prop) (w w' : World) (s h o c r t : Nat) : Prop where
  str : Str (fun k => M k ∨ k = s ∨ Fo o c r t k) w' s h o c r t 0 St.empty [] (.slice none 0 0)
  kx : Kx (fun _ => False) w w'
  new : w.heap.size ≤ o ∧ o < c ∧ c < r ∧ r < t ∧ t < h ∧ h < s

set_option maxHeartbeats 800000 in
theorem new_any (M : Nat → Prop) (w : World) (hM : ∀ k, M k → 7 ≤ k ∧ k < w.heap.size) (h7 : 7 ≤ w.heap.size) : Calls Tryz.prog 21 #[] w fun e w' => ∃ s h o c r t, e = .returned (.pointer (some ⟨s, 0, none⟩)) ∧ StrNew M w w' s h o c r t := by
  go_enter Tryz.func21, Tryz.ntmps21
  go_wp2_with fail
  refine (hnew_any w).mono ?_
  rintro _ w1 ⟨h, o, c, r, t, rfl, hN⟩
  have k := (Kx.refl (fun _ => False) w1).alloc (.cells #[.pointer (some ⟨h, 0, none⟩), .slice none 0 0] 98)
  have hcb := Cb.new #[.pointer (some ⟨h, 0, none⟩), .slice none 0 0] 98 w1
  have hF : StrNew M w (w1.alloc (.cells #[.pointer (some ⟨h, 0, none⟩), .slice none 0 0] 98)) w1.heap.size h o c r t := by
    obtain ⟨n1, n2, n3, n4, n5⟩ := hN.new
    have hl := hN.hi.lt
    have hsz := hN.kx.size
    have hsa : (w1.alloc (.cells #[.pointer (some ⟨h, 0, none⟩), .slice none 0 0] 98)).heap.size = w1.heap.size + 1 := by simp
    refine ⟨⟨⟨hN.hi.kept k id, hN.fo.kept k id, ⟨none4, hN.fc.kept k id, fun k => ⟨fun _ => rfl, fun c e => by cases e⟩⟩, ⟨none4, hN.fr.kept k id, fun k => ⟨fun _ => rfl, fun c e => by cases e⟩⟩, ⟨none4, hN.ft.kept k id, fun k => ⟨fun _ => rfl, fun c e => by cases e⟩⟩, fun k e => .inr (.inr e), ?_, by omega, ?_⟩, ⟨hcb, .inl ⟨rfl, rfl⟩, by simp [Value.ownBlock], .inl rfl⟩, .inr (.inl rfl), fun k e => by cases e⟩, hN.kx.trans k, by omega⟩
    · intro e
      rcases e with e | e | e
      · have := (hM h e).2; omega
      · omega
      · unfold Fo at e; omega
    · intro k e
      rw [hsa]
      rcases e with e | e | e
      · have := hM k e; omega
      · omega
      · unfold Fo at e; omega
  clear k hcb
  go_wp2
  go_ret
  exact ⟨_, h, o, c, r, t, rfl, hF⟩

structure StrOk (x : List UInt8) : Prop where
  len : (Pu.check x).2 = 0 → x.length ≤ 8000
  few : (Pu.check x).2 = 0 → (Pu.commands x).length ≤ 60
  ok : (Pu.check x).2 = 0 → ∀ c ∈ Pu.commands x, CoOk c

theorem check_len (x : List UInt8) (h : (Pu.check x).2 = 0) : x.length ≤ 8000 := by
  unfold Pu.check at h
  split at h
  · cases h
  · omega

structure ImpR (M : Nat → Prop) (w w' : World) (s h o c r t n : Nat) (S : St) (j : List UInt8) (vj : Value) (x : List UInt8) (vj' : Value) : Prop where
  str : Str (fun k => M k ∨ vj'.ownBlock = some k) w' s h o c r t (n + 800000) (Pd.imp Sh.K S x).2 (if (Pd.imp Sh.K S x).1.2 = 0 then Pd.record Sh.K j x else j) vj'
  row : ∀ k, vj'.ownBlock = some k → vj.ownBlock = some k ∨ w.heap.size ≤ k
  kx : Kx (StX s o c r t vj) w w'

set_option maxHeartbeats 1600000 in
set_option maxRecDepth 100000 in
theorem import_any {M : Nat → Prop} {w : World} {s h o c r t n : Nat} {S : St} {j : List UInt8} {vj : Value} (hs : Str M w s h o c r t n S j vj) (hgl : Gl w) (x : List UInt8) (hx : StrOk x) (hxl : x.length ≤ maxLen) (hjl : j.length ≤ 1000000000) (hn : n + 800000 ≤ maxLen) :
    Calls Tryz.prog 24 #[.pointer (some ⟨s, 0, none⟩), .string ⟨x.toArray⟩] w fun e w' => e = .returned (.tuple #[.int .i64 (Pd.imp Sh.K S x).1.1, .int .i64 (Pd.imp Sh.K S x).1.2]) ∧ ∃ vj', ImpR M w w' s h o c r t n S j vj x vj' := by
  obtain ⟨m, hm⟩ := hgl.max
  have h7 : 6 < w.heap.size := by
    have := hs.sto.lowM s hs.inS
    omega
  have hread := read_any x m w h7 hm hxl
  have hM' : ∀ k, (M k ∨ vj.ownBlock = some k) ↔ M k := fun k => ⟨fun e => e.elim id (hs.inV k), .inl⟩
  have hMe : (fun k => M k ∨ vj.ownBlock = some k) = M := funext fun k => propext (hM' k)
  by_cases hck : (Pu.check x).2 = 0
  · have hI : Pd.imp Sh.K S x = if (Pd.all Sh.K ⟨S, fun _ => none⟩ (Pu.commands x) 0).1.2 = 0 then ((Pd.all Sh.K ⟨S, fun _ => none⟩ (Pu.commands x) 0).1, (Pd.all Sh.K ⟨S, fun _ => none⟩ (Pu.commands x) 0).2.st) else ((Pd.all Sh.K ⟨S, fun _ => none⟩ (Pu.commands x) 0).1, S) := if_pos hck
    have hfew := hx.few hck
    have hok := hx.ok hck
    have hlen := hx.len hck
    have HC : Hid (∀ lo (W : World) (av : Option Addr) (cv : Nat), Sto M W h o c r t n S → Gl W → CosAt W lo (.slice av (Pu.commands x).length cv) (Pu.commands x) → _) := fun lo W av cv hS hG hv => do_any hS hG (Pu.commands x) hfew hok lo av cv hv hn
    obtain ⟨RR, hRR⟩ : ∃ RR, Pd.all Sh.K ⟨S, fun _ => none⟩ (Pu.commands x) 0 = RR := ⟨_, rfl⟩
    obtain ⟨II, hII⟩ : ∃ II, Pd.imp Sh.K S x = II := ⟨_, rfl⟩
    rw [hRR] at hI
    rw [hII] at hI ⊢
    have hdoAll : ∀ lo (W : World) (av : Option Addr) (cv : Nat), Sto M W h o c r t n S → Gl W → CosAt W lo (.slice av (Pu.commands x).length cv) (Pu.commands x) →
        Calls Tryz.prog 51 #[.pointer (some ⟨h, 0, none⟩), .slice av (Pu.commands x).length cv] W fun e w' => e = .returned (.tuple #[.int .i64 RR.1.1, .int .i64 RR.1.2]) ∧ (RR.1.2 = 0 → Sto M w' h o c r t (n + 800000) RR.2.st) ∧ (¬ RR.1.2 = 0 → Kx (fun _ => False) W w') ∧ Kx (Fo o c r t) W w' := by
      intro lo W av cv hS hG hv
      have := HC.out lo W av cv hS hG hv
      rw [hRR] at this
      exact this
    clear HC
    obtain ⟨⟨r1, r2⟩, RW⟩ := RR
    simp only at hI hdoAll
    generalize hcmd : Pu.commands x = cmds at *
    have HII : Hid (Pd.imp Sh.K S x = II) := hII
    have HI : Hid (II = if r2 = 0 then ((r1, r2), RW.st) else ((r1, r2), S)) := hI
    clear hRR hII hI hcmd hok
    obtain ⟨cn, hcn⟩ : ∃ cn, (Pu.check x).1 = cn := ⟨_, rfl⟩
    rw [hck, hcn] at hread
    clear hcn
    go_enter Tryz.func24, Tryz.ntmps24
    go_wp2_with fail
    refine hread.mono ?_
    rintro _ w2 ⟨⟨a, nn, cc, rfl, hcos⟩, hk2⟩
    have hcos2 := hcos trivial
    have hcos3 := hcos2
    obtain ⟨q, c', he, _⟩ := hcos3
    cases he
    have hs2 := hs.kept hk2 (fun _ _ h => h.elim) (fun _ _ => id)
    have hgl2 := hgl.kept hk2 (fun _ _ => id)
    have c0 : w2.cell? ⟨s, 0, none⟩ = some (.pointer (some ⟨h, 0, none⟩)) := Cb.cell hs2.jr.blk 0
    have hdo := hdoAll w.heap.size w2 a cc hs2.sto hgl2 hcos2
    clear hread hcos hcos2 hdoAll hm
    go_wp2_with fail
    refine hdo.mono ?_
    rintro _ w3 ⟨rfl, hS3, hN3, hk3⟩
    clear hdo c0
    have hjr3 := hs2.jr.kept hk3 hs2.s_fo hs2.v_fo
    have hgl3 := hgl2.kept hk3 (fun k hk e => by have := hs.sto.lowM k (hs.sto.inM k e); omega)
    have hk03 : Kx (Fo o c r t) w w3 := (hk2.mono (fun _ _ h => h.elim)).trans hk3
    by_cases hE : r2 = 0
    · subst hE
      have HI2 : Hid (II = ((r1, 0), RW.st)) := by
        have := HI.out
        rw [if_pos rfl] at this
        exact this
      have hS4 := hS3 rfl
      have h73 := hk03.size
      have hadd := jadd_any s (some ⟨h, 0, none⟩) j x vj w3 hjr3 hgl3 hlen hjl (by omega)
      clear HI hS3 hN3
      go_wp2_with fail
      refine hadd.mono ?_
      rintro _ w4 ⟨rfl, vj', hJ4, hrow, hk4⟩
      have hFin : ImpR M w w4 s h o c r t n S j vj x vj' := by
        have hrow' : ∀ k, vj'.ownBlock = some k → vj.ownBlock = some k ∨ w.heap.size ≤ k := fun k e => (hrow k e).imp id (fun h => Nat.le_trans h73 h)
        refine ⟨?_, hrow', (hk03.mono (fun _ _ e => .inr (.inl e))).trans (hk4.mono (fun k _ e => e.elim .inl (fun e => .inr (.inr e))))⟩
        rw [HII.out, HI2.out]
        simp only [if_true]
        refine ⟨hS4.move ?_ (fun k e => .inl (hs.sto.inM k e)) hk4 ?_ ?_ ?_, hJ4, .inl hs.inS, fun k e => .inr e⟩
        · intro k hk e
          rcases e with e | e
          · exact e
          · rcases hrow k e with e | e
            · exact hs.inV k e
            · omega
        · intro k _ e
          rcases e with rfl | e
          · exact .inl hs.inS
          · exact .inl (hs.inV k e)
        · intro k e e2
          rcases e2 with rfl | e2
          · exact hs.s_fo e
          · exact hs.v_fo k e2 e
        · intro k e
          have h4s := hk4.size
          rcases e with e | e
          · have := hs.sto.lowM k e
            omega
          · exact hJ4.own.lt k e
      clear hadd hJ4 hrow hk4 hS4 hjr3
      go_wp2
      go_ret2
      rw [HI2.out]
      exact ⟨rfl, vj', hFin⟩
    · have HI2 : Hid (II = ((r1, r2), S)) := by
        have := HI.out
        rw [if_neg hE] at this
        exact this
      have hk3' := hN3 hE
      have hk0 := hk2.trans hk3'
      have hFin : ImpR M w w3 s h o c r t n S j vj x vj := by
        refine ⟨?_, fun k e => .inl e, hk0.mono (fun _ _ h => h.elim)⟩
        rw [HII.out, HI2.out, hMe]
        simp only [hE, if_false]
        have hs3 := hs.kept hk0 (fun _ _ h => h.elim) (fun _ _ => id)
        exact ⟨hs3.sto.more (by omega), hs3.jr, hs3.inS, hs3.inV⟩
      clear HI hS3 hN3
      go_wp2
      go_ret2
      rw [HI2.out]
      exact ⟨rfl, vj, hFin⟩
  · have hI : Pd.imp Sh.K S x = (Pu.check x, S) := if_neg hck
    obtain ⟨⟨r1, r2⟩, hr⟩ : ∃ rr, Pu.check x = rr := ⟨_, rfl⟩
    rw [hr] at hread hck hI
    simp only at hread hck
    have HI : Hid (Pd.imp Sh.K S x = ((r1, r2), S)) := hI
    rw [hI]
    clear hI hr
    go_enter Tryz.func24, Tryz.ntmps24
    go_wp2_with fail
    refine hread.mono ?_
    rintro _ w2 ⟨⟨a, nn, cc, rfl, _⟩, hk2⟩
    have hFin : ImpR M w w2 s h o c r t n S j vj x vj := by
      refine ⟨?_, fun k e => .inl e, hk2.mono (fun _ _ h => h.elim)⟩
      rw [HI.out, hMe]
      simp only [hck, if_false]
      have hs3 := hs.kept hk2 (fun _ _ h => h.elim) (fun _ _ => id)
      exact ⟨hs3.sto.more (by omega), hs3.jr, hs3.inS, hs3.inV⟩
    clear hread
    go_wp2
    go_ret2
    exact ⟨rfl, vj, hFin⟩

end Go.Proofs.YtepgoppgblfjbaaGreatDoor
namespace Go.Proofs.YtepgoppgblfjbaaGreatDoor

namespace Pu

theorem z999 : (0 : Int) ≤ 0 ∧ (0 : Int) ≤ 999 := by decide
theorem zTime : (0 : Int) ≤ 0 ∧ (0 : Int) ≤ 9999999999 := by decide

theorem need_fine {ok : Bool} {s : List UInt8} {bad : Bool} (h : (need ok s bad).2 = false) : ok = true ∧ bad = false ∧ need ok s bad = (s, bad) := by
  cases ok with
  | false => simp [need] at h
  | true => exact ⟨rfl, by simpa [need] using h, rfl⟩

theorem number_le (t : List UInt8) (lo hi : Int) (hl : 0 ≤ lo) (hh : lo ≤ hi) : 0 ≤ (number t lo hi).1 ∧ (number t lo hi).1 ≤ hi := by
  unfold number
  split
  · constructor <;> simp <;> omega
  · split
    · constructor <;> simp <;> omega
    · constructor <;> simp <;> omega
theorem mark_le (t : List UInt8) : 0 ≤ (mark t).1 ∧ (mark t).1 ≤ 999 := by
  unfold mark
  split
  · exact number_le _ 1 999 (by decide) (by decide)
  · decide
theorem madeOf_len {t set : List UInt8} {most : Int} (h : madeOf t set most = true) : (t.length : Int) ≤ most := by
  unfold madeOf at h
  simp only [Bool.and_eq_true, decide_eq_true_eq] at h
  exact h.1.2
theorem isRef_len {t : List UInt8} (h : isRef t = true) : t.length ≤ 20 := by
  unfold isRef at h
  simp only [Bool.and_eq_true] at h
  have := madeOf_len h.1.1
  omega
theorem isName_len {t : List UInt8} (h : isName t = true) : t.length ≤ 20 := by
  unfold isName at h
  simp only [Bool.and_eq_true] at h
  have := madeOf_len h.1
  omega
theorem isMail_len {t : List UInt8} (h : isMail t = true) : t.length ≤ 20 := by
  unfold isMail at h
  have := madeOf_len h
  omega
theorem isPath_len {t : List UInt8} (h : isPath t = true) : t.length ≤ 60 := by
  unfold isPath at h
  simp only [Bool.and_eq_true, decide_eq_true_eq] at h
  exact h.1.1
theorem data_len (s : List UInt8) (bad : Bool) : (data s bad).1.length ≤ 200 := by
  unfold data bytes
  have := number_le (after sData s bad).1 0 200 (by decide) (by decide)
  split
  · show (List.take _ _).length ≤ 200
    rw [List.length_take]
    omega
  · exact Nat.zero_le _

theorem which_fine {hd s : List UInt8} {bad : Bool} (h : (which hd s bad).2 = false) : WhOk (whichV hd s bad) ∧ bad = false := by
  have hb : bad = false := by
    cases bad with
    | false => rfl
    | true => rw [which_bad] at h; cases h
  refine ⟨?_, hb⟩
  have hm := mark_le (after hd s bad).1
  unfold which at h
  unfold whichV
  split
  · exact ⟨hm, Nat.zero_le _⟩
  · rename_i hn
    rw [if_neg hn] at h
    have := isRef_len (need_fine h).1
    exact ⟨z999, Nat.le_trans this (by decide)⟩

theorem fromOr_fine {s : List UInt8} {bad : Bool} (h : (fromOr s bad).2 = false) : WhOk (fromOrV s bad) ∧ bad = false := by
  unfold fromOr at h
  unfold fromOrV
  split
  · rename_i hp
    rw [if_pos hp] at h
    exact which_fine h
  · rename_i hp
    rw [if_neg hp] at h
    exact ⟨⟨by decide, Nat.zero_le _⟩, h⟩

theorem mergesF_fine : ∀ (f : Nat) (s : List UInt8) (bad : Bool) (n : Nat), (mergesF f s bad n).2.2 = false → (∀ x ∈ mergesV f s bad, WhOk x) ∧ bad = false := by
  intro f
  induction f with
  | zero => intro s bad n h; exact ⟨fun x hx => by simp [mergesV] at hx, h⟩
  | succ f ih =>
    intro s bad n h
    unfold mergesF at h
    unfold mergesV
    split
    · rename_i hp
      rw [if_pos hp] at h
      obtain ⟨h1, h2⟩ := ih _ _ _ h
      obtain ⟨h3, h4⟩ := which_fine h2
      refine ⟨fun x hx => ?_, h4⟩
      rcases List.mem_cons.1 hx with rfl | hx
      · exact h3
      · exact h1 x hx
    · rename_i hp
      rw [if_neg hp] at h
      exact ⟨fun x hx => by simp at hx, h⟩

theorem merges_fine {s : List UInt8} {bad : Bool} (h : (merges s bad).2 = false) : bad = false ∧ (mergesV s.length s bad).length ≤ 3 ∧ ∀ x ∈ mergesV s.length s bad, WhOk x := by
  unfold merges at h
  obtain ⟨h1, h2, _⟩ := need_fine h
  obtain ⟨h3, h4⟩ := mergesF_fine _ _ _ _ h2
  have := mergesF_len s.length s bad 0
  have := of_decide_eq_true h1
  exact ⟨h4, by omega, h3⟩

theorem contentV_le (f s : List UInt8) (bad : Bool) : (0 ≤ (contentV f s bad).1 ∧ (contentV f s bad).1 ≤ 999) ∧ (contentV f s bad).2.length ≤ 200 := by
  unfold contentV
  split
  · exact ⟨z999, data_len _ _⟩
  · exact ⟨mark_le _, Nat.zero_le _⟩

theorem plain_chOk (f0 : List UInt8) : ChOk ⟨f0, [], 0, [], [], []⟩ := ⟨z999, Nat.zero_le _, Nat.zero_le _, Nat.zero_le _, Nat.zero_le _⟩

theorem changeM_fine {f1 f2 f3 s : List UInt8} {bad : Bool} (h : (changeM f1 f2 f3 s bad).2 = false) : ChOk (changeMV f1 f2 f3 s bad) := by
  unfold changeM at h
  have h1 : (need (isPath f3) (need (f1 == s644 || f1 == s755) s bad).1 (need (f1 == s644 || f1 == s755) s bad).2).2 = false := by
    cases hb : (need (isPath f3) (need (f1 == s644 || f1 == s755) s bad).1 (need (f1 == s644 || f1 == s755) s bad).2).2 with
    | false => rfl
    | true => rw [hb, content_bad] at h; cases h
  obtain ⟨h2, h3, _⟩ := need_fine h1
  obtain ⟨h4, _, _⟩ := need_fine h3
  have h5 := isPath_len h2
  have h6 : f1.length ≤ 20 := by
    simp only [Bool.or_eq_true, beq_iff_eq] at h4
    rcases h4 with rfl | rfl <;> decide
  unfold changeMV
  obtain ⟨c1, c2⟩ := contentV_le f2 (need (isPath f3) (need (f1 == s644 || f1 == s755) s bad).1 (need (f1 == s644 || f1 == s755) s bad).2).1 (need (isPath f3) (need (f1 == s644 || f1 == s755) s bad).1 (need (f1 == s644 || f1 == s755) s bad).2).2
  exact ⟨c1, h6, Nat.le_trans c2 (by decide), h5, Nat.zero_le _⟩

theorem change_fine {l s : List UInt8} {bad : Bool} (h : (change l s bad).2 = false) : ChOk (changeV l s bad) ∧ bad = false := by
  have hb : bad = false := by
    cases bad with
    | false => rfl
    | true => rw [change_bad] at h; cases h
  refine ⟨?_, hb⟩
  unfold change at h
  unfold changeV
  split
  · rename_i f0 f1 f2 f3 he
    simp only [he] at h
    split
    · rename_i hc
      rw [if_pos hc] at h
      exact changeM_fine h
    · exact plain_chOk _
  · rename_i f0 f1 he
    simp only [he] at h
    split
    · rename_i hc
      rw [if_pos hc] at h
      exact ⟨z999, Nat.zero_le _, Nat.zero_le _, isPath_len (need_fine h).1, Nat.zero_le _⟩
    · exact plain_chOk _
  · rename_i f0 f1 f2 he
    simp only [he] at h
    split
    · rename_i hc
      rw [if_pos hc] at h
      obtain ⟨h1, h2, _⟩ := need_fine h
      exact ⟨z999, Nat.zero_le _, Nat.zero_le _, isPath_len (need_fine h2).1, isPath_len h1⟩
    · exact plain_chOk _
  · exact plain_chOk _
  · exact plain_chOk _

theorem changesF_fine : ∀ (f : Nat) (l s : List UInt8) (bad : Bool) (n : Nat), (changesF f l s bad n).2.2 = false → (∀ x ∈ changesV f l s bad, ChOk x) ∧ bad = false := by
  intro f
  induction f with
  | zero => intro l s bad n h; exact ⟨fun x hx => by simp [changesV] at hx, h⟩
  | succ f ih =>
    intro l s bad n h
    unfold changesF at h
    unfold changesV
    split
    · rename_i hp
      rw [if_pos hp] at h
      exact ⟨fun x hx => by simp at hx, h⟩
    · rename_i hp
      rw [if_neg hp] at h
      obtain ⟨h1, h2⟩ := ih _ _ _ _ h
      have h2' : (change l s bad).2 = false := by
        cases hb : (change l s bad).2 with
        | false => rfl
        | true => rw [hb, line_bad] at h2; cases h2
      obtain ⟨h3, h4⟩ := change_fine h2'
      refine ⟨fun x hx => ?_, h4⟩
      rcases List.mem_cons.1 hx with rfl | hx
      · exact h3
      · exact h1 x hx

theorem changes_fine {s : List UInt8} {bad : Bool} (h : (changes s bad).2 = false) : bad = false ∧ (changesAll s bad).length ≤ 30 ∧ ∀ x ∈ changesAll s bad, ChOk x := by
  unfold changes at h
  obtain ⟨h1, h2, _⟩ := need_fine h
  obtain ⟨h3, h4⟩ := changesF_fine _ _ _ _ _ h2
  have e := changesF_len (s.length + 2) (line s bad).1 (line s bad).2.1 (line s bad).2.2 0
  have h5 := of_decide_eq_true h1
  refine ⟨?_, ?_, h3⟩
  · cases bad with
    | false => rfl
    | true => rw [line_bad] at h4; cases h4
  · unfold changesAll
    omega

theorem data_fine {s : List UInt8} {bad : Bool} (h : (data s bad).2.2 = false) : bad = false := by
  cases bad with
  | false => rfl
  | true => rw [data_bad] at h; cases h
theorem rmark_fine {s : List UInt8} {bad : Bool} (h : (rmark s bad).2.2 = false) : bad = false := by
  cases bad with
  | false => rfl
  | true => rw [rmark_bad] at h; cases h
theorem ref_fine {hd s : List UInt8} {bad : Bool} (h : (ref hd s bad).2.2 = false) : (ref hd s bad).1.length ≤ 20 := by
  unfold ref at h
  exact isRef_len (need_fine h).1
theorem author_fine {s : List UInt8} {bad : Bool} (h : (author s bad).2 = false) : bad = false ∧ (authorV s bad).name.length ≤ 20 ∧ (authorV s bad).mail.length ≤ 20 := by
  have hb : bad = false := by
    cases bad with
    | false => rfl
    | true => rw [author_bad] at h; cases h
  unfold author at h
  have h1 := (need_fine h).1
  unfold isAuthor at h1
  simp only [Bool.and_eq_true] at h1
  exact ⟨hb, isName_len h1.1.2, isMail_len h1.2⟩
theorem author_time (s : List UInt8) (bad : Bool) : 0 ≤ (authorV s bad).time ∧ (authorV s bad).time ≤ 9999999999 := number_le _ 0 9999999999 (by decide) (by decide)

theorem none_whOk : WhOk ⟨0, []⟩ := ⟨by decide, Nat.zero_le _⟩

theorem rmark_999 (s : List UInt8) (bad : Bool) : 0 ≤ (rmark s bad).1 ∧ (rmark s bad).1 ≤ 999 := mark_le _

theorem rcV_eq (s : List UInt8) (bad : Bool) : readCommitV s bad (Co.of sCommit) = ⟨sCommit, (ref sCommit1 s bad).1, (rmark (rc1 s bad).1 (rc1 s bad).2).1, authorV (rc2 s bad).1 (rc2 s bad).2, (data (rc3 s bad).1 (rc3 s bad).2).1,
    fromOrV (rc4 s bad).1 (rc4 s bad).2, mergesV (rc5 s bad).1.length (rc5 s bad).1 (rc5 s bad).2, changesAll (rc6 s bad).1 (rc6 s bad).2⟩ := by
  unfold readCommitV Co.of
  with_reducible rfl

theorem co_ok8 {w r d : List UInt8} {m : Int} {a : Au} {f : Wh} {ms : List Wh} {cs : List Ch} (h1 : 0 ≤ m ∧ m ≤ 999) (h2 : r.length ≤ 20) (h3 : a.name.length ≤ 20) (h4 : a.mail.length ≤ 20) (h5 : 0 ≤ a.time ∧ a.time ≤ 9999999999)
    (h6 : d.length ≤ 200) (h7 : WhOk f) (h8 : ms.length ≤ 3) (h9 : ∀ x ∈ ms, WhOk x) (h10 : cs.length ≤ 30) (h11 : ∀ x ∈ cs, ChOk x) : CoOk ⟨w, r, m, a, d, f, ms, cs⟩ :=
  ⟨h1, Nat.le_trans h2 (by decide), Nat.le_trans h3 (by decide), Nat.le_trans h4 (by decide), h5, Nat.le_trans h6 (by decide), h7, ⟨h8, h9⟩, ⟨h10, h11⟩⟩

theorem co_commit {s : List UInt8} {bad : Bool} (r1 : (ref sCommit1 s bad).1.length ≤ 20) (n1 : (authorV (rc2 s bad).1 (rc2 s bad).2).name.length ≤ 20) (n2 : (authorV (rc2 s bad).1 (rc2 s bad).2).mail.length ≤ 20)
    (d1 : (data (rc3 s bad).1 (rc3 s bad).2).1.length ≤ 200) (f1 : WhOk (fromOrV (rc4 s bad).1 (rc4 s bad).2)) (m1 : (mergesV (rc5 s bad).1.length (rc5 s bad).1 (rc5 s bad).2).length ≤ 3) (m2 : ∀ x ∈ mergesV (rc5 s bad).1.length (rc5 s bad).1 (rc5 s bad).2, WhOk x)
    (c1 : (changesAll (rc6 s bad).1 (rc6 s bad).2).length ≤ 30) (c2 : ∀ x ∈ changesAll (rc6 s bad).1 (rc6 s bad).2, ChOk x) : CoOk (readCommitV s bad (Co.of sCommit)) := by
  rw [rcV_eq]
  exact co_ok8 (rmark_999 _ _) r1 n1 n2 (author_time _ _) d1 f1 m1 m2 c1 c2

set_option maxHeartbeats 1000000 in
theorem readOne_fine {s : List UInt8} {bad : Bool} (h : (readOne s bad).2 = false) : CoOk (readOneV s bad) := by
  unfold readOne at h
  unfold readOneV
  split
  · have := data_len (rmark (exactly sBlob s bad).1 (exactly sBlob s bad).2).2.1 (rmark (exactly sBlob s bad).1 (exactly sBlob s bad).2).2.2
    exact ⟨rmark_999 (exactly sBlob s bad).1 (exactly sBlob s bad).2, Nat.zero_le _, Nat.zero_le _, Nat.zero_le _, zTime, Nat.le_trans this (by decide), none_whOk, ⟨Nat.zero_le _, fun x hx => by cases hx⟩, ⟨Nat.zero_le _, fun x hx => by cases hx⟩⟩
  · rename_i h1
    rw [if_neg h1] at h
    split
    · rename_i h2
      rw [if_pos h2, readCommit_rc] at h
      obtain ⟨b6, c1, c2⟩ := changes_fine h
      have e6 : (merges (rc5 s bad).1 (rc5 s bad).2).2 = false := by unfold rc6 at b6; exact b6
      obtain ⟨b5, m1, m2⟩ := merges_fine e6
      have e5 : (fromOr (rc4 s bad).1 (rc4 s bad).2).2 = false := by unfold rc5 at b5; exact b5
      obtain ⟨f1, b4⟩ := fromOr_fine e5
      have e4 : (data (rc3 s bad).1 (rc3 s bad).2).2.2 = false := by unfold rc4 at b4; exact b4
      have b3 := data_fine e4
      have e3 : (author (rc2 s bad).1 (rc2 s bad).2).2 = false := by unfold rc3 at b3; exact b3
      obtain ⟨b2, n1, n2⟩ := author_fine e3
      have e2 : (rmark (rc1 s bad).1 (rc1 s bad).2).2.2 = false := by unfold rc2 at b2; exact b2
      have b1 := rmark_fine e2
      have e1 : (ref sCommit1 s bad).2.2 = false := by unfold rc1 at b1; exact b1
      have r1 := ref_fine e1
      have d1 := data_len (rc3 s bad).1 (rc3 s bad).2
      exact co_commit r1 n1 n2 d1 f1 m1 m2 c1 c2
    · rename_i h2
      rw [if_neg h2] at h
      split
      · rename_i h3
        rw [if_pos h3] at h
        unfold readTag at h
        have b2 := data_fine h
        obtain ⟨f1, b1⟩ := which_fine b2
        have r1 := ref_fine b1
        have d1 := data_len (which sFrom (ref sTag1 s bad).2.1 (ref sTag1 s bad).2.2).1 (which sFrom (ref sTag1 s bad).2.1 (ref sTag1 s bad).2.2).2
        exact ⟨z999, Nat.le_trans r1 (by decide), Nat.zero_le _, Nat.zero_le _, zTime, Nat.le_trans d1 (by decide), f1, ⟨Nat.zero_le _, fun x hx => by cases hx⟩, ⟨Nat.zero_le _, fun x hx => by cases hx⟩⟩
      · rename_i h3
        rw [if_neg h3] at h
        split
        · rename_i h4
          rw [if_pos h4] at h
          unfold readReset at h
          have b2 : (fromOr (ref sReset1 s bad).2.1 (ref sReset1 s bad).2.2).2 = false := by
            cases hb : (fromOr (ref sReset1 s bad).2.1 (ref sReset1 s bad).2.2).2 with
            | false => rfl
            | true => rw [hb, exactly_bad] at h; cases h
          obtain ⟨f1, b1⟩ := fromOr_fine b2
          have r1 := ref_fine b1
          exact ⟨z999, Nat.le_trans r1 (by decide), Nat.zero_le _, Nat.zero_le _, zTime, Nat.zero_le _, f1, ⟨Nat.zero_le _, fun x hx => by cases hx⟩, ⟨Nat.zero_le _, fun x hx => by cases hx⟩⟩
        · rename_i h4
          rw [if_neg h4] at h
          cases h

theorem readAllV_fine : ∀ (f : Nat) (s : List UInt8) (bad : Bool), ∀ c ∈ readAllV f s bad, CoOk c := by
  intro f
  induction f with
  | zero => intro s bad c hc; simp [readAllV] at hc
  | succ f ih =>
    intro s bad c hc
    unfold readAllV at hc
    split at hc
    · simp at hc
    · split at hc
      · simp at hc
      · rename_i h1 h2
        rcases List.mem_cons.1 hc with rfl | hc
        · exact readOne_fine (by simpa using h2)
        · exact ih _ _ _ hc

end Pu

theorem strOk_any (x : List UInt8) : StrOk x := by
  refine ⟨fun h => check_len x h, fun h => ?_, fun _ => Pu.readAllV_fine _ _ _⟩
  have e := Pu.readAllF_len (x.length + 1) x false 0
  have e2 : (Pu.readAll x).1 = (Pu.commands x).length := by
    unfold Pu.readAll Pu.commands
    omega
  unfold Pu.check at h
  rw [← e2]
  split at h
  · cases h
  · split at h
    · cases h
    · split at h
      · cases h
      · split at h
        · cases h
        · omega

def ObB (o : List UInt8 → Option (Nat × List UInt8)) : Prop := ∀ k, o k ≠ none → k.length ≤ 64
structure StB (S : St) : Prop where
  obj : ObB S.obj
  ref : ∀ k, S.ref k ≠ none → k.length ≤ 1000
  tag : ∀ k, S.tag k ≠ none → k.length ≤ 1000

theorem StB.empty : StB St.empty := ⟨fun _ h => absurd rfl h, fun _ h => absurd rfl h, fun _ h => absurd rfl h⟩

namespace Pd
theorem add_b {KK : List Int} {kind : Nat} {c : List UInt8} {o : List UInt8 → Option (Nat × List UInt8)} (h : ObB o) : ObB (add KK kind c o) := by
  intro k hk
  unfold add at hk
  by_cases e : k = Sh.idK KK kind c
  · rw [e, idK_len]; exact Nat.le_refl _
  · rw [upd_other _ _ _ _ e] at hk
    exact h k hk

mutual
theorem addTr_b {KK : List Int} : ∀ (t : Tr) {o : List UInt8 → Option (Nat × List UInt8)}, ObB o → ObB (addTr KK t o)
  | .mk c ws, o, h => by
    unfold addTr
    exact addTrs_b ws (add_b h)
theorem addTrs_b {KK : List Int} : ∀ (ts : Trs) {o : List UInt8 → Option (Nat × List UInt8)}, ObB o → ObB (addTrs KK ts o)
  | .nil, o, h => by
    unfold addTrs
    exact h
  | .cons t r, o, h => by
    unfold addTrs
    exact addTrs_b r (addTr_b t h)
end

theorem addObj_b {KK : List Int} {kind : Nat} {c : List UInt8} {w : Wk} (h : StB w.st) : StB (addObj KK kind c w).st := ⟨add_b h.obj, h.ref, h.tag⟩

theorem change1_b {KK : List Int} {w : Wk} (l : List Fi) (c : Pu.Ch) (h : StB w.st) : StB (change1 KK w l c).2.1.st := by
  unfold change1
  split
  · split
    · exact addObj_b h
    · split <;> exact h
  · split
    · exact h
    · split
      · exact h
      · split <;> exact h

theorem changes_b {KK : List Int} : ∀ (cs : List Pu.Ch) {w : Wk} (l : List Fi), StB w.st → StB (changes KK w l cs).2.1.st
  | [], w, l, h => h
  | c :: r, w, l, h => by
    unfold changes
    split
    · exact changes_b r _ (change1_b l c h)
    · exact change1_b l c h

theorem upd_b {β : Type} {f : List UInt8 → Option β} {n : Nat} (h : ∀ k, f k ≠ none → k.length ≤ n) {key : List UInt8} (hk : key.length ≤ n) (v : Option β) : ∀ k, upd f key v k ≠ none → k.length ≤ n := by
  intro k hn
  by_cases e : k = key
  · rw [e]; exact hk
  · rw [upd_other _ _ _ _ e] at hn
    exact h k hn

theorem commitOf_b {KK : List Int} {w : Wk} (ps : List Com) (l : List Fi) (c : Pu.Co) (h : StB w.st) (hc : c.ref.length ≤ 1000) : StB (commitOf KK w ps l c).st := by
  unfold commitOf
  exact ⟨add_b (addTr_b _ h.obj), upd_b h.ref hc _, h.tag⟩

theorem one_b {KK : List Int} {w : Wk} {c : Pu.Co} (h : StB w.st) (hc : CoOk c) : StB (one KK w c).2.st := by
  unfold one
  split
  · unfold blob
    split
    · exact h
    · exact addObj_b h
  · split
    · unfold commit
      split
      · exact h
      · split
        · exact h
        · split
          · exact commitOf_b _ _ _ (changes_b _ _ h) hc.ref
          · exact h
    · split
      · unfold tag
        split
        · exact h
        · exact ⟨add_b h.obj, h.ref, upd_b h.tag hc.ref _⟩
      · split
        · unfold reset
          split
          · exact ⟨h.obj, upd_b h.ref hc.ref _, h.tag⟩
          · split
            · exact h
            · exact ⟨h.obj, upd_b h.ref hc.ref _, h.tag⟩
        · exact h

theorem all_b {KK : List Int} : ∀ (cs : List Pu.Co) {w : Wk} (n : Nat), StB w.st → (∀ c ∈ cs, CoOk c) → StB (all KK w cs n).2.st
  | [], w, n, h, _ => h
  | c :: r, w, n, h, hc => by
    unfold all
    split
    · exact all_b r _ (one_b h (hc c (List.mem_cons_self ..))) (fun x hx => hc x (List.mem_cons_of_mem _ hx))
    · exact h

theorem imp_b {KK : List Int} {S : St} (x : List UInt8) (h : StB S) : StB (imp KK S x).2 := by
  unfold imp
  split
  · split
    · exact all_b _ _ h (Pu.readAllV_fine _ _ _)
    · exact h
  · exact h
end Pd

end Go.Proofs.YtepgoppgblfjbaaGreatDoor
