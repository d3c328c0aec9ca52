import Derived.Test.YtepgoppgblfjbaaGreatDoorGw23
import Derived.Shelf.SlIter.Nil
import Derived.Shelf.SortM.Plain
import Derived.Shelf.SortM.SortNone
namespace Go.Proofs.YtepgoppgblfjbaaGreatDoor
open Go.RowKit

def texts (f : Nat → Ac) (k : Nat) : List (List UInt8) := (List.range k).map (fun j => (f j).text (j + 1))

theorem texts_succ (f : Nat → Ac) (k : Nat) : (texts f (k + 1)).flatten = (texts f k).flatten ++ (f k).text (k + 1) := by
  unfold texts; rw [List.range_succ]; simp

theorem texts_good (f : Nat → Ac) (k : Nat) (hk : k ≤ 12) : ∀ c ∈ texts f k, Pu.Good c := by
  intro c hc
  unfold texts at hc
  obtain ⟨j, hj, rfl⟩ := List.mem_map.1 hc
  exact (f j).good (j + 1) ⟨by omega, by have := List.mem_range.1 hj; omega⟩

theorem texts_len (f : Nat → Ac) (k : Nat) (hk : k ≤ 12) : (texts f k).flatten.length ≤ 2400 := by
  have h := Pu.stream_len (texts f k) (texts_good f k hk)
  have h2 : (texts f k).length = k := by simp [texts]
  omega

def streamOf (f : Nat → Ac) (len : Nat) : List UInt8 := Pu.streamS (texts f (min len 12))

set_option maxHeartbeats 1000000 in
set_option maxRecDepth 100000 in
theorem streamL_any (b off len cap : Nat) (f : Nat → Ac) (w : World) (hlen : len ≤ maxLen) (hok : ∀ i, i < len → (f i).ok)
    (h0 : ∀ i, i < len → w.cell? ⟨b, off + i * 5, none⟩ = some (.int .i64 (f i).K))
    (h1 : ∀ i, i < len → w.cell? ⟨b, off + i * 5 + 1, none⟩ = some (.int .i64 (f i).A))
    (h2 : ∀ i, i < len → w.cell? ⟨b, off + i * 5 + 2, none⟩ = some (.int .i64 (f i).B))
    (h3 : ∀ i, i < len → w.cell? ⟨b, off + i * 5 + 3, none⟩ = some (.int .i64 (f i).C))
    (h4 : ∀ i, i < len → w.cell? ⟨b, off + i * 5 + 4, none⟩ = some (.int .i64 (f i).D)) :
    Calls Tryz.prog 17 #[.slice (some ⟨b, off, none⟩) len cap] w fun e w' => e = .returned (.string ⟨(streamOf f len).toArray⟩) ∧ ∀ X, Kx X w w' := by
  unfold maxLen at hlen
  have happ := app_str
  go_enter Tryz.func17, Tryz.ntmps17
  go_wp2
  go_loopw [3, 4] (fun sv iv w' => ∃ k : Nat, k ≤ len ∧ k ≤ 12 ∧ iv = .int .i64 k ∧ sv = .string ⟨(texts f k).flatten.toArray⟩ ∧ ∀ X, Kx X w w') (fun _ iv _ => 12 - (intOf iv).toNat)
  case atStart => exact ⟨0, by omega, by omega, rfl, rfl, fun X => Kx.refl X w⟩
  case round =>
    obtain ⟨k, hkl, hk12, rfl, rfl, hk⟩ := hrel
    have htl := texts_len f k hk12
    by_cases hc : k < len ∧ k < 12
    · obtain ⟨hc1, hc2⟩ := hc
      have HS : Hid ((texts f (k + 1)).flatten = (texts f k).flatten ++ (f k).text (k + 1)) := texts_succ f k
      have hgl := ((f k).good (k + 1) ⟨by omega, by omega⟩).len
      have hcl := fun p hp => (hk (fun _ => False)).cell (p := p) hp id
      have e0 := h0 k hc1
      have e1 := h1 k hc1
      have e2 := h2 k hc1
      have e3 := h3 k hc1
      have e4 := h4 k hc1
      have c0 := (hcl _ (lt_of_cell e0)).trans e0
      have c1 := (hcl _ (lt_of_cell e1)).trans e1
      have c2 := (hcl _ (lt_of_cell e2)).trans e2
      have c3 := (hcl _ (lt_of_cell e3)).trans e3
      have c4 := (hcl _ (lt_of_cell e4)).trans e4
      have hck := hok k hc1
      clear e0 e1 e2 e3 e4 hcl h0 h1 h2 h3 h4 hok
      generalize (texts f k).flatten = T at *
      go_wp2_with fail
      refine (commandL_any (f k) hck _ (k + 1) (by omega) (by omega) _).mono ?_
      rintro e w2 ⟨rfl, hk2⟩
      generalize (f k).text (k + 1) = C at *
      go_wp2
      go_roundw
      case rel => exact ⟨k + 1, by omega, by omega, by go_num, by rw [HS.out], fun X => (hk X).trans (hk2 X)⟩
      case measure => simp [intOf]; omega
    · have hmin : min len 12 = k := by omega
      have HE : Hid (streamOf f len = (texts f k).flatten ++ [100, 111, 110, 101, 10]) := by show _ = _; unfold streamOf Pu.streamS; rw [hmin]
      clear h0 h1 h2 h3 h4 hok hmin
      generalize (texts f k).flatten = T at *
      by_cases hc1 : k < len
      · have hc2 : ¬ k < 12 := fun e => hc ⟨hc1, e⟩
        clear hc
        go_wp2
        go_ret
        exact ⟨by rw [HE.out]; rfl, hk⟩
      · clear hc
        go_wp2
        go_ret
        exact ⟨by rw [HE.out]; rfl, hk⟩

set_option maxHeartbeats 400000 in
set_option maxRecDepth 100000 in
theorem streamL_none (ao : Option Addr) (cap : Nat) (f : Nat → Ac) (w : World) :
    Calls Tryz.prog 17 #[.slice ao 0 cap] w fun e w' => e = .returned (.string ⟨(streamOf f 0).toArray⟩) ∧ ∀ X, Kx X w w' := by
  have HE : Hid (streamOf f 0 = [100, 111, 110, 101, 10]) := rfl
  have happ := app_str
  go_enter Tryz.func17, Tryz.ntmps17
  go_wp2
  refine wp_loop_rounds 1 ?_
  rw [rounds_succ]
  go_wp2
  go_ret
  exact ⟨by rw [HE.out]; rfl, fun X => Kx.refl X w⟩

theorem streamOf_len (f : Nat → Ac) (len : Nat) : (streamOf f len).length ≤ 2405 ∧ 0 < (streamOf f len).length := by
  have := texts_len f (min len 12) (by omega)
  unfold streamOf Pu.streamS
  rw [List.length_append]
  simp only [List.length_cons, List.length_nil]
  omega

def exampleL : List UInt8 := [98, 108, 111, 98, 10, 109, 97, 114, 107, 32, 58, 49, 10, 100, 97, 116, 97, 32, 50, 10, 104, 105, 10, 99, 111, 109, 109, 105, 116, 32, 109, 97, 105, 110, 10, 109, 97, 114, 107, 32, 58, 50, 10, 97, 117, 116, 104, 111, 114, 32, 65, 32, 66, 32, 60, 97, 64, 98, 62, 32, 55, 10, 100, 97, 116, 97, 32, 49, 10, 120, 10, 77, 32, 49, 48, 48, 54, 52, 52, 32, 58, 49, 32, 100, 47, 102, 10, 10, 100, 111, 110, 101, 10]
theorem example_check : Pu.check exampleL = (2, 0) := by kernel_rfl
theorem done_check : Pu.check [100, 111, 110, 101, 10] = (0, 0) := by kernel_rfl
theorem zero_check : Pu.check [98, 108, 111, 98, 10, 109, 97, 114, 107, 32, 58, 48, 10] = (1, 1) := by kernel_rfl

set_option maxHeartbeats 400000 in
theorem example_any (w : World) : Calls Tryz.prog 47 #[] w fun e w' => e = .returned (.string ⟨exampleL.toArray⟩) ∧ w' = w := by
  go_enter Tryz.func47, Tryz.ntmps47
  go_wp2
  go_ret
  exact ⟨congrArg (fun l : List UInt8 => Ending.returned (.string ⟨l.toArray⟩)) (by decide +kernel), rfl⟩

theorem check_kx (s : List UInt8) (m : Int) (w : World) (hm : Mx m w) (hmax : s.length ≤ maxLen) (n e : Int) (h : Pu.check s = (n, e)) :
    Calls Tryz.prog 18 #[.string ⟨s.toArray⟩] w fun x w' => x = .returned (.tuple #[.int .i64 n, .int .i64 e]) ∧ ∀ X, Kx X w w' := by
  refine (check_any s m w hm.1 hm.2 hmax).mono ?_
  rintro x w' ⟨rfl, hb⟩
  rw [h]
  exact ⟨rfl, fun X => hb.mono (fun _ _ e => e.elim)⟩

set_option maxHeartbeats 400000 in
theorem checked_any (m : Int) (w : World) (hm : Mx m w) :
    Calls Tryz.prog 16 #[] w fun e w' => e = .returned (.bool true) ∧ ∀ X, Kx X w w' := by
  go_enter Tryz.func16, Tryz.ntmps16
  go_wp2_with fail
  refine (example_any _).mono ?_
  rintro e w1 ⟨rfl, rfl⟩
  go_wp2_with fail
  refine (check_kx exampleL m _ hm (by decide) 2 0 example_check).mono ?_
  rintro e w2 ⟨rfl, hk2⟩
  have hm2 := max_kept hm hk2
  go_wp2_with fail
  refine (check_kx [100, 111, 110, 101, 10] m _ hm2 (by decide) 0 0 done_check).mono ?_
  rintro e w3 ⟨rfl, hk3⟩
  have hm3 := max_kept hm2 hk3
  go_wp2_with fail
  refine (check_kx [98, 108, 111, 98, 10, 109, 97, 114, 107, 32, 58, 48, 10] m _ hm3 (by decide) 1 1 zero_check).mono ?_
  rintro e w4 ⟨rfl, hk4⟩
  go_wp2
  go_ret
  exact ⟨rfl, fun X => ((hk2 X).trans (hk3 X)).trans (hk4 X)⟩

end Go.Proofs.YtepgoppgblfjbaaGreatDoor
namespace Go.Proofs.YtepgoppgblfjbaaGreatDoor

namespace Pu

def whB (a b : Wh) : Bool := a.mark == b.mark && a.ref == b.ref
def whsB : List Wh → List Wh → Bool
  | [], [] => true
  | a :: r, b :: s => whB a b && whsB r s
  | _, _ => false
def chB (a b : Ch) : Bool := a.word == b.word && (a.mode == b.mode && (a.mark == b.mark && (a.data == b.data && (a.path == b.path && a.to == b.to))))
def chsB : List Ch → List Ch → Bool
  | [], [] => true
  | a :: r, b :: s => chB a b && chsB r s
  | _, _ => false
def coB (a b : Co) : Bool := a.word == b.word && (a.ref == b.ref && (a.mark == b.mark && (a.au.name == b.au.name && (a.au.mail == b.au.mail && (a.au.time == b.au.time && (a.data == b.data && (whB a.frm b.frm && (whsB a.merges b.merges && chsB a.changes b.changes))))))))
def cosB : List Co → List Co → Bool
  | [], [] => true
  | a :: r, b :: s => coB a b && cosB r s
  | _, _ => false

theorem whB_eq {a b : Wh} (h : whB a b = true) : a = b := by
  obtain ⟨m, r⟩ := a
  obtain ⟨m', r'⟩ := b
  simp only [whB, Bool.and_eq_true, beq_iff_eq] at h
  obtain ⟨rfl, rfl⟩ := h
  rfl
theorem whsB_eq : ∀ {a b : List Wh}, whsB a b = true → a = b
  | [], [], _ => rfl
  | a :: r, b :: s, h => by
    simp only [whsB, Bool.and_eq_true] at h
    rw [whB_eq h.1, whsB_eq h.2]
  | [], _ :: _, h => by simp [whsB] at h
  | _ :: _, [], h => by simp [whsB] at h
theorem chB_eq {a b : Ch} (h : chB a b = true) : a = b := by
  obtain ⟨a1, a2, a3, a4, a5, a6⟩ := a
  obtain ⟨b1, b2, b3, b4, b5, b6⟩ := b
  simp only [chB, Bool.and_eq_true, beq_iff_eq] at h
  obtain ⟨rfl, rfl, rfl, rfl, rfl, rfl⟩ := h
  rfl
theorem chsB_eq : ∀ {a b : List Ch}, chsB a b = true → a = b
  | [], [], _ => rfl
  | a :: r, b :: s, h => by
    simp only [chsB, Bool.and_eq_true] at h
    rw [chB_eq h.1, chsB_eq h.2]
  | [], _ :: _, h => by simp [chsB] at h
  | _ :: _, [], h => by simp [chsB] at h
theorem coB_eq {a b : Co} (h : coB a b = true) : a = b := by
  obtain ⟨a1, a2, a3, ⟨n, m, t⟩, a5, a6, a7, a8⟩ := a
  obtain ⟨b1, b2, b3, ⟨n', m', t'⟩, b5, b6, b7, b8⟩ := b
  simp only [coB, Bool.and_eq_true, beq_iff_eq] at h
  obtain ⟨rfl, rfl, rfl, rfl, rfl, rfl, rfl, h1, h2, h3⟩ := h
  rw [whB_eq h1, whsB_eq h2, chsB_eq h3]
theorem cosB_eq : ∀ {a b : List Co}, cosB a b = true → a = b
  | [], [], _ => rfl
  | a :: r, b :: s, h => by
    simp only [cosB, Bool.and_eq_true] at h
    rw [coB_eq h.1, cosB_eq h.2]
  | [], _ :: _, h => by simp [cosB] at h
  | _ :: _, [], h => by simp [cosB] at h

def sMain : List UInt8 := [109, 97, 105, 110]
end Pu

end Go.Proofs.YtepgoppgblfjbaaGreatDoor
namespace Go.Proofs.YtepgoppgblfjbaaGreatDoor
open Go.RowKit

theorem hcommit_any (h o c r t n : Nat) (f : List UInt8 → Option Value) (name : List UInt8) (w : World) (hm : Hi w h o c r t) (hf : MpS w c n f) (hi : name.length ≤ maxLen) :
    Calls Tryz.prog 54 #[.pointer (some ⟨h, 0, none⟩), .string ⟨name.toArray⟩] w fun e w' => e = .returned (.tuple #[(f name).getD (.pointer none), .bool (f name).isSome]) ∧ w' = w := by
  have hc2 : w.cell? ⟨h, 1, none⟩ = some (.map (some c)) := Cb.cell hm 1
  generalize hx : (f name).getD (.pointer none) = x
  go_enter Tryz.func54, Tryz.ntmps54
  go_wp2_with (refine wpList_lookOkS rfl _ _ 147 rfl 101 (by kernel_rfl) (by kernel_rfl) (.pointer none) (by kernel_rfl) c n f rfl hf name rfl hi ?_)
  go_ret2
  exact ⟨rfl, rfl⟩

def lineF (f : Fi) : List UInt8 := f.mode ++ 32 :: (Sh.hex f.sum ++ 32 :: f.path)

def linesV (l : List Fi) : List Value := l.map fun f => .string ⟨(lineF f).toArray⟩

theorem linesV_succ (l : List Fi) (k : Nat) (h : k < l.length) : linesV (l.take (k + 1)) = linesV (l.take k) ++ [.string ⟨(lineF l[k]).toArray⟩] := by
  unfold linesV
  rw [List.take_succ_eq_append_getElem h, List.map_append]
  rfl

theorem info9 : (Tryz.prog.info? 9).map (fun i => (i.zero, i.size, i.bytes)) = some (some (.string ⟨#[]⟩), 1, 16) := by kernel_rfl

def FilR (w w' : World) (r : Option Com) (e : Ending) : Prop :=
  match r with
  | none => e = .returned (.tuple #[.slice none 0 0, .int .i64 5])
  | some c => ∃ v, e = .returned (.tuple #[v, .int .i64 0]) ∧ w'.ownsRow w.heap.size 9 1 v c.files.length (linesV c.files)

set_option maxHeartbeats 1600000 in
set_option maxRecDepth 100000 in
theorem files_any {M : Nat → Prop} {w : World} {s h o c r t n : Nat} {S : St} {j : List UInt8} {vj : Value} (hs : Str M w s h o c r t n S j vj) (name : List UInt8) (hi : name.length ≤ maxLen) :
    Calls Tryz.prog 27 #[.pointer (some ⟨s, 0, none⟩), .string ⟨name.toArray⟩] w fun e w' => FilR w w' (S.com name) e ∧ Kx (fun _ => False) w w' := by
  obtain ⟨i0, hi0, hz0, hz1, hz2⟩ := info_parts info9
  obtain ⟨f, hf, hF⟩ := hs.sto.com
  have c0 : w.cell? ⟨s, 0, none⟩ = some (.pointer (some ⟨h, 0, none⟩)) := Cb.cell hs.jr.blk 0
  have hcall := hcommit_any h o c r t n f name w hs.sto.hi hf hi
  have hmx : maxLen = 9223372036854775807 := rfl
  have hcat : ∀ a b : List UInt8, (⟨a.toArray⟩ : ByteArray) ++ ⟨b.toArray⟩ = ⟨(a ++ b).toArray⟩ := fun a b => by
    apply ByteArray.ext; simp
  cases hc : S.com name with
  | none =>
    rw [(hF name).1 hc] at hcall
    simp only [Option.getD_none, Option.isSome_none] at hcall
    go_enter Tryz.func27, Tryz.ntmps27
    go_wp2_with fail
    refine hcall.mono ?_
    rintro _ w2 ⟨rfl, hw2⟩
    subst hw2
    clear hcall
    go_wp2
    go_ret2
    exact ⟨rfl, Kx.refl _ _⟩
  | some cm =>
    obtain ⟨b, hb, hcm⟩ := (hF name).2 cm hc
    rw [hb] at hcall
    simp only [Option.getD_some, Option.isSome_some] at hcall
    unfold ptrV at hcall
    obtain ⟨al, cl, hfc, hlst⟩ := hcm.lst
    have hfok := hlst.ok
    have hfs := hlst.fs
    obtain ⟨sum, l⟩ := cm
    simp only at hfc hlst hfok hfs
    have hl60 := hfok.len
    unfold FilR
    simp only
    go_enter Tryz.func27, Tryz.ntmps27
    go_wp2_with fail
    refine hcall.mono ?_
    rintro _ w2 ⟨rfl, hw2⟩
    subst hw2
    clear hcall
    go_wp2
    go_loopw [27, 8] (fun iv v wr => ∃ (k : Nat), iv = .int .i64 k ∧ k ≤ l.length ∧ Kx (fun _ => False) w2 wr ∧ wr.ownsRow w2.heap.size 9 1 v k (linesV (l.take k))) (fun iv _ _ => l.length - (intOf iv).toNat)
    case atStart => exact ⟨0, rfl, by omega, Kx.refl _ _, World.ownsRow_nil _ _ _ _⟩
    case round =>
      obtain ⟨k, rfl, hk, hkx, hown⟩ := hrel
      by_cases hlt : k < l.length
      · have hlt2 : (k : Int) < (l.length : Int) := by omega
        have hFr := hfs.kept hkx (fun _ _ => id)
        obtain ⟨g, og, c', he, p0, p1, p2⟩ := hFr.file k hlt
        cases he
        have e0 : og + k * 3 = og + 3 * k := by omega
        have HL := linesV_succ l k hlt
        have HLL : Hid (linesV (l.take (k + 1)) = linesV (l.take k) ++ [.string ⟨(lineF l[k]).toArray⟩]) := HL
        have hfine := hfok.fine l[k] (List.getElem_mem hlt)
        clear HL
        generalize l[k] = fi at *
        obtain ⟨fp, fm, fsm⟩ := fi
        simp only at p0 p1 p2 hfine
        unfold lineF at HLL
        simp only at HLL
        have hxl : (Sh.hex fsm).length = 64 := by rw [hex_len, hfine.1]
        generalize Sh.hex fsm = hx at *
        go_wp2_with (at_builtin; refine wpList_append_own _ rfl (.tmp 31) (.tmp 42) 35 rfl w2.heap.size 9 i0 _ 1 16 Tryz.underlying35 hi0 hz0 hz1 hz2 rfl (by decide) _ k (linesV (l.take k)) rfl ((hown.alloc _).alloc _) ⟨wr.heap.size + 1, 0, none⟩ 1 1 [.string ⟨(fm ++ 32 :: (hx ++ 32 :: fp)).toArray⟩] rfl rfl ?c1 ?c2 ?c3 ?c4 ?c5 ?_)
        case c1 =>
          have h := cells_new (wr.alloc (.cells #[.string ⟨fp.toArray⟩, .string ⟨fm.toArray⟩, .string ⟨hx.toArray⟩] 114)) [.string ⟨(fm ++ 32 :: (hx ++ 32 :: fp)).toArray⟩] 9
          rw [World.size_alloc] at h
          exact h
        case c2 => simp [Value.oneCell']
        case c3 => unfold maxLen; omega
        case c4 => omega
        case c5 => have := hkx.size; simp; omega
        intro v4 w4 hown4 hgrow4 _
        have hk4 : Kx (fun _ => False) w2 w4 := ((hkx.alloc _).alloc _).grown hgrow4 (fun k he => (hown.lt k he).1)
        have hown5 : w4.ownsRow w2.heap.size 9 1 v4 (k + 1) (linesV (l.take (k + 1))) := by rw [HLL.out]; exact hown4
        clear hown4 hgrow4
        go_wp2
        go_roundw
        case rel => exact ⟨k + 1, by go_num, hlt, hk4, hown5⟩
        case measure => simp [intOf]; omega
      · obtain rfl : k = l.length := by omega
        have hlt2 : ¬ (l.length : Int) < (l.length : Int) := by omega
        rw [List.take_of_length_le (Nat.le_refl _)] at hown
        go_wp2
        go_ret2
        exact ⟨⟨_, rfl, hown⟩, hkx⟩

end Go.Proofs.YtepgoppgblfjbaaGreatDoor

/- maps.Keys, slices.Sorted, slices.Sort at this dump, laid (the shelf). -/
namespace Go.Proofs
open Go.Shelf
def Tryz.keys88_ren : Go.Shelf.Ren := ⟨fun | 7 => 88 | 10 => 133 | n => n, fun | 23 => 147 | 26 => 9 | 3 => 101 | 28 => 182 | 0 => 0 | 27 => 181 | 33 => 134 | 4 => 4 | n => n, fun | n => n⟩
theorem Tryz.keys88 : Go.Proofs.SlLaysZ.n7 Tryz.prog Tryz.keys88_ren := {
  mixed := by kernel_rfl
  f7 := ⟨Tryz.f88.name, by decide, Tryz.func88.trans (congrArg some (by kernel_rfl))⟩
  f10 := ⟨Tryz.f133.name, by decide, Tryz.func133.trans (congrArg some (by kernel_rfl))⟩
  t0 := Tryz.underlying0
  a0 := Tryz.isAgg0
  z0 := Tryz.sizeOf0
  v0 := Tryz.zeroValue0
  t4 := Tryz.underlying4
  a4 := Tryz.isAgg4
  z4 := Tryz.sizeOf4
  v4 := Tryz.zeroValue4
  t23 := Tryz.underlying147
  a23 := Tryz.isAgg147
  z23 := Tryz.sizeOf147
  v23 := Tryz.zeroValue147
  t26 := Tryz.underlying9
  a26 := Tryz.isAgg9
  z26 := Tryz.sizeOf9
  v26 := Tryz.zeroValue9
  t27 := Tryz.underlying181
  a27 := Tryz.isAgg181
  z27 := Tryz.sizeOf181
  v27 := Tryz.zeroValue181
  t28 := Tryz.underlying182
  a28 := Tryz.isAgg182
  z28 := Tryz.sizeOf182
  v28 := Tryz.zeroValue182
  t33 := Tryz.underlying134
  a33 := Tryz.isAgg134
  z33 := Tryz.sizeOf134
  v33 := Tryz.zeroValue134 }
def Tryz.keys89_ren : Go.Shelf.Ren := ⟨fun | 7 => 89 | 10 => 134 | n => n, fun | 23 => 148 | 26 => 9 | 3 => 185 | 28 => 182 | 0 => 0 | 27 => 181 | 33 => 134 | 4 => 4 | n => n, fun | n => n⟩
theorem Tryz.keys89 : Go.Proofs.SlLaysZ.n7 Tryz.prog Tryz.keys89_ren := {
  mixed := by kernel_rfl
  f7 := ⟨Tryz.f89.name, by decide, Tryz.func89.trans (congrArg some (by kernel_rfl))⟩
  f10 := ⟨Tryz.f134.name, by decide, Tryz.func134.trans (congrArg some (by kernel_rfl))⟩
  t0 := Tryz.underlying0
  a0 := Tryz.isAgg0
  z0 := Tryz.sizeOf0
  v0 := Tryz.zeroValue0
  t4 := Tryz.underlying4
  a4 := Tryz.isAgg4
  z4 := Tryz.sizeOf4
  v4 := Tryz.zeroValue4
  t23 := Tryz.underlying148
  a23 := Tryz.isAgg148
  z23 := Tryz.sizeOf148
  v23 := Tryz.zeroValue148
  t26 := Tryz.underlying9
  a26 := Tryz.isAgg9
  z26 := Tryz.sizeOf9
  v26 := Tryz.zeroValue9
  t27 := Tryz.underlying181
  a27 := Tryz.isAgg181
  z27 := Tryz.sizeOf181
  v27 := Tryz.zeroValue181
  t28 := Tryz.underlying182
  a28 := Tryz.isAgg182
  z28 := Tryz.sizeOf182
  v28 := Tryz.zeroValue182
  t33 := Tryz.underlying134
  a33 := Tryz.isAgg134
  z33 := Tryz.sizeOf134
  v33 := Tryz.zeroValue134 }
def Tryz.keys91_ren : Go.Shelf.Ren := ⟨fun | 7 => 91 | 10 => 135 | n => n, fun | 23 => 146 | 26 => 9 | 3 => 105 | 28 => 182 | 0 => 0 | 27 => 181 | 33 => 134 | 4 => 4 | n => n, fun | n => n⟩
theorem Tryz.keys91 : Go.Proofs.SlLaysZ.n7 Tryz.prog Tryz.keys91_ren := {
  mixed := by kernel_rfl
  f7 := ⟨Tryz.f91.name, by decide, Tryz.func91.trans (congrArg some (by kernel_rfl))⟩
  f10 := ⟨Tryz.f135.name, by decide, Tryz.func135.trans (congrArg some (by kernel_rfl))⟩
  t0 := Tryz.underlying0
  a0 := Tryz.isAgg0
  z0 := Tryz.sizeOf0
  v0 := Tryz.zeroValue0
  t4 := Tryz.underlying4
  a4 := Tryz.isAgg4
  z4 := Tryz.sizeOf4
  v4 := Tryz.zeroValue4
  t23 := Tryz.underlying146
  a23 := Tryz.isAgg146
  z23 := Tryz.sizeOf146
  v23 := Tryz.zeroValue146
  t26 := Tryz.underlying9
  a26 := Tryz.isAgg9
  z26 := Tryz.sizeOf9
  v26 := Tryz.zeroValue9
  t27 := Tryz.underlying181
  a27 := Tryz.isAgg181
  z27 := Tryz.sizeOf181
  v27 := Tryz.zeroValue181
  t28 := Tryz.underlying182
  a28 := Tryz.isAgg182
  z28 := Tryz.sizeOf182
  v28 := Tryz.zeroValue182
  t33 := Tryz.underlying134
  a33 := Tryz.isAgg134
  z33 := Tryz.sizeOf134
  v33 := Tryz.zeroValue134 }
def Tryz.sorted87_ren : Go.Shelf.Ren := ⟨fun | 6 => 87 | 8 => 131 | 9 => 132 | 11 => 182 | 13 => 184 | 12 => 183 | 23 => 257 | 24 => 258 | 14 => 248 | 15 => 249 | 16 => 250 | 17 => 251 | 18 => 252 | 19 => 253 | 20 => 254 | 21 => 255 | 22 => 256 | 25 => 309 | 26 => 310 | 27 => 311 | 28 => 312 | 29 => 313 | 30 => 314 | 31 => 352 | n => n, fun | 26 => 9 | 28 => 182 | 24 => 35 | 0 => 0 | 3 => 3 | 37 => 283 | 48 => 172 | 50 => 229 | 4 => 4 | 40 => 347 | 39 => 346 | 45 => 351 | 5 => 5 | 9 => 9 | 51 => 399 | 55 => 403 | 57 => 423 | 58 => 424 | 33 => 134 | n => n, fun | n => n⟩
theorem Tryz.sorted87 : Go.Proofs.SlLaysZ.n6 Tryz.prog Tryz.sorted87_ren := {
  mixed := by kernel_rfl
  f6 := ⟨Tryz.f87.name, by decide, Tryz.func87.trans (congrArg some (by kernel_rfl))⟩
  f8 := ⟨Tryz.f131.name, by decide, Tryz.func131.trans (congrArg some (by kernel_rfl))⟩
  f11 := ⟨Tryz.f182.name, by decide, Tryz.func182.trans (congrArg some (by kernel_rfl))⟩
  t0 := Tryz.underlying0
  a0 := Tryz.isAgg0
  z0 := Tryz.sizeOf0
  v0 := Tryz.zeroValue0
  t24 := Tryz.underlying35
  a24 := Tryz.isAgg35
  z24 := Tryz.sizeOf35
  v24 := Tryz.zeroValue35
  t26 := Tryz.underlying9
  a26 := Tryz.isAgg9
  z26 := Tryz.sizeOf9
  v26 := Tryz.zeroValue9
  t28 := Tryz.underlying182
  a28 := Tryz.isAgg182
  z28 := Tryz.sizeOf182
  v28 := Tryz.zeroValue182
  i26 := by kernel_rfl }
def Tryz.sort132_ren : Go.Shelf.Ren := ⟨fun | 6 => 132 | 8 => 184 | 9 => 183 | 19 => 257 | 20 => 258 | 21 => 248 | 22 => 249 | 23 => 250 | 24 => 251 | 25 => 252 | 26 => 253 | 27 => 254 | 28 => 255 | 29 => 256 | 36 => 309 | 31 => 310 | 32 => 311 | 37 => 312 | 38 => 313 | 39 => 314 | 41 => 352 | n => n, fun | 27 => 35 | 29 => 9 | 3 => 3 | 32 => 283 | 26 => 35 | 0 => 0 | 44 => 172 | 46 => 229 | 4 => 4 | 36 => 347 | 35 => 346 | 41 => 351 | 5 => 5 | 9 => 9 | 53 => 399 | 57 => 403 | 63 => 423 | 64 => 424 | n => n, fun | n => n⟩
theorem Tryz.sort132 : Go.Proofs.SlLaysM.n6 Tryz.prog Tryz.sort132_ren := {
  mixed := by kernel_rfl
  f6 := ⟨Tryz.f132.name, by decide, Tryz.func132.trans (congrArg some (by kernel_rfl))⟩
  f8 := Tryz.func184.trans (congrArg some (by kernel_rfl))
  f9 := ⟨Tryz.f183.name, by decide, Tryz.func183.trans (congrArg some (by kernel_rfl))⟩
  f19 := Tryz.func257.trans (congrArg some (by kernel_rfl))
  f20 := Tryz.func258.trans (congrArg some (by kernel_rfl))
  f21 := ⟨Tryz.f248.name, by decide, Tryz.func248.trans (congrArg some (by kernel_rfl))⟩
  f22 := ⟨Tryz.f249.name, by decide, Tryz.func249.trans (congrArg some (by kernel_rfl))⟩
  f23 := ⟨Tryz.f250.name, by decide, Tryz.func250.trans (congrArg some (by kernel_rfl))⟩
  f24 := ⟨Tryz.f251.name, by decide, Tryz.func251.trans (congrArg some (by kernel_rfl))⟩
  f25 := ⟨Tryz.f252.name, by decide, Tryz.func252.trans (congrArg some (by kernel_rfl))⟩
  f26 := ⟨Tryz.f253.name, by decide, Tryz.func253.trans (congrArg some (by kernel_rfl))⟩
  f27 := ⟨Tryz.f254.name, by decide, Tryz.func254.trans (congrArg some (by kernel_rfl))⟩
  f28 := ⟨Tryz.f255.name, by decide, Tryz.func255.trans (congrArg some (by kernel_rfl))⟩
  f29 := ⟨Tryz.f256.name, by decide, Tryz.func256.trans (congrArg some (by kernel_rfl))⟩
  f31 := Tryz.func310.trans (congrArg some (by kernel_rfl))
  f32 := Tryz.func311.trans (congrArg some (by kernel_rfl))
  f36 := ⟨Tryz.f309.name, by decide, Tryz.func309.trans (congrArg some (by kernel_rfl))⟩
  f37 := ⟨Tryz.f312.name, by decide, Tryz.func312.trans (congrArg some (by kernel_rfl))⟩
  f38 := ⟨Tryz.f313.name, by decide, Tryz.func313.trans (congrArg some (by kernel_rfl))⟩
  f39 := ⟨Tryz.f314.name, by decide, Tryz.func314.trans (congrArg some (by kernel_rfl))⟩
  f41 := ⟨Tryz.f352.name, by decide, Tryz.func352.trans (congrArg some (by kernel_rfl))⟩
  t0 := Tryz.underlying0
  a0 := Tryz.isAgg0
  z0 := Tryz.sizeOf0
  v0 := Tryz.zeroValue0
  t3 := Tryz.underlying3
  a3 := Tryz.isAgg3
  z3 := Tryz.sizeOf3
  v3 := Tryz.zeroValue3
  t4 := Tryz.underlying4
  a4 := Tryz.isAgg4
  z4 := Tryz.sizeOf4
  v4 := Tryz.zeroValue4
  t5 := Tryz.underlying5
  a5 := Tryz.isAgg5
  z5 := Tryz.sizeOf5
  v5 := Tryz.zeroValue5
  t9 := Tryz.underlying9
  a9 := Tryz.isAgg9
  z9 := Tryz.sizeOf9
  v9 := Tryz.zeroValue9
  t26 := Tryz.underlying35
  a26 := Tryz.isAgg35
  z26 := Tryz.sizeOf35
  v26 := Tryz.zeroValue35
  t27 := Tryz.underlying35
  a27 := Tryz.isAgg35
  z27 := Tryz.sizeOf35
  v27 := Tryz.zeroValue35
  t29 := Tryz.underlying9
  a29 := Tryz.isAgg9
  z29 := Tryz.sizeOf9
  v29 := Tryz.zeroValue9
  t32 := Tryz.underlying283
  a32 := Tryz.isAgg283
  z32 := Tryz.sizeOf283
  v32 := Tryz.zeroValue283
  t35 := Tryz.underlying346
  a35 := Tryz.isAgg346
  z35 := Tryz.sizeOf346
  v35 := Tryz.zeroValue346
  t36 := Tryz.underlying347
  a36 := Tryz.isAgg347
  z36 := Tryz.sizeOf347
  v36 := Tryz.zeroValue347
  t41 := Tryz.underlying351
  a41 := Tryz.isAgg351
  z41 := Tryz.sizeOf351
  v41 := Tryz.zeroValue351
  t44 := Tryz.underlying172
  a44 := Tryz.isAgg172
  z44 := Tryz.sizeOf172
  v44 := Tryz.zeroValue172
  t46 := Tryz.underlying229
  a46 := Tryz.isAgg229
  z46 := Tryz.sizeOf229
  v46 := Tryz.zeroValue229
  t53 := Tryz.underlying399
  a53 := Tryz.isAgg399
  z53 := Tryz.sizeOf399
  v53 := Tryz.zeroValue399
  t57 := Tryz.underlying403
  a57 := Tryz.isAgg403
  z57 := Tryz.sizeOf403
  v57 := Tryz.zeroValue403
  t63 := Tryz.underlying423
  a63 := Tryz.isAgg423
  z63 := Tryz.sizeOf423
  v63 := Tryz.zeroValue423
  t64 := Tryz.underlying424
  a64 := Tryz.isAgg424
  z64 := Tryz.sizeOf424
  v64 := Tryz.zeroValue424 }
end Go.Proofs
namespace Go.Proofs.YtepgoppgblfjbaaGreatDoor
open Go.RowKit Go.Maps Go.WideMaps

structure KeyL {β : Type} (f : List UInt8 → Option β) (ks : List (List UInt8)) : Prop where
  sorted : ks.Pairwise (fun a b => a < b)
  mem : ∀ k, k ∈ ks ↔ (f k).isSome = true

theorem strKeys_spec {P : Program} {K : TypeId} {w : World} {b n : Nat} {D : DataW Value} {f : List UInt8 → Option Value} (hown : w.ownsMap P K Rv b n D) (hK : P.underlying K = some .string) (ha : ∀ k zd, D.atKey (.string k) zd = heldOr (f k) zd) :
    (strKeys D).Nodup ∧ (∀ x, x ∈ strKeys D ↔ (f x).isSome = true) ∧ (strKeys D).length = Maps.size D := by
  obtain ⟨es, rfl, hp, _⟩ := hown.entries (string_keyed hK)
  obtain ⟨es', he, hko⟩ := hown.keysOf
  cases he
  have hk : ∀ p ∈ es, ∃ x, p.1 = .string x := fun p hp' => by
    obtain ⟨v, hv⟩ := hko p hp'
    obtain ⟨x, _, hx, _⟩ := Maps.keyOf_str hK hv
    exact ⟨x, hx⟩
  refine ⟨?_, fun x => ?_, ?_⟩
  · show (es.map fun p => strOf p.1).Nodup
    refine List.pairwise_map.2 (hp.imp_of_mem fun {p q} hp' hq' hne e => hne ?_)
    obtain ⟨a, ha⟩ := hk p hp'
    obtain ⟨b, hb⟩ := hk q hq'
    rw [ha, hb] at e ⊢
    exact congrArg _ e
  · rw [← has_of_heldOr (ha x), has_eq, List.any_eq_true]
    show x ∈ es.map (fun p => strOf p.1) ↔ _
    rw [List.mem_map]
    constructor
    · rintro ⟨p, hp', rfl⟩
      obtain ⟨a, ha⟩ := hk p hp'
      exact ⟨p, hp', by rw [ha]; simp [Lit.sameKey, strOf]⟩
    · rintro ⟨p, hp', hs⟩
      obtain ⟨a, ha⟩ := hk p hp'
      rw [ha] at hs
      exact ⟨p, hp', by rw [ha]; simpa [Lit.sameKey, strOf] using hs⟩
  · show (es.map _).length = _
    rw [List.length_map]
    rfl

theorem keyL_of {P : Program} {K : TypeId} {w : World} {b n : Nat} {D : DataW Value} {f : List UInt8 → Option Value} (hown : w.ownsMap P K Rv b n D) (hK : P.underlying K = some .string) (ha : ∀ k zd, D.atKey (.string k) zd = heldOr (f k) zd) {ss : List (List UInt8)} (hp : ss.Perm (strKeys D)) :
    KeyL f (ss.mergeSort leB) ∧ (ss.mergeSort leB).length = ss.length ∧ ss.length ≤ n := by
  obtain ⟨h1, h2, h3⟩ := strKeys_spec hown hK ha
  have hms := List.mergeSort_perm ss leB
  refine ⟨⟨?_, fun k => ?_⟩, hms.length_eq, ?_⟩
  · have tr : ∀ a b c : List UInt8, leB a b = true → leB b c = true → leB a c = true := fun a b c h1 h2 => by simp only [leB, decide_eq_true_eq] at *; exact List.le_trans h1 h2
    have tot : ∀ a b : List UInt8, (leB a b || leB b a) = true := fun a b => by simp only [leB, Bool.or_eq_true, decide_eq_true_eq]; exact List.le_total a b
    have hs := List.pairwise_mergeSort tr tot ss
    have hnd : (ss.mergeSort leB).Nodup := (hms.trans hp).nodup_iff.2 h1
    have hnd' : (ss.mergeSort leB).Pairwise (fun a b => a ≠ b) := hnd
    refine (hs.and hnd').imp ?_
    rintro a b ⟨h4, h5⟩
    simp only [leB, decide_eq_true_eq] at h4
    apply Classical.byContradiction
    intro h6
    rw [List.not_lt] at h6
    exact h5 (List.le_antisymm h4 h6)
  · rw [hms.mem_iff, hp.mem_iff]
    exact h2 k
  · rw [hp.length_eq, h3]
    exact hown.size_le

theorem MapS.keyLen {P : Program} {K : TypeId} {w : World} {b n : Nat} {f : List UInt8 → Option Value} {k : List UInt8} {v : Value} (h : MapS P K w b n f) (hK : P.underlying K = some .string) (hv : f k = some v) : k.length ≤ maxLen := by
  obtain ⟨D, hown, ha⟩ := h
  exact strKeys_le hown hK k (((strKeys_spec hown hK ha).2.1 k).2 (by rw [hv]; rfl))

theorem KeyL.one {β γ : Type} {f : List UInt8 → Option β} {g : List UInt8 → Option γ} {l l' : List (List UInt8)} (h : KeyL f l) (h' : KeyL g l') (hfg : ∀ k, (f k).isSome = (g k).isSome) : l = l' := by
  have e : ∀ k, k ∈ l ↔ k ∈ l' := fun k => by rw [h.mem, h'.mem, hfg]
  have hn : l.Nodup := h.sorted.imp (fun h e => by subst e; exact List.lt_irrefl _ h)
  have hn' : l'.Nodup := h'.sorted.imp (fun h e => by subst e; exact List.lt_irrefl _ h)
  refine List.Perm.eq_of_pairwise (le := fun a b => a ≤ b) (fun a b _ _ h1 h2 => List.le_antisymm h1 h2) (h.sorted.imp (fun h => List.le_of_lt h)) (h'.sorted.imp (fun h => List.le_of_lt h)) ((List.perm_ext_iff_of_nodup hn hn').2 e)

end Go.Proofs.YtepgoppgblfjbaaGreatDoor
namespace Go.Proofs.YtepgoppgblfjbaaGreatDoor
open Go.RowKit Go.Maps Go.Sort Go.Shelf Go.Proofs

theorem sorts87 (m : Nat) : AnyZ.SortsIn Tryz.prog Tryz.sorted87_ren Fence.wide m :=
  ⟨fun blk off cap ss W hH hblk hsz => callsIn_wide.2 (AnyM.slices_Sort_string Tryz.sort132 blk off cap ss W hH hblk hsz),
   fun p cap W => callsIn_wide.2 (AnyM.slices_Sort_string_none Tryz.sort132 p cap W)⟩

def strsV (l : List (List UInt8)) : List Value := l.map fun k => .string ⟨k.toArray⟩

theorem keys88_any (b : Nat) (W : World) : Calls Tryz.prog 88 #[.map (some b)] W fun e w' => e = .returned (.func (.func 133) #[] #[.pointer (some ⟨W.heap.size, 0, none⟩)]) ∧ w' = W.alloc (.cells #[.map (some b)] 147) :=
  callsIn_wide.1 (AnyZ.keys_in Tryz.keys88 Fence.wide 5 trivial rfl (some b) W)

set_option maxHeartbeats 1000000 in
theorem sorted88_any {b n : Nat} {f : List UInt8 → Option Value} {w : World} (h : MapS Tryz.prog 9 w b n f) (hn : n ≤ 1000000000000) :
    Calls Tryz.prog 87 #[.func (.func 133) #[] #[.pointer (some ⟨w.heap.size, 0, none⟩)]] (w.alloc (.cells #[.map (some b)] 147)) fun e w' => ∃ v ks, e = .returned v ∧ KeyL f ks ∧ ks.length ≤ n ∧ w'.ownsRow (w.heap.size + 1) 9 1 v ks.length (strsV ks) ∧ Kx (fun _ => False) w w' := by
  obtain ⟨D, hown, ha⟩ := h
  have hbl := hown.lt
  have hsz := hown.size_le
  have hseq : SeqGives Fence.wide 2 Tryz.prog 133 #[.pointer (some ⟨w.heap.size, 0, none⟩)] encStr (fun ss => ss.Perm (strKeys D)) (Maps.size D) (w.alloc (.cells #[.map (some b)] 147)) :=
    AnyZ.keys_gives (ρ := Tryz.keys88_ren) { Tryz.keys88 with } Fence.wide _ trivial rfl (by omega) w.heap.size b n D _ (by simp) (by simp) (by
      obtain ⟨es, clock, hb, Ft, hs, hD⟩ := hown
      exact ⟨es, clock, (Below.heap_alloc _ _ b hbl).trans hb, Ft, hs, hD⟩)
  have hc := AnyZ.sorted_in Tryz.sorted87 Fence.wide 5 trivial trivial trivial trivial rfl (by omega) (sorts87 _) (enters_of Tryz.func132 (by kernel_rfl) rfl) 133 #[.pointer (some ⟨w.heap.size, 0, none⟩)] trivial (enters_of Tryz.func133 (by kernel_rfl) rfl) _ _ (by unfold maxLen; omega) (by omega) _ hseq
  refine (callsIn_wide.1 hc).mono ?_
  rintro _ w' ⟨v, ss, rfl, hp, hrow, _, hb⟩
  obtain ⟨hk, hl, hle⟩ := keyL_of hown (by kernel_rfl) ha hp
  refine ⟨v, _, rfl, hk, by omega, ?_, ((Kx.refl _ _).alloc _).trans (Kx.of_below hb)⟩
  rw [hl]
  rw [World.size_alloc] at hrow
  exact hrow

theorem keys89_any (b : Nat) (W : World) : Calls Tryz.prog 89 #[.map (some b)] W fun e w' => e = .returned (.func (.func 134) #[] #[.pointer (some ⟨W.heap.size, 0, none⟩)]) ∧ w' = W.alloc (.cells #[.map (some b)] 148) :=
  callsIn_wide.1 (AnyZ.keys_in Tryz.keys89 Fence.wide 5 trivial rfl (some b) W)

set_option maxHeartbeats 1000000 in
theorem sorted89_any {b n : Nat} {f : List UInt8 → Option Value} {w : World} (h : MapS Tryz.prog 9 w b n f) (hn : n ≤ 1000000000000) :
    Calls Tryz.prog 87 #[.func (.func 134) #[] #[.pointer (some ⟨w.heap.size, 0, none⟩)]] (w.alloc (.cells #[.map (some b)] 148)) fun e w' => ∃ v ks, e = .returned v ∧ KeyL f ks ∧ ks.length ≤ n ∧ w'.ownsRow (w.heap.size + 1) 9 1 v ks.length (strsV ks) ∧ Kx (fun _ => False) w w' := by
  obtain ⟨D, hown, ha⟩ := h
  have hbl := hown.lt
  have hsz := hown.size_le
  have hseq : SeqGives Fence.wide 2 Tryz.prog 134 #[.pointer (some ⟨w.heap.size, 0, none⟩)] encStr (fun ss => ss.Perm (strKeys D)) (Maps.size D) (w.alloc (.cells #[.map (some b)] 148)) :=
    AnyZ.keys_gives (ρ := Tryz.keys89_ren) { Tryz.keys89 with } Fence.wide _ trivial rfl (by omega) w.heap.size b n D _ (by simp) (by simp) (by
      obtain ⟨es, clock, hb, Ft, hs, hD⟩ := hown
      exact ⟨es, clock, (Below.heap_alloc _ _ b hbl).trans hb, Ft, hs, hD⟩)
  have hc := AnyZ.sorted_in Tryz.sorted87 Fence.wide 5 trivial trivial trivial trivial rfl (by omega) (sorts87 _) (enters_of Tryz.func132 (by kernel_rfl) rfl) 134 #[.pointer (some ⟨w.heap.size, 0, none⟩)] trivial (enters_of Tryz.func134 (by kernel_rfl) rfl) _ _ (by unfold maxLen; omega) (by omega) _ hseq
  refine (callsIn_wide.1 hc).mono ?_
  rintro _ w' ⟨v, ss, rfl, hp, hrow, _, hb⟩
  obtain ⟨hk, hl, hle⟩ := keyL_of hown (by kernel_rfl) ha hp
  refine ⟨v, _, rfl, hk, by omega, ?_, ((Kx.refl _ _).alloc _).trans (Kx.of_below hb)⟩
  rw [hl]
  rw [World.size_alloc] at hrow
  exact hrow

theorem keys91_any (b : Nat) (W : World) : Calls Tryz.prog 91 #[.map (some b)] W fun e w' => e = .returned (.func (.func 135) #[] #[.pointer (some ⟨W.heap.size, 0, none⟩)]) ∧ w' = W.alloc (.cells #[.map (some b)] 146) :=
  callsIn_wide.1 (AnyZ.keys_in Tryz.keys91 Fence.wide 5 trivial rfl (some b) W)

set_option maxHeartbeats 1000000 in
theorem sorted91_any {b n : Nat} {f : List UInt8 → Option Value} {w : World} (h : MapS Tryz.prog 9 w b n f) (hn : n ≤ 1000000000000) :
    Calls Tryz.prog 87 #[.func (.func 135) #[] #[.pointer (some ⟨w.heap.size, 0, none⟩)]] (w.alloc (.cells #[.map (some b)] 146)) fun e w' => ∃ v ks, e = .returned v ∧ KeyL f ks ∧ ks.length ≤ n ∧ w'.ownsRow (w.heap.size + 1) 9 1 v ks.length (strsV ks) ∧ Kx (fun _ => False) w w' := by
  obtain ⟨D, hown, ha⟩ := h
  have hbl := hown.lt
  have hsz := hown.size_le
  have hseq : SeqGives Fence.wide 2 Tryz.prog 135 #[.pointer (some ⟨w.heap.size, 0, none⟩)] encStr (fun ss => ss.Perm (strKeys D)) (Maps.size D) (w.alloc (.cells #[.map (some b)] 146)) :=
    AnyZ.keys_gives (ρ := Tryz.keys91_ren) { Tryz.keys91 with } Fence.wide _ trivial rfl (by omega) w.heap.size b n D _ (by simp) (by simp) (by
      obtain ⟨es, clock, hb, Ft, hs, hD⟩ := hown
      exact ⟨es, clock, (Below.heap_alloc _ _ b hbl).trans hb, Ft, hs, hD⟩)
  have hc := AnyZ.sorted_in Tryz.sorted87 Fence.wide 5 trivial trivial trivial trivial rfl (by omega) (sorts87 _) (enters_of Tryz.func132 (by kernel_rfl) rfl) 135 #[.pointer (some ⟨w.heap.size, 0, none⟩)] trivial (enters_of Tryz.func135 (by kernel_rfl) rfl) _ _ (by unfold maxLen; omega) (by omega) _ hseq
  refine (callsIn_wide.1 hc).mono ?_
  rintro _ w' ⟨v, ss, rfl, hp, hrow, _, hb⟩
  obtain ⟨hk, hl, hle⟩ := keyL_of hown (by kernel_rfl) ha hp
  refine ⟨v, _, rfl, hk, by omega, ?_, ((Kx.refl _ _).alloc _).trans (Kx.of_below hb)⟩
  rw [hl]
  rw [World.size_alloc] at hrow
  exact hrow

end Go.Proofs.YtepgoppgblfjbaaGreatDoor
namespace Go.Proofs.YtepgoppgblfjbaaGreatDoor
open Go.RowKit

def idAt (g : List UInt8 → Option Com) (k : List UInt8) : List UInt8 := ((g k).map fun c => Sh.hex c.sum).getD []

def refC (g : List UInt8 → Option Com) (k : List UInt8) : List Value := [.string ⟨k.toArray⟩, .string ⟨(idAt g k).toArray⟩]
def refsV (g : List UInt8 → Option Com) (ks : List (List UInt8)) : List Value := ks.flatMap (refC g)

theorem refsV_succ (g : List UInt8 → Option Com) (l : List (List UInt8)) (k : Nat) (h : k < l.length) : refsV g (l.take (k + 1)) = refsV g (l.take k) ++ refC g l[k] := flat_succ _ _ _ h

theorem ComF.some {M : Nat → Prop} {w : World} {f : List UInt8 → Option Value} {g : List UInt8 → Option Com} (h : ComF M w f g) (k : List UInt8) : (f k).isSome = (g k).isSome := by
  cases hg : g k with
  | none => rw [(h k).1 hg]; rfl
  | some c =>
    obtain ⟨b, hb, _⟩ := (h k).2 c hg
    rw [hb]
    rfl

theorem KeyL.cast {β γ : Type} {f : List UInt8 → Option β} {g : List UInt8 → Option γ} {l : List (List UInt8)} (h : KeyL f l) (hfg : ∀ k, (f k).isSome = (g k).isSome) : KeyL g l := ⟨h.sorted, fun k => by rw [h.mem, hfg]⟩

theorem info46 : (Tryz.prog.info? 46).map (fun i => (i.zero, i.size, i.bytes)) = some (some (.agg #[.string ⟨#[]⟩, .string ⟨#[]⟩]), 2, 32) := by kernel_rfl

theorem row_cell {w : World} {base : Nat} {e : TypeId} {v : Value} {l : List (List UInt8)} (h : w.ownsRow base e 1 v l.length (strsV l)) (k : Nat) (hk : k < l.length) : ∃ g cap, v = .slice (some ⟨g, 0, none⟩) l.length cap ∧ w.cell? ⟨g, k, none⟩ = some (.string ⟨l[k].toArray⟩) := by
  rcases h.2 with ⟨_, h0⟩ | ⟨g, cap, cur, rfl, hb, hg, hc, hm, hs, ht⟩
  · omega
  · refine ⟨g, cap, rfl, ?_⟩
    unfold World.cell?
    rw [hg]
    have hx : (strsV l)[k]? = some (.string ⟨l[k].toArray⟩) := by simp [strsV, hk]
    rw [← ht, List.getElem?_take_of_lt (by omega)] at hx
    simpa using hx

set_option maxHeartbeats 1600000 in
set_option maxRecDepth 100000 in
theorem hrefs_any {M : Nat → Prop} {w : World} {h o c r t n : Nat} {S : St} (hs : Sto M w h o c r t n S) (hn : n ≤ 30000000000) :
    Calls Tryz.prog 53 #[.pointer (some ⟨h, 0, none⟩)] w fun e w' => ∃ v ks, e = .returned v ∧ KeyL S.ref ks ∧ ks.length ≤ n ∧ w'.ownsRow w.heap.size 46 2 v ks.length (refsV S.ref ks) ∧ Kx (fun _ => False) w w' := by
  obtain ⟨i0, hi0, hz0, hz1, hz2⟩ := info_parts info46
  obtain ⟨f, hf, hF⟩ := hs.ref
  have c2 : w.cell? ⟨h, 2, none⟩ = some (.map (some r)) := Cb.cell hs.hi 2
  have hmx : maxLen = 9223372036854775807 := rfl
  have hhl := hs.hi.lt
  have hHi := hs.hi
  go_enter Tryz.func53, Tryz.ntmps53
  go_wp2_with fail
  refine (keys88_any r w).mono ?_
  rintro _ _ ⟨rfl, rfl⟩
  go_wp2_with fail
  refine (sorted88_any hf (by omega)).mono ?_
  rintro _ w2 ⟨v, ks, rfl, hKL, hkl, hrow, hk2⟩
  have hKR := hKL.cast hF.some
  obtain ⟨av, cv, hav⟩ : ∃ a c, v = .slice a ks.length c := by
    rcases hrow.2 with ⟨h1, h2⟩ | ⟨g, cap, cur, h1, _⟩
    · exact ⟨none, 0, by rw [h1, h2]⟩
    · exact ⟨_, _, h1⟩
  subst hav
  clear c2
  go_wp2
  go_loopw [13, 3] (fun iv v wr => ∃ (k : Nat), iv = .int .i64 k ∧ k ≤ ks.length ∧ Kx (fun _ => False) w2 wr ∧ wr.ownsRow w2.heap.size 46 2 v k (refsV S.ref (ks.take k))) (fun iv _ _ => ks.length - (intOf iv).toNat)
  case atStart => exact ⟨0, rfl, by omega, Kx.refl _ _, World.ownsRow_nil _ _ _ _⟩
  case round =>
    obtain ⟨k, rfl, hk, hkx, hown⟩ := hrel
    have hk0 := hk2.trans hkx
    by_cases hlt : k < ks.length
    · have hlt2 : (k : Int) < (ks.length : Int) := by omega
      obtain ⟨g, cap, he, hck⟩ := row_cell (own_kept' hrow hkx (fun _ _ _ => id)) k hlt
      cases he
      have HL : Hid (refsV S.ref (ks.take (k + 1)) = refsV S.ref (ks.take k) ++ refC S.ref ks[k]) := refsV_succ S.ref ks k hlt
      have hmem := (hKR.mem ks[k]).1 (List.getElem_mem hlt)
      obtain ⟨cm, hcm⟩ := Option.isSome_iff_exists.1 hmem
      obtain ⟨b, hb, hC⟩ := (hF ks[k]).2 cm hcm
      have HI : Hid (refC S.ref ks[k] = [.string ⟨ks[k].toArray⟩, .string ⟨(Sh.hex cm.sum).toArray⟩]) := by
        show _ = _
        unfold refC idAt
        rw [hcm]
        rfl
      have hidc := (hk0.cell (p := ⟨b, 2, none⟩) (lt_of_cell (p := ⟨b, 2, none⟩) hC.id) id).trans hC.id
      have hfr := hf.kept hk0 id
      have c2 : wr.cell? ⟨h, 2, none⟩ = some (.map (some r)) := Cb.cell (hHi.kept hk0 id) 2
      have hlen : ks[k].length ≤ maxLen := hf.keyLen (by kernel_rfl) hb
      clear hcm hmem
      unfold ptrV at hb
      generalize ks[k] = nm at *
      generalize Sh.hex cm.sum = idd at *
      have hgv : (f nm).getD (.pointer none) = .pointer (some ⟨b, 0, none⟩) := by rw [hb]; rfl
      go_wp2_with (first | refine wpList_lookS rfl _ _ 147 rfl 101 (by kernel_rfl) (by kernel_rfl) (.pointer none) (by kernel_rfl) r n f rfl hfr nm rfl hlen ?_ | (at_builtin; refine wpList_append_own _ rfl (.tmp 17) (.tmp 30) 41 rfl w2.heap.size 46 i0 _ 2 32 Tryz.underlying41 hi0 hz0 hz1 hz2 rfl (by decide) _ k (refsV S.ref (ks.take k)) rfl (hown.alloc _) ⟨wr.heap.size, 0, none⟩ 1 1 [.string ⟨nm.toArray⟩, .string ⟨idd.toArray⟩] rfl rfl ?c1 ?c2 ?c3 ?c4 ?c5 ?_))
      case c1 => exact cells_new wr [.string ⟨nm.toArray⟩, .string ⟨idd.toArray⟩] 46
      case c2 => simp [Value.oneCell']
      case c3 => unfold maxLen; omega
      case c4 => omega
      case c5 => have := hkx.size; simp; omega
      intro v4 w4 hown4 hgrow4 _
      have hk4 : Kx (fun _ => False) w2 w4 := (hkx.alloc _).grown hgrow4 (fun k he => (hown.lt k he).1)
      have hown5 : w4.ownsRow w2.heap.size 46 2 v4 (k + 1) (refsV S.ref (ks.take (k + 1))) := by rw [HL.out, HI.out]; exact hown4
      clear hown4 hgrow4
      go_wp2
      go_roundw
      case rel => exact ⟨k + 1, by go_num, hlt, hk4, hown5⟩
      case measure => simp [intOf]; omega
    · obtain rfl : k = ks.length := by omega
      have hlt2 : ¬ (ks.length : Int) < (ks.length : Int) := by omega
      rw [List.take_of_length_le (Nat.le_refl _)] at hown
      go_wp2
      go_ret
      exact ⟨_, rfl, ks, hKR, hkl, own_mono hown hk2.size, hk0⟩

theorem refs_any' {M : Nat → Prop} {w : World} {s h o c r t n : Nat} {S : St} {j : List UInt8} {vj : Value} (hs : Str M w s h o c r t n S j vj) (hn : n ≤ 30000000000) :
    Calls Tryz.prog 26 #[.pointer (some ⟨s, 0, none⟩)] w fun e w' => ∃ v ks, e = .returned v ∧ KeyL S.ref ks ∧ ks.length ≤ n ∧ w'.ownsRow w.heap.size 46 2 v ks.length (refsV S.ref ks) ∧ Kx (fun _ => False) w w' := by
  have c0 : w.cell? ⟨s, 0, none⟩ = some (.pointer (some ⟨h, 0, none⟩)) := Cb.cell hs.jr.blk 0
  have hc := hrefs_any hs.sto hn
  go_enter Tryz.func26, Tryz.ntmps26
  go_wp2_with fail
  refine hc.mono ?_
  rintro _ w2 ⟨v, ks, rfl, h1, h2, h3, h4⟩
  clear hc
  go_wp2
  go_ret
  exact ⟨v, ks, rfl, h1, h2, h3, h4⟩

theorem hids_any {M : Nat → Prop} {w : World} {h o c r t n : Nat} {S : St} (hs : Sto M w h o c r t n S) (hn : n ≤ 30000000000) :
    Calls Tryz.prog 59 #[.pointer (some ⟨h, 0, none⟩)] w fun e w' => ∃ v ks, e = .returned v ∧ KeyL S.obj ks ∧ ks.length ≤ n ∧ w'.ownsRow (w.heap.size + 1) 9 1 v ks.length (strsV ks) ∧ Kx (fun _ => False) w w' := by
  have c2 : w.cell? ⟨h, 0, none⟩ = some (.map (some o)) := Cb.cell hs.hi 0
  have hc := sorted91_any hs.obj (by omega)
  go_enter Tryz.func59, Tryz.ntmps59
  go_wp2_with fail
  refine (keys91_any o w).mono ?_
  rintro _ _ ⟨rfl, rfl⟩
  go_wp2_with fail
  refine hc.mono ?_
  rintro _ w2 ⟨v, ks, rfl, hKL, hkl, hrow, hk2⟩
  clear hc c2
  go_wp2
  go_ret
  exact ⟨v, ks, rfl, hKL.cast (fun k => by unfold objF; cases S.obj k <;> rfl), hkl, hrow, hk2⟩

theorem ids_any {M : Nat → Prop} {w : World} {s h o c r t n : Nat} {S : St} {j : List UInt8} {vj : Value} (hs : Str M w s h o c r t n S j vj) (hn : n ≤ 30000000000) :
    Calls Tryz.prog 34 #[.pointer (some ⟨s, 0, none⟩)] w fun e w' => ∃ v ks, e = .returned v ∧ KeyL S.obj ks ∧ ks.length ≤ n ∧ w'.ownsRow (w.heap.size + 1) 9 1 v ks.length (strsV ks) ∧ Kx (fun _ => False) w w' := by
  have c0 : w.cell? ⟨s, 0, none⟩ = some (.pointer (some ⟨h, 0, none⟩)) := Cb.cell hs.jr.blk 0
  have hc := hids_any hs.sto hn
  go_enter Tryz.func34, Tryz.ntmps34
  go_wp2_with fail
  refine hc.mono ?_
  rintro _ w2 ⟨v, ks, rfl, h1, h2, h3, h4⟩
  clear hc
  go_wp2
  go_ret
  exact ⟨v, ks, rfl, h1, h2, h3, h4⟩

end Go.Proofs.YtepgoppgblfjbaaGreatDoor
