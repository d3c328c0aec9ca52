import Derived.Test.YtepgoppgblfjbaaGreatDoorGw22
namespace Go.Proofs.YtepgoppgblfjbaaGreatDoor

theorem treeF_len2 (KK : List Int) : ∀ (n : Nat) (l : List Fi), Fine l → (Pf.treeF KK n l).1.length ≤ 200 * l.length
  | 0, _, _ => by simp [Pf.treeF]
  | _ + 1, [], _ => by simp [Pf.treeF]
  | n + 1, f :: r, h => by
    have hf := h f (by simp)
    have hcl := cut_len f.path
    unfold Pf.treeF
    split
    · rename_i hc
      have hb := below_cons f r hc
      have := treeF_len2 KK n ((f :: r).drop (Pf.below ((Lib.cut f.path [47]).1 ++ [47]) (f :: r)).length) (h.drop _)
      simp only [List.length_append, Pf.entry, List.length_cons, List.length_nil, ofK_len, List.length_drop] at this ⊢
      omega
    · have := treeF_len2 KK n r (fun x hx => h x (List.mem_cons_of_mem _ hx))
      simp only [List.length_append, Pf.entry, List.length_cons, List.length_nil] at this ⊢
      omega

def ObC (o : List UInt8 → Option (Nat × List UInt8)) : Prop := ∀ k x, o k = some x → x.2.length ≤ 14000

mutual
def TrC : Tr → Prop
  | .mk c ws => c.length ≤ 14000 ∧ TrsC ws
def TrsC : Trs → Prop
  | .nil => True
  | .cons t r => TrC t ∧ TrsC r
end

theorem treeF_c (KK : List Int) : ∀ (n : Nat) (l : List Fi), Fine l → l.length ≤ 60 → TrsC (Pf.treeF KK n l).2
  | 0, _, _, _ => by simp [Pf.treeF, TrsC]
  | _ + 1, [], _, _ => by simp [Pf.treeF, TrsC]
  | n + 1, f :: r, h, hl => by
    cases hc : (Lib.cut f.path [47]).2.2
    · rw [treeF_file KK n f r hc]
      exact treeF_c KK n r (fun x hx => h x (List.mem_cons_of_mem _ hx)) (by rw [List.length_cons] at hl; omega)
    · rw [treeF_dir KK n f r hc]
      have hle := below_le ((Lib.cut f.path [47]).1 ++ [47]) (f :: r)
      have h1 := treeF_len2 KK n _ (h.below (head := (Lib.cut f.path [47]).1 ++ [47]))
      show TrC _ ∧ TrsC _
      refine ⟨⟨by omega, treeF_c KK n _ h.below (by omega)⟩, treeF_c KK n _ (h.drop _) (by rw [List.length_drop]; omega)⟩

structure KnC (com : List UInt8 → Option Com) (c : Com) : Prop where
  com : com (Sh.hex c.sum) ≠ none
  sum : c.sum.length = 32
  ok : FOk c.files

structure Kn (w : Wk) : Prop where
  ref : ∀ k c, w.st.ref k = some c → KnC w.st.com c
  ms : ∀ m c, w.ms m = some (.com c) → KnC w.st.com c
  bl : ∀ m s, w.ms m = some (.blob s) → s.length = 32
  obj : ObC w.st.obj

structure StK (S : St) : Prop where
  ref : ∀ k c, S.ref k = some c → KnC S.com c
  obj : ObC S.obj

theorem StK.empty : StK St.empty := ⟨fun _ _ h => (by cases h), fun _ _ h => (by cases h)⟩

theorem KnC.more {com com' : List UInt8 → Option Com} {c : Com} (h : KnC com c) (hm : ∀ k, com k ≠ none → com' k ≠ none) : KnC com' c := ⟨hm _ h.com, h.sum, h.ok⟩

theorem FOk.nil : FOk [] := ⟨by simp [Own1], Nat.zero_le _, fun f hf => by cases hf⟩

namespace Pd
theorem add_c {KK : List Int} {kind : Nat} {c : List UInt8} {o : List UInt8 → Option (Nat × List UInt8)} (h : ObC o) (hc : c.length ≤ 14000) : ObC (add KK kind c o) := by
  intro k x hk
  unfold add at hk
  by_cases e : k = Sh.idK KK kind c
  · rw [e, upd_same] at hk
    cases hk
    exact hc
  · rw [upd_other _ _ _ _ e] at hk
    exact h k x hk

mutual
theorem addTr_c {KK : List Int} : ∀ (t : Tr) {o : List UInt8 → Option (Nat × List UInt8)}, TrC t → ObC o → ObC (addTr KK t o)
  | .mk c ws, o, ht, h => by
    unfold addTr
    exact addTrs_c ws ht.2 (add_c h ht.1)
theorem addTrs_c {KK : List Int} : ∀ (ts : Trs) {o : List UInt8 → Option (Nat × List UInt8)}, TrsC ts → ObC o → ObC (addTrs KK ts o)
  | .nil, o, _, h => by
    unfold addTrs
    exact h
  | .cons t r, o, ht, h => by
    unfold addTrs
    exact addTrs_c r ht.2 (addTr_c t ht.1 h)
end

theorem addObj_k {KK : List Int} {kind : Nat} {c : List UInt8} {w : Wk} (h : Kn w) (hc : c.length ≤ 14000) : Kn (addObj KK kind c w) := ⟨h.ref, h.ms, h.bl, add_c h.obj hc⟩

theorem change1_k {KK : List Int} {w : Wk} {l : List Fi} {c : Pu.Ch} (h : Kn w) (hl : FOk l) (hc : ChOk c) : Kn (change1 KK w l c).2.1 ∧ ((change1 KK w l c).1 = 0 → FOk (change1 KK w l c).2.2) := by
  have h1 := hc.path
  have h2 := hc.mode
  have h3 := hc.data
  unfold change1
  split
  · split
    · exact ⟨addObj_k h (by omega), fun e => hl.put _ (ofK_len _ _) (by show c.path.length ≤ 100; omega) h2 e⟩
    · split
      · rename_i s hs
        exact ⟨h, fun e => hl.put _ (h.bl _ _ hs) (by show c.path.length ≤ 100; omega) h2 e⟩
      · exact ⟨h, fun e => by cases e⟩
  · split
    · exact ⟨h, fun _ => hl.delete _⟩
    · split
      · exact ⟨h, fun e => hl.copy e⟩
      · split
        · exact ⟨h, fun e => hl.moved e⟩
        · exact ⟨h, fun _ => FOk.nil⟩

theorem changes_k {KK : List Int} : ∀ (cs : List Pu.Ch) {w : Wk} {l : List Fi}, Kn w → FOk l → (∀ c ∈ cs, ChOk c) → Kn (changes KK w l cs).2.1 ∧ ((changes KK w l cs).1 = 0 → FOk (changes KK w l cs).2.2)
  | [], w, l, h, hl, _ => ⟨h, fun _ => hl⟩
  | c :: r, w, l, h, hl, hc => by
    obtain ⟨h1, h2⟩ := change1_k (KK := KK) h hl (hc c (List.mem_cons_self ..))
    unfold changes
    split
    · rename_i h0
      exact changes_k r h1 (h2 h0) (fun x hx => hc x (List.mem_cons_of_mem _ hx))
    · exact ⟨h1, h2⟩

theorem change1_com {KK : List Int} {w : Wk} {l : List Fi} {c : Pu.Ch} : (change1 KK w l c).2.1.st.com = w.st.com := by
  unfold change1
  split
  · split
    · rfl
    · split <;> rfl
  · split
    · rfl
    · split
      · rfl
      · split <;> rfl
theorem changes_com {KK : List Int} : ∀ (cs : List Pu.Ch) {w : Wk} {l : List Fi}, (changes KK w l cs).2.1.st.com = w.st.com
  | [], _, _ => rfl
  | c :: r, w, l => by
    unfold changes
    split
    · rw [changes_com r, change1_com]
    · exact change1_com

theorem comOf_k {w : Wk} (h : Kn w) {x : Pu.Wh} {c : Com} (hc : comOf w x = some c) : KnC w.st.com c := by
  unfold comOf at hc
  split at hc
  · exact h.ref _ _ hc
  · split at hc
    · rename_i d hd
      cases hc
      exact h.ms _ _ hd
    · cases hc

theorem merged_k {w : Wk} (h : Kn w) : ∀ (xs : List Pu.Wh) {m : List Com}, merged w xs = some m → m.length = xs.length ∧ ∀ p ∈ m, KnC w.st.com p
  | [], m, hm => by
    cases hm
    exact ⟨rfl, fun p hp => by cases hp⟩
  | x :: r, m, hm => by
    unfold merged at hm
    split at hm
    · cases hm
    · rename_i c hc
      cases hr : merged w r with
      | none => rw [hr] at hm; cases hm
      | some m' =>
        rw [hr] at hm
        cases hm
        obtain ⟨h1, h2⟩ := merged_k h r hr
        refine ⟨by rw [List.length_cons, List.length_cons, h1], fun p hp => ?_⟩
        rcases List.mem_cons.1 hp with e | hp
        · rw [e]; exact comOf_k h hc
        · exact h2 p hp

theorem first_k {w : Wk} (h : Kn w) {c : Pu.Co} {f : Option Com} (hf : first w c = some f) : ∀ p, f = some p → KnC w.st.com p := by
  intro p hp
  subst hp
  unfold first at hf
  split at hf
  · exact h.ref _ _ (Option.some.inj hf)
  · cases hx : comOf w c.frm with
    | none => rw [hx] at hf; cases hf
    | some y =>
      rw [hx] at hf
      cases hf
      exact comOf_k h hx

theorem parents_k {w : Wk} (h : Kn w) {c : Pu.Co} {ps : List Com} {l : List Fi} (hm : c.merges.length ≤ 3) (hp : parents w c = some (ps, l)) : ps.length ≤ 4 ∧ (∀ p ∈ ps, KnC w.st.com p) ∧ FOk l := by
  unfold parents at hp
  split at hp
  · cases hp
  · rename_i f hf
    split at hp
    · cases hp
    · rename_i m hmm
      obtain ⟨h1, h2⟩ := merged_k h _ hmm
      have h3 := first_k h hf
      cases hp
      cases f with
      | none => exact ⟨by simp; omega, fun p hp => h2 p (by simpa using hp), FOk.nil⟩
      | some y =>
        refine ⟨by simp; omega, fun p hp => ?_, (h3 y rfl).ok⟩
        rcases List.mem_append.1 hp with hp | hp
        · simp at hp
          rw [hp]
          exact h3 y rfl
        · exact h2 p hp

theorem Kn.com {w : Wk} (h : Kn w) {x : Com} {id ref : List UInt8} {mark : Int} {o : List UInt8 → Option (Nat × List UInt8)} (hid : Sh.hex x.sum = id) (hsm : x.sum.length = 32) (hf : FOk x.files) (ho : ObC o) :
    Kn ⟨⟨o, upd w.st.com id (some x), upd w.st.ref ref (some x), w.st.tag⟩, upd w.ms mark (some (.com x))⟩ := by
  have hx : KnC (upd w.st.com id (some x)) x := ⟨by rw [hid, upd_same]; simp, hsm, hf⟩
  have hmo : ∀ k, w.st.com k ≠ none → upd w.st.com id (some x) k ≠ none := fun k hn => by
    by_cases e : k = id
    · rw [e, upd_same]; simp
    · rw [upd_other _ _ _ _ e]; exact hn
  refine ⟨fun k d hd => ?_, fun m d hd => ?_, fun m s hm => ?_, ho⟩
  · simp only at hd ⊢
    by_cases e : k = ref
    · rw [e, upd_same] at hd
      rw [← Option.some.inj hd]
      exact hx
    · rw [upd_other _ _ _ _ e] at hd
      exact (h.ref k d hd).more hmo
  · simp only at hd ⊢
    by_cases e : m = mark
    · rw [e, upd_same] at hd
      have e2 : Mkd.com x = Mkd.com d := Option.some.inj hd
      cases e2
      exact hx
    · rw [upd_other _ _ _ _ e] at hd
      exact (h.ms m d hd).more hmo
  · simp only at hm
    by_cases e : m = mark
    · rw [e, upd_same] at hm
      have e2 : Mkd.com x = Mkd.blob s := Option.some.inj hm
      cases e2
    · rw [upd_other _ _ _ _ e] at hm
      exact h.bl m s hm

theorem comText_len {tree : List UInt8} {ps : List Com} {au : Au} {msg : List UInt8} (h1 : tree.length = 32) (hp : ps.length ≤ 4) (hk : ∀ p ∈ ps, p.sum.length = 32) (a1 : au.name.length ≤ 1000) (a2 : au.mail.length ≤ 1000) (a3 : 0 ≤ au.time ∧ au.time ≤ 9999999999) (h2 : msg.length ≤ 1000) : (comText tree ps au msg).length ≤ 14000 := by
  have h5 := parentL_len ps hk ps.length
  rw [List.take_length] at h5
  have h3 : (Pf.line au).length ≤ 2100 := by
    unfold Pf.line
    simp only [List.length_append, List.length_cons, List.length_nil]
    have := Lib.itoa_length_le au.time (by omega) (by omega)
    omega
  unfold comText
  simp only [List.length_append, List.length_cons, List.length_nil, hex_len]
  omega

theorem commitOf_k {KK : List Int} {w : Wk} {ps : List Com} {l : List Fi} {c : Pu.Co} (h : Kn w) (hp : ps.length ≤ 4) (hk : ∀ p ∈ ps, KnC w.st.com p) (hl : FOk l) (hc : CoOk c) : Kn (commitOf KK w ps l c) := by
  have htr : TrC (.mk (Pf.tree KK l).1 (Pf.tree KK l).2) := ⟨by have := treeF_len2 KK (Pf.weight l) l hl.fine; have := hl.len; unfold Pf.tree; omega, treeF_c KK _ l hl.fine hl.len⟩
  have htx := comText_len (tree := sum KK 2 (Pf.tree KK l).1) (ofK_len _ _) hp (fun p hp => (hk p hp).sum) hc.name hc.mail hc.time hc.data
  exact Kn.com h rfl (ofK_len _ _) hl (add_c (addTr_c _ htr h.obj) htx)

theorem tagText_len {c : Com} {name msg : List UInt8} (h1 : c.sum.length = 32) (h2 : name.length ≤ 1000) (h3 : msg.length ≤ 1000) : (tagText c name msg).length ≤ 14000 := by
  unfold tagText
  simp only [List.length_append, List.length_cons, List.length_nil, hex_len]
  omega

theorem one_k {KK : List Int} {w : Wk} {c : Pu.Co} (h : Kn w) (hc : CoOk c) : Kn (one KK w c).2 := by
  have hd := hc.data
  unfold one
  split
  · unfold blob
    split
    · exact h
    · have h1 := addObj_k (KK := KK) (kind := 1) h (show c.data.length ≤ 14000 by omega)
      refine ⟨h1.ref, fun m d hm => ?_, fun m s hm => ?_, h1.obj⟩
      · simp only at hm
        by_cases e : m = c.mark
        · rw [e] at hm
          simp [upd] at hm
        · simp [upd, e] at hm
          exact h1.ms m d hm
      · simp only at hm
        by_cases e : m = c.mark
        · rw [e] at hm
          simp [upd] at hm
          rw [← hm]
          exact ofK_len _ _
        · simp [upd, e] at hm
          exact h1.bl m s hm
  · split
    · unfold commit
      split
      · exact h
      · split
        · exact h
        · rename_i ps l hp
          obtain ⟨h1, h2, h3⟩ := parents_k h hc.merges.1 hp
          obtain ⟨h4, h5⟩ := changes_k (KK := KK) c.changes h h3 hc.changes.2
          split
          · rename_i h0
            exact commitOf_k h4 h1 (fun p hp => by rw [changes_com]; exact h2 p hp) (h5 h0) hc
          · exact h
    · split
      · unfold tag
        split
        · exact h
        · rename_i x hx
          exact ⟨h.ref, h.ms, h.bl, add_c h.obj (tagText_len (comOf_k h hx).sum hc.ref hd)⟩
      · split
        · unfold reset
          split
          · refine ⟨fun k d hk => ?_, h.ms, h.bl, h.obj⟩
            simp only at hk
            by_cases e : k = c.ref
            · rw [e, upd_same] at hk; cases hk
            · rw [upd_other _ _ _ _ e] at hk
              exact h.ref k d hk
          · split
            · exact h
            · rename_i x hx
              refine ⟨fun k d hk => ?_, h.ms, h.bl, h.obj⟩
              simp only at hk
              by_cases e : k = c.ref
              · rw [e, upd_same] at hk
                cases hk
                exact comOf_k h hx
              · rw [upd_other _ _ _ _ e] at hk
                exact h.ref k d hk
        · exact h

theorem all_k {KK : List Int} : ∀ (cs : List Pu.Co) {w : Wk} (n : Nat), Kn w → (∀ c ∈ cs, CoOk c) → Kn (all KK w cs n).2
  | [], w, n, h, _ => h
  | c :: r, w, n, h, hc => by
    unfold all
    split
    · exact all_k r _ (one_k h (hc c (List.mem_cons_self ..))) (fun x hx => hc x (List.mem_cons_of_mem _ hx))
    · exact h

theorem imp_k {KK : List Int} {S : St} (x : List UInt8) (h : StK S) : StK (imp KK S x).2 := by
  have h0 : Kn ⟨S, fun _ => none⟩ := ⟨h.ref, fun _ _ hm => (by cases hm), fun _ _ hm => (by cases hm), h.obj⟩
  unfold imp
  split
  · split
    · have h1 := all_k (KK := KK) (Pu.commands x) 0 h0 (Pu.readAllV_fine _ _ _)
      exact ⟨h1.ref, h1.obj⟩
    · exact h
  · exact h
end Pd

namespace Pu

def refsL : List (List UInt8) := [[109, 97, 105, 110], [115, 105, 100, 101], [120, 47, 121]]
def pathsL : List (List UInt8) := [[97], [97, 47, 98], [97, 47, 98, 47, 99], [100], [100, 47, 101], [102, 46, 120], [102]]
def dig (n : Nat) : List UInt8 := if n < 10 then [UInt8.ofNat (48 + n)] else [UInt8.ofNat (48 + n / 10), UInt8.ofNat (48 + n % 10)]
def changeS (kB : Nat) (p q : List UInt8) (d : Nat) : List UInt8 :=
  if kB = 6 then [68, 32] ++ p ++ [10]
  else if kB = 7 then [67, 32] ++ p ++ [32] ++ q ++ [10]
  else if kB = 8 then [82, 32] ++ p ++ [32] ++ q ++ [10]
  else if kB = 9 then [100, 101, 108, 101, 116, 101, 97, 108, 108, 10]
  else [77, 32] ++ (if d % 5 = 4 then s755 else s644) ++ [32, 105, 110, 108, 105, 110, 101, 32] ++ p ++ [10, 100, 97, 116, 97, 32] ++ dig (dig d).length ++ [10] ++ dig d ++ [10]
def headS (r : List UInt8) (n : Nat) : List UInt8 :=
  [99, 111, 109, 109, 105, 116, 32] ++ r ++ [10, 109, 97, 114, 107, 32, 58] ++ dig n ++ [10, 97, 117, 116, 104, 111, 114, 32, 65, 32, 66, 32, 60, 97, 64, 98, 62, 32] ++ dig n ++ [10, 100, 97, 116, 97, 32, 49, 10, 109, 10]
def commandS (k : Nat) (r o : List UInt8) (n t : Nat) (c : List UInt8) : List UInt8 :=
  if k < 6 then headS r n ++ c ++ [10]
  else if k = 6 then [114, 101, 115, 101, 116, 32] ++ r ++ [10, 102, 114, 111, 109, 32] ++ o ++ [10, 10]
  else if k = 7 then [116, 97, 103, 32, 116] ++ dig t ++ [10, 102, 114, 111, 109, 32] ++ o ++ [10, 100, 97, 116, 97, 32, 48, 10, 10]
  else headS r n ++ [109, 101, 114, 103, 101, 32] ++ o ++ [10, 10]

theorem heads_ok : (refsL.all fun r => (List.range 12).all fun n => commitA (headS r (n + 1)) false == ([], false)) = true := by kernel_rfl
theorem words_ok : (refsL.all fun r => (List.range 12).all fun n => word (headS r (n + 1)) == sCommit) = true := by kernel_rfl
theorem resets_ok : (refsL.all fun r => refsL.all fun o => readOne ([114, 101, 115, 101, 116, 32] ++ r ++ [10, 102, 114, 111, 109, 32] ++ o ++ [10, 10]) false == ([], false)) = true := by kernel_rfl
theorem tags_ok : ((List.range 3).all fun t => refsL.all fun o => readOne ([116, 97, 103, 32, 116] ++ dig t ++ [10, 102, 114, 111, 109, 32] ++ o ++ [10, 100, 97, 116, 97, 32, 48, 10, 10]) false == ([], false)) = true := by kernel_rfl
theorem merges_ok : (refsL.all fun o => commitB ([109, 101, 114, 103, 101, 32] ++ o ++ [10, 10]) false == ([], false)) = true := by kernel_rfl
theorem dels_ok : (pathsL.all fun p => commitB (changeS 6 p [] 0 ++ [10]) false == ([], false)) = true := by kernel_rfl
theorem copies_ok : (pathsL.all fun p => pathsL.all fun q => commitB (changeS 7 p q 0 ++ [10]) false == ([], false)) = true := by kernel_rfl
theorem moves_ok : (pathsL.all fun p => pathsL.all fun q => commitB (changeS 8 p q 0 ++ [10]) false == ([], false)) = true := by kernel_rfl
theorem all_ok : (commitB (changeS 9 [] [] 0 ++ [10]) false == ([], false)) = true := by kernel_rfl
theorem puts_ok : (pathsL.all fun p => (List.range 30).all fun d => commitB (changeS 0 p [] d ++ [10]) false == ([], false)) = true := by kernel_rfl

end Pu

namespace Pu

theorem heads_len : (refsL.all fun r => (List.range 12).all fun n => decide ((headS r (n + 1)).length ≤ 100)) = true := by kernel_rfl
theorem resets_len : (refsL.all fun r => refsL.all fun o => decide (([114, 101, 115, 101, 116, 32] ++ r ++ [10, 102, 114, 111, 109, 32] ++ o ++ [10, 10]).length ≤ 100) && !(word ([114, 101, 115, 101, 116, 32] ++ r ++ [10, 102, 114, 111, 109, 32] ++ o ++ [10, 10]) == sDone)) = true := by kernel_rfl
theorem tags_len : ((List.range 3).all fun t => refsL.all fun o => decide (([116, 97, 103, 32, 116] ++ dig t ++ [10, 102, 114, 111, 109, 32] ++ o ++ [10, 100, 97, 116, 97, 32, 48, 10, 10]).length ≤ 100) && !(word ([116, 97, 103, 32, 116] ++ dig t ++ [10, 102, 114, 111, 109, 32] ++ o ++ [10, 100, 97, 116, 97, 32, 48, 10, 10]) == sDone)) = true := by kernel_rfl
theorem merges_len : (refsL.all fun o => decide (([109, 101, 114, 103, 101, 32] ++ o ++ [10, 10]).length ≤ 100)) = true := by kernel_rfl
theorem dels_len : (pathsL.all fun p => decide ((changeS 6 p [] 0 ++ [10]).length ≤ 100)) = true := by kernel_rfl
theorem copies_len : (pathsL.all fun p => pathsL.all fun q => decide ((changeS 7 p q 0 ++ [10]).length ≤ 100)) = true := by kernel_rfl
theorem moves_len : (pathsL.all fun p => pathsL.all fun q => decide ((changeS 8 p q 0 ++ [10]).length ≤ 100)) = true := by kernel_rfl
theorem puts_len : (pathsL.all fun p => (List.range 30).all fun d => decide ((changeS 0 p [] d ++ [10]).length ≤ 100)) = true := by kernel_rfl

structure Good (c : List UInt8) : Prop where
  read : readOne c false = ([], false)
  word : (word c == sDone) = false
  len : c.length ≤ 200

theorem commit_good (r : List UInt8) (n : Nat) (x : List UInt8) (hr : r ∈ refsL) (hn : 1 ≤ n ∧ n ≤ 12) (hx : commitB x false = ([], false)) (hl : x.length ≤ 100) : Good (headS r n ++ x) := by
  obtain ⟨k, rfl⟩ : ∃ k, n = k + 1 := ⟨n - 1, by omega⟩
  have hk : k ∈ List.range 12 := List.mem_range.2 (by omega)
  have h1 : commitA (headS r (k + 1)) false = ([], false) := beq_iff_eq.1 (List.all_eq_true.1 (List.all_eq_true.1 heads_ok r hr) k hk)
  have h2 : word (headS r (k + 1)) = sCommit := beq_iff_eq.1 (List.all_eq_true.1 (List.all_eq_true.1 words_ok r hr) k hk)
  have h3 : (headS r (k + 1)).length ≤ 100 := of_decide_eq_true (List.all_eq_true.1 (List.all_eq_true.1 heads_len r hr) k hk)
  obtain ⟨h4, h10, _⟩ := commitA_ext x (s := headS r (k + 1)) (bad := false) (by rw [h1])
  have hw : word (headS r (k + 1) ++ x) = sCommit := by rw [word_app x h10]; exact h2
  refine ⟨?_, ?_, ?_⟩
  · unfold readOne
    rw [hw]
    have e1 : (sCommit == sBlob) = false := by decide
    have e2 : (sCommit == sCommit) = true := by decide
    rw [e1, e2]
    simp only [Bool.false_eq_true, if_false, if_true]
    rw [readCommit_eq, h4, h1]
    exact hx
  · rw [hw]; decide
  · rw [List.length_append]; omega

theorem changeS_irrel (p q : List UInt8) (d : Nat) : changeS 6 p q d = changeS 6 p [] 0 ∧ changeS 7 p q d = changeS 7 p q 0 ∧ changeS 8 p q d = changeS 8 p q 0 ∧ changeS 9 p q d = changeS 9 [] [] 0 := ⟨rfl, rfl, rfl, rfl⟩

theorem changeS_put (kB : Nat) (p q : List UInt8) (d : Nat) (h : kB < 6) : changeS kB p q d = changeS 0 p [] d := by
  unfold changeS
  rw [if_neg (by omega), if_neg (by omega), if_neg (by omega), if_neg (by omega)]
  simp

theorem change_good (kB : Nat) (p q : List UInt8) (d : Nat) (hB : kB < 10) (hp : p ∈ pathsL) (hq : q ∈ pathsL) (hd : d < 30) :
    commitB (changeS kB p q d ++ [10]) false = ([], false) ∧ (changeS kB p q d ++ [10]).length ≤ 100 := by
  by_cases h6 : kB < 6
  · rw [changeS_put kB p q d h6]
    have hk : d ∈ List.range 30 := List.mem_range.2 hd
    exact ⟨beq_iff_eq.1 (List.all_eq_true.1 (List.all_eq_true.1 puts_ok p hp) d hk), of_decide_eq_true (List.all_eq_true.1 (List.all_eq_true.1 puts_len p hp) d hk)⟩
  have hc : kB = 6 ∨ kB = 7 ∨ kB = 8 ∨ kB = 9 := by omega
  obtain ⟨i6, i7, i8, i9⟩ := changeS_irrel p q d
  rcases hc with rfl | rfl | rfl | rfl
  · rw [i6]; exact ⟨beq_iff_eq.1 (List.all_eq_true.1 dels_ok p hp), of_decide_eq_true (List.all_eq_true.1 dels_len p hp)⟩
  · rw [i7]; exact ⟨beq_iff_eq.1 (List.all_eq_true.1 (List.all_eq_true.1 copies_ok p hp) q hq), of_decide_eq_true (List.all_eq_true.1 (List.all_eq_true.1 copies_len p hp) q hq)⟩
  · rw [i8]; exact ⟨beq_iff_eq.1 (List.all_eq_true.1 (List.all_eq_true.1 moves_ok p hp) q hq), of_decide_eq_true (List.all_eq_true.1 (List.all_eq_true.1 moves_len p hp) q hq)⟩
  · rw [i9]; exact ⟨beq_iff_eq.1 all_ok, by decide⟩

theorem command_good (k : Nat) (r o : List UInt8) (n t : Nat) (c : List UInt8) (hr : r ∈ refsL) (ho : o ∈ refsL) (hn : 1 ≤ n ∧ n ≤ 12) (ht : t < 3)
    (hc : commitB (c ++ [10]) false = ([], false) ∧ (c ++ [10]).length ≤ 100) : Good (commandS k r o n t c) := by
  unfold commandS
  split
  · rw [List.append_assoc]; exact commit_good r n _ hr hn hc.1 hc.2
  · split
    · have h1 := List.all_eq_true.1 (List.all_eq_true.1 resets_ok r hr) o ho
      have h2 := List.all_eq_true.1 (List.all_eq_true.1 resets_len r hr) o ho
      simp only [Bool.and_eq_true, Bool.not_eq_true', decide_eq_true_eq] at h2
      exact ⟨beq_iff_eq.1 h1, h2.2, Nat.le_trans h2.1 (by omega)⟩
    · split
      · have h1 := List.all_eq_true.1 (List.all_eq_true.1 tags_ok t (List.mem_range.2 ht)) o ho
        have h2 := List.all_eq_true.1 (List.all_eq_true.1 tags_len t (List.mem_range.2 ht)) o ho
        simp only [Bool.and_eq_true, Bool.not_eq_true', decide_eq_true_eq] at h2
        exact ⟨beq_iff_eq.1 h1, h2.2, Nat.le_trans h2.1 (by omega)⟩
      · rw [List.append_assoc, List.append_assoc]
        have h1 := beq_iff_eq.1 (List.all_eq_true.1 merges_ok o ho)
        have h2 := of_decide_eq_true (List.all_eq_true.1 merges_len o ho)
        rw [List.append_assoc] at h1 h2
        exact commit_good r n _ hr hn h1 h2

def streamS (cs : List (List UInt8)) : List UInt8 := cs.flatten ++ [100, 111, 110, 101, 10]

theorem stream_len : ∀ (cs : List (List UInt8)), (∀ c ∈ cs, Good c) → cs.flatten.length ≤ 200 * cs.length := by
  intro cs
  induction cs with
  | nil => intro _; simp
  | cons c cs ih =>
    intro h
    have h1 := (h c (List.mem_cons_self ..)).len
    have h2 := ih (fun c hc => h c (List.mem_cons_of_mem _ hc))
    simp only [List.flatten_cons, List.length_append, List.length_cons]
    omega

end Pu

end Go.Proofs.YtepgoppgblfjbaaGreatDoor
namespace Go.Proofs.YtepgoppgblfjbaaGreatDoor
open Go.RowKit

def pickN (c : Int) (n : Nat) : Nat := if c < 0 then (-(c + 1)).toNat % n else c.toNat % n

theorem pickN_lt (c : Int) (n : Nat) (h : 0 < n) : pickN c n < n := by
  unfold pickN; split <;> exact Nat.mod_lt _ h

theorem ret_int {k : IntKind} {a b : Int} (h : a = b) : Ending.returned (.int k a) = .returned (.int k b) := by rw [h]

theorem toNat_mod (x : Int) (n : Nat) (h : 0 ≤ x) : ((x.toNat % n : Nat) : Int) = x % (n : Int) := by
  obtain ⟨k, rfl⟩ := Int.eq_ofNat_of_zero_le h
  rw [Int.toNat_natCast]; rfl

set_option maxHeartbeats 400000 in
theorem pick_any (c : Int) (n : Nat) (w : World) (h1 : 0 < n) (h2 : n ≤ 8000) (hc1 : -9223372036854775808 ≤ c) (hc2 : c ≤ 9223372036854775807) :
    Calls Tryz.prog 19 #[.int .i64 c, .int .i64 (n : Int)] w fun e w' => e = .returned (.int .i64 (pickN c n : Nat)) ∧ w' = w := by
  by_cases h : c < 0
  · have HE : Hid ((pickN c n : Int) = -(c + 1).tmod (n : Int)) := by
      show _ = _
      unfold pickN
      rw [if_pos h, toNat_mod _ _ (by omega), ← Int.tmod_eq_emod_of_nonneg (by omega), Int.neg_tmod]
    have hn : ¬ (n : Int) = 0 := by omega
    go_enter Tryz.func19, Tryz.ntmps19
    go_wp2
    go_ret
    exact ⟨ret_int HE.out.symm, rfl⟩
  · have HE : Hid ((pickN c n : Int) = c % (n : Int)) := by
      show _ = _
      unfold pickN; rw [if_neg h, toNat_mod _ _ (by omega)]
    have hn : ¬ (n : Int) = 0 := by omega
    go_enter Tryz.func19, Tryz.ntmps19
    go_wp2
    go_ret
    exact ⟨ret_int HE.out.symm, rfl⟩

theorem app_str (a b : List UInt8) : (⟨a.toArray⟩ : ByteArray) ++ ⟨b.toArray⟩ = ⟨(a ++ b).toArray⟩ := by
  have h : ((⟨a.toArray⟩ : ByteArray) ++ ⟨b.toArray⟩).data = (a ++ b).toArray := by
    rw [ByteArray.data_append]; simp
  exact congrArg ByteArray.mk h

theorem conv_one (w : World) (x : Int) (u : UInt8) (h : (u.toNat : Int) = x) :
    (convert 58 9 (.slice (some ⟨w.heap.size, 0, none⟩) 1 1)).run Tryz.prog (w.alloc (.cells #[.int .u8 x] 5)) = .ok (.string ⟨#[u]⟩) (w.alloc (.cells #[.int .u8 x] 5)) := by
  subst h
  have h := run_convert_bytes_back (P := Tryz.prog) (w.alloc (.cells #[.int .u8 (u.toNat : Int)] 5)) 58 9 5 ⟨w.heap.size, 0, none⟩ 1 [u] Tryz.underlying58 Tryz.underlying5 Tryz.underlying9 (by
    intro j hj
    have hj0 : j = 0 := by simpa using hj
    subst hj0
    exact cells_new w [_] 5 0 _ rfl)
  exact h

set_option maxHeartbeats 400000 in
set_option maxRecDepth 100000 in
theorem digits_one (a : Int) (w : World) (h0 : 0 ≤ a) (h : a < 10) :
    Calls Tryz.prog 23 #[.int .i64 a] w fun e w' => e = .returned (.string ⟨(Pu.dig a.toNat).toArray⟩) ∧ ∀ X, Kx X w w' := by
  have hu : ((UInt8.ofNat (48 + a.toNat)).toNat : Int) = 48 + a % 10 := by
    rw [UInt8.toNat_ofNat']; omega
  have hcv := conv_one w (48 + a % 10) (UInt8.ofNat (48 + a.toNat)) hu
  have HE : Hid (Pu.dig a.toNat = [UInt8.ofNat (48 + a.toNat)]) := by show _ = _; unfold Pu.dig; rw [if_pos (by omega)]
  clear hu
  generalize UInt8.ofNat (48 + a.toNat) = u at *
  go_enter Tryz.func23, Tryz.ntmps23
  go_wp2
  go_ret
  exact ⟨by rw [HE.out]; rfl, fun X => (Kx.refl X w).alloc _⟩

set_option maxHeartbeats 400000 in
set_option maxRecDepth 100000 in
theorem digits_any (a : Int) (w : World) (h0 : 0 ≤ a) (h : a < 100) :
    Calls Tryz.prog 23 #[.int .i64 a] w fun e w' => e = .returned (.string ⟨(Pu.dig a.toNat).toArray⟩) ∧ ∀ X, Kx X w w' := by
  by_cases h10 : a < 10
  · exact digits_one a w h0 h10
  have hu : ((UInt8.ofNat (48 + a.toNat % 10)).toNat : Int) = 48 + a % 10 := by
    rw [UInt8.toNat_ofNat']; omega
  have hcv := conv_one w (48 + a % 10) (UInt8.ofNat (48 + a.toNat % 10)) hu
  have HE : Hid (Pu.dig a.toNat = [UInt8.ofNat (48 + a.toNat / 10), UInt8.ofNat (48 + a.toNat % 10)]) := by show _ = _; unfold Pu.dig; rw [if_neg (by omega)]
  have HD : Hid (Pu.dig (a / 10).toNat = [UInt8.ofNat (48 + a.toNat / 10)]) := by
    show _ = _
    unfold Pu.dig; rw [if_pos (by omega)]
    have : (a / 10).toNat = a.toNat / 10 := by omega
    rw [this]
  clear hu
  have happ := app_str
  generalize UInt8.ofNat (48 + a.toNat % 10) = u at *
  generalize UInt8.ofNat (48 + a.toNat / 10) = v at *
  go_enter Tryz.func23, Tryz.ntmps23
  go_wp2_with fail
  refine (digits_one (a / 10) _ (by omega) (by omega)).mono ?_
  rintro e w1 ⟨rfl, hk⟩
  rw [HD.out]
  go_wp2
  go_ret
  exact ⟨by rw [HE.out]; rfl, fun X => ((Kx.refl X w).alloc _).trans (hk X)⟩

structure Ls (L : List (List UInt8)) (w w' : World) : Prop where
  size : w'.heap.size = w.heap.size + 1
  tbl : Cb w.heap.size (L.map (fun x => Value.string ⟨x.toArray⟩)).toArray 9 w'
  kx : ∀ X, Kx X w w'

set_option maxHeartbeats 400000 in
theorem refs_any (w : World) :
    Calls Tryz.prog 76 #[] w fun e w' => e = .returned (.slice (some ⟨w.heap.size, 0, none⟩) 3 3) ∧ Ls Pu.refsL w w' := by
  go_enter Tryz.func76, Tryz.ntmps76
  go_wp2
  go_ret
  exact ⟨rfl, by simp, Cb.new _ _ _, fun X => (Kx.refl X w).alloc _⟩

set_option maxHeartbeats 400000 in
theorem paths_any (w : World) :
    Calls Tryz.prog 22 #[] w fun e w' => e = .returned (.slice (some ⟨w.heap.size, 0, none⟩) 7 7) ∧ Ls Pu.pathsL w w' := by
  go_enter Tryz.func22, Tryz.ntmps22
  go_wp2
  go_ret
  exact ⟨rfl, by simp, Cb.new _ _ _, fun X => (Kx.refl X w).alloc _⟩

def I64 (c : Int) : Prop := -9223372036854775808 ≤ c ∧ c ≤ 9223372036854775807

def pathAt (i : Nat) : List UInt8 := Pu.pathsL.getD i []
def refAt (i : Nat) : List UInt8 := Pu.refsL.getD i []

theorem pathAt_mem (i : Nat) (h : i < 7) : pathAt i ∈ Pu.pathsL := by
  have : i = 0 ∨ i = 1 ∨ i = 2 ∨ i = 3 ∨ i = 4 ∨ i = 5 ∨ i = 6 := by omega
  rcases this with rfl | rfl | rfl | rfl | rfl | rfl | rfl <;> decide
theorem refAt_mem (i : Nat) (h : i < 3) : refAt i ∈ Pu.refsL := by
  have : i = 0 ∨ i = 1 ∨ i = 2 := by omega
  rcases this with rfl | rfl | rfl <;> decide
theorem paths_short : ∀ p ∈ Pu.pathsL, p.length ≤ 5 := by decide
theorem refs_short : ∀ p ∈ Pu.refsL, p.length ≤ 4 := by decide

theorem pick_five (c : Int) : pickN c 5 = pickN c 30 % 5 := by
  unfold pickN
  split <;> rw [Nat.mod_mod_of_dvd _ (by decide : 5 ∣ 30)]

theorem dig_len (n : Nat) : (Pu.dig n).length ≤ 2 ∧ 1 ≤ (Pu.dig n).length := by unfold Pu.dig; split <;> simp

theorem ret_str {a b : List UInt8} (h : a = b) : Ending.returned (.string ⟨a.toArray⟩) = .returned (.string ⟨b.toArray⟩) := by rw [h]

theorem Ls.path {w w' : World} (h : Ls Pu.pathsL w w') (i : Nat) (hi : i < 7) : w'.cell? ⟨w.heap.size, i, none⟩ = some (.string ⟨(pathAt i).toArray⟩) := by
  have : i = 0 ∨ i = 1 ∨ i = 2 ∨ i = 3 ∨ i = 4 ∨ i = 5 ∨ i = 6 := by omega
  rcases this with rfl | rfl | rfl | rfl | rfl | rfl | rfl <;> exact h.tbl.cell _
theorem Ls.ref {w w' : World} (h : Ls Pu.refsL w w') (i : Nat) (hi : i < 3) : w'.cell? ⟨w.heap.size, i, none⟩ = some (.string ⟨(refAt i).toArray⟩) := by
  have : i = 0 ∨ i = 1 ∨ i = 2 := by omega
  rcases this with rfl | rfl | rfl <;> exact h.tbl.cell _

set_option maxHeartbeats 2000000 in
set_option maxRecDepth 100000 in
theorem changeL_aux (k A B C D : Int) (w : World) (hB : I64 B) (hC : I64 C) (hD : I64 D) (kB i1 i2 d5 d : Nat) (P1 P2 : List UInt8)
    (HB : Hid (pickN B 10 = kB)) (H1 : Hid (pickN C 7 = i1)) (H2 : Hid (pickN D 7 = i2)) (H5 : Hid (pickN D 5 = d5)) (H30 : Hid (pickN D 30 = d)) (HP1 : Hid (pathAt i1 = P1)) (HP2 : Hid (pathAt i2 = P2)) (HM : Hid (d5 = d % 5)) :
    Calls Tryz.prog 77 #[.agg #[.int .i64 k, .int .i64 A, .int .i64 B, .int .i64 C, .int .i64 D]] w fun e w' =>
      e = .returned (.string ⟨(Pu.changeS kB P1 P2 d).toArray⟩) ∧ ∀ X, Kx X w w' := by
  obtain ⟨hB1, hB2⟩ := hB
  obtain ⟨hC1, hC2⟩ := hC
  obtain ⟨hD1, hD2⟩ := hD
  have happ := app_str
  have hbox := Cb.new #[.int .i64 k, .int .i64 A, .int .i64 B, .int .i64 C, .int .i64 D] 38 w
  have hkb := fun X => (Kx.refl X w).alloc (.cells #[.int .i64 k, .int .i64 A, .int .i64 B, .int .i64 C, .int .i64 D] 38)
  have q1 : i1 < 7 := by rw [← H1.out]; exact pickN_lt C 7 (by omega)
  have q2 : i2 < 7 := by rw [← H2.out]; exact pickN_lt D 7 (by omega)
  have hd30 : d < 30 := by rw [← H30.out]; exact pickN_lt D 30 (by omega)
  have s1 : P1.length ≤ 5 := by rw [← HP1.out]; exact paths_short _ (pathAt_mem _ q1)
  have s2 : P2.length ≤ 5 := by rw [← HP2.out]; exact paths_short _ (pathAt_mem _ q2)
  go_enter Tryz.func77, Tryz.ntmps77
  go_wp2_with fail
  refine (paths_any _).mono ?_
  rintro e W ⟨rfl, hL⟩
  have hb2 := hbox.kept (hL.kx (fun _ => False)) id
  have hkW : ∀ X, Kx X w W := fun X => (hkb X).trans (hL.kx X)
  have p1 := hL.path i1 q1
  have p2 := hL.path i2 q2
  rw [World.size_alloc, HP1.out] at p1
  rw [World.size_alloc, HP2.out] at p2
  have a2 := hb2.cell 2
  have a3 := hb2.cell 3
  have a4 := hb2.cell 4
  clear hbox hkb hL
  go_wp2_with fail
  refine (pick_any C 7 _ (by omega) (by omega) hC1 hC2).mono ?_
  rintro e w1 ⟨rfl, rfl⟩
  rw [H1.out]
  go_wp2_with fail
  refine (pick_any D 7 _ (by omega) (by omega) hD1 hD2).mono ?_
  rintro e w1 ⟨rfl, rfl⟩
  rw [H2.out]
  go_wp2_with fail
  refine (pick_any B 10 _ (by omega) (by omega) hB1 hB2).mono ?_
  rintro e w1 ⟨rfl, rfl⟩
  rw [HB.out]
  by_cases h6 : kB = 6
  · subst h6
    go_wp2
    go_ret
    exact ⟨ret_str (by simp [Pu.changeS]), hkW⟩
  by_cases h7 : kB = 7
  · subst h7
    go_wp2
    go_ret
    exact ⟨ret_str (by simp [Pu.changeS]), hkW⟩
  by_cases h8 : kB = 8
  · subst h8
    go_wp2
    go_ret
    exact ⟨ret_str (by simp [Pu.changeS]), hkW⟩
  by_cases h9 : kB = 9
  · subst h9
    go_wp2
    go_ret
    exact ⟨ret_str (by simp [Pu.changeS]), hkW⟩
  have b6 : ((kB : Int) == 6) = false := beq_eq_false_iff_ne.2 (by omega)
  have b7 : ((kB : Int) == 7) = false := beq_eq_false_iff_ne.2 (by omega)
  have b8 : ((kB : Int) == 8) = false := beq_eq_false_iff_ne.2 (by omega)
  have b9 : ((kB : Int) == 9) = false := beq_eq_false_iff_ne.2 (by omega)
  have HS : Hid (Pu.changeS kB P1 P2 d = [77, 32] ++ (if d % 5 = 4 then Pu.s755 else Pu.s644) ++ [32, 105, 110, 108, 105, 110, 101, 32] ++ P1 ++ [10, 100, 97, 116, 97, 32] ++ Pu.dig (Pu.dig d).length ++ [10] ++ Pu.dig d ++ [10]) := by
    show _ = _
    unfold Pu.changeS
    rw [if_neg h6, if_neg h7, if_neg h8, if_neg h9]
  clear h6 h7 h8 h9
  go_wp2_with fail
  refine (pick_any D 5 _ (by omega) (by omega) hD1 hD2).mono ?_
  rintro e w1 ⟨rfl, rfl⟩
  rw [H5.out]
  obtain ⟨md, HMd, b4⟩ : ∃ md, Hid ((if d % 5 = 4 then Pu.s755 else Pu.s644) = md) ∧ ((((d5 : Int) == 4) = true ∧ md = [49, 48, 48, 55, 53, 53]) ∨ (((d5 : Int) == 4) = false ∧ md = [49, 48, 48, 54, 52, 52])) := by
    refine ⟨_, rfl, ?_⟩
    rw [HM.out]
    by_cases e : d % 5 = 4
    · left; rw [if_pos e, e]; exact ⟨rfl, rfl⟩
    · right; rw [if_neg e]; exact ⟨beq_eq_false_iff_ne.2 (by omega), rfl⟩
  rw [HMd.out] at HS
  obtain ⟨dd, HDD⟩ : ∃ dd, Hid (Pu.dig d = dd) := ⟨_, rfl⟩
  have hdd := dig_len d
  rw [HDD.out] at hdd HS
  obtain ⟨d2, HD2⟩ : ∃ d2, Hid (Pu.dig dd.length = d2) := ⟨_, rfl⟩
  have hd2 := dig_len dd.length
  rw [HD2.out] at hd2 HS
  rcases b4 with ⟨b4, rfl⟩ | ⟨b4, rfl⟩
  all_goals
    go_wp2_with fail
    refine (pick_any D 30 _ (by omega) (by omega) hD1 hD2).mono ?_
    rintro e w1 ⟨rfl, rfl⟩
    rw [H30.out]
    go_wp2_with fail
    refine (digits_any d _ (by omega) (by omega)).mono ?_
    rintro e w2 ⟨rfl, hk2⟩
    rw [Int.toNat_natCast, HDD.out]
    go_wp2_with fail
    refine (digits_any dd.length _ (by omega) (by omega)).mono ?_
    rintro e w3 ⟨rfl, hk3⟩
    rw [Int.toNat_natCast, HD2.out]
    go_wp2
    go_ret
    exact ⟨ret_str (by rw [HS.out]; simp), fun X => ((hkW X).trans (hk2 X)).trans (hk3 X)⟩

theorem changeL_any (k A B C D : Int) (w : World) (hB : I64 B) (hC : I64 C) (hD : I64 D) :
    Calls Tryz.prog 77 #[.agg #[.int .i64 k, .int .i64 A, .int .i64 B, .int .i64 C, .int .i64 D]] w fun e w' =>
      e = .returned (.string ⟨(Pu.changeS (pickN B 10) (pathAt (pickN C 7)) (pathAt (pickN D 7)) (pickN D 30)).toArray⟩) ∧ ∀ X, Kx X w w' :=
  changeL_aux k A B C D w hB hC hD _ _ _ _ _ _ _ rfl rfl rfl rfl rfl rfl rfl (pick_five D)

set_option maxHeartbeats 4000000 in
set_option maxRecDepth 100000 in
theorem commandL_aux (K A B C D : Int) (w : World) (hK : I64 K) (hA : I64 A) (hB : I64 B) (hC : I64 C) (hD : I64 D) (a n : Int) (nn kk ia ib : Nat) (R O G : List UInt8) (ha : a = n) (hn : n = (nn : Int)) (hnn : nn < 100)
    (HK : Hid (pickN K 9 = kk)) (HA : Hid (pickN A 3 = ia)) (HB : Hid (pickN B 3 = ib)) (HR : Hid (refAt ia = R)) (HO : Hid (refAt ib = O)) (HG : Hid (Pu.changeS (pickN B 10) (pathAt (pickN C 7)) (pathAt (pickN D 7)) (pickN D 30) = G)) (hG : G.length ≤ 100) :
    Calls Tryz.prog 48 #[.agg #[.int .i64 K, .int .i64 A, .int .i64 B, .int .i64 C, .int .i64 D], .int .i64 a] w fun e w' =>
      e = .returned (.string ⟨(Pu.commandS kk R O nn ia G).toArray⟩) ∧ ∀ X, Kx X w w' := by
  subst ha hn
  obtain ⟨hK1, hK2⟩ := hK
  obtain ⟨hA1, hA2⟩ := hA
  obtain ⟨hB1, hB2⟩ := id hB
  have happ := app_str
  have hbox := Cb.new #[.int .i64 K, .int .i64 A, .int .i64 B, .int .i64 C, .int .i64 D] 38 w
  have hkb := fun X => (Kx.refl X w).alloc (.cells #[.int .i64 K, .int .i64 A, .int .i64 B, .int .i64 C, .int .i64 D] 38)
  have q1 : ia < 3 := by rw [← HA.out]; exact pickN_lt A 3 (by omega)
  have q2 : ib < 3 := by rw [← HB.out]; exact pickN_lt B 3 (by omega)
  have s1 : R.length ≤ 4 := by rw [← HR.out]; exact refs_short _ (refAt_mem _ q1)
  have s2 : O.length ≤ 4 := by rw [← HO.out]; exact refs_short _ (refAt_mem _ q2)
  obtain ⟨dn, HDN⟩ : ∃ dn, Hid (Pu.dig nn = dn) := ⟨_, rfl⟩
  obtain ⟨dt, HDT⟩ : ∃ dt, Hid (Pu.dig ia = dt) := ⟨_, rfl⟩
  have hdn := (dig_len nn).1
  have hdt := (dig_len ia).1
  rw [HDN.out] at hdn
  rw [HDT.out] at hdt
  obtain ⟨hd, HH⟩ : ∃ hd, Hid (Pu.headS R nn = hd) := ⟨_, rfl⟩
  have HC : Hid (Pu.commandS kk R O nn ia G = if kk < 6 then hd ++ G ++ [10]
      else if kk = 6 then [114, 101, 115, 101, 116, 32] ++ R ++ [10, 102, 114, 111, 109, 32] ++ O ++ [10, 10]
      else if kk = 7 then [116, 97, 103, 32, 116] ++ dt ++ [10, 102, 114, 111, 109, 32] ++ O ++ [10, 100, 97, 116, 97, 32, 48, 10, 10]
      else hd ++ [109, 101, 114, 103, 101, 32] ++ O ++ [10, 10]) := by
    show _ = _
    unfold Pu.commandS; rw [HH.out, HDT.out]
  have HHd : Hid ([99, 111, 109, 109, 105, 116, 32] ++ R ++ [10, 109, 97, 114, 107, 32, 58] ++ dn ++ [10, 97, 117, 116, 104, 111, 114, 32, 65, 32, 66, 32, 60, 97, 64, 98, 62, 32] ++ dn ++ [10, 100, 97, 116, 97, 32, 49, 10, 109, 10] = hd) := by
    show _ = _
    rw [← HH.out, ← HDN.out]; rfl
  have hhl : hd.length ≤ 100 := by rw [← HHd.out]; simp; omega
  clear HH
  go_enter Tryz.func48, Tryz.ntmps48
  go_wp2_with fail
  refine (refs_any _).mono ?_
  rintro e W ⟨rfl, hL⟩
  have hb2 := hbox.kept (hL.kx (fun _ => False)) id
  have hkW : ∀ X, Kx X w W := fun X => (hkb X).trans (hL.kx X)
  have p1 := hL.ref ia q1
  have p2 := hL.ref ib q2
  rw [World.size_alloc, HR.out] at p1
  rw [World.size_alloc, HO.out] at p2
  have a0 := hb2.cell 0
  have a1 := hb2.cell 1
  have a2 := hb2.cell 2
  have a3 := hb2.cell 3
  have a4 := hb2.cell 4
  clear hbox hkb hL
  go_wp2_with fail
  refine (pick_any A 3 _ (by omega) (by omega) hA1 hA2).mono ?_
  rintro e w1 ⟨rfl, rfl⟩
  rw [HA.out]
  go_wp2_with fail
  refine (pick_any B 3 _ (by omega) (by omega) hB1 hB2).mono ?_
  rintro e w1 ⟨rfl, rfl⟩
  rw [HB.out]
  go_wp2_with fail
  clear p1 p2
  refine (digits_any nn _ (by omega) (by omega)).mono ?_
  rintro e w2 ⟨rfl, hk2⟩
  rw [Int.toNat_natCast, HDN.out]
  go_wp2_with fail
  refine (digits_any nn _ (by omega) (by omega)).mono ?_
  rintro e w3 ⟨rfl, hk3⟩
  rw [Int.toNat_natCast, HDN.out]
  have hb3 := (hb2.kept (hk2 (fun _ => False)) id).kept (hk3 (fun _ => False)) id
  have hk4 : ∀ X, Kx X w w3 := fun X => ((hkW X).trans (hk2 X)).trans (hk3 X)
  clear a0 a1 a2 a3 a4 hb2 hk2 hk3 hkW
  have a0 := hb3.cell 0
  have a1 := hb3.cell 1
  have a2 := hb3.cell 2
  have a3 := hb3.cell 3
  have a4 := hb3.cell 4
  clear hb3
  go_wp2_with fail
  refine (pick_any K 9 _ (by omega) (by omega) hK1 hK2).mono ?_
  rintro e w4 ⟨rfl, rfl⟩
  rw [HK.out]
  by_cases h6 : kk < 6
  · have HC2 : Hid (Pu.commandS kk R O nn ia G = hd ++ G ++ [10]) := by show _ = _; rw [HC.out, if_pos h6]
    clear HC
    go_wp2_with fail
    refine (changeL_any K A B C D _ hB hC hD).mono ?_
    rintro e w5 ⟨rfl, hk5⟩
    rw [HG.out]
    go_wp2
    go_ret
    exact ⟨ret_str (by rw [HC2.out, ← HHd.out]; simp), fun X => (hk4 X).trans (hk5 X)⟩
  by_cases h7 : kk = 6
  · subst h7
    have HC2 : Hid (Pu.commandS 6 R O nn ia G = [114, 101, 115, 101, 116, 32] ++ R ++ [10, 102, 114, 111, 109, 32] ++ O ++ [10, 10]) := by show _ = _; rw [HC.out]; rfl
    clear HC
    go_wp2
    go_ret
    exact ⟨ret_str (by rw [HC2.out]; simp), hk4⟩
  by_cases h8 : kk = 7
  · subst h8
    have HC2 : Hid (Pu.commandS 7 R O nn ia G = [116, 97, 103, 32, 116] ++ dt ++ [10, 102, 114, 111, 109, 32] ++ O ++ [10, 100, 97, 116, 97, 32, 48, 10, 10]) := by show _ = _; rw [HC.out]; rfl
    clear HC
    go_wp2_with fail
    refine (pick_any A 3 _ (by omega) (by omega) hA1 hA2).mono ?_
    rintro e w4 ⟨rfl, rfl⟩
    rw [HA.out]
    go_wp2_with fail
    refine (digits_any ia _ (by omega) (by omega)).mono ?_
    rintro e w5 ⟨rfl, hk5⟩
    rw [Int.toNat_natCast, HDT.out]
    go_wp2
    go_ret
    exact ⟨ret_str (by rw [HC2.out]; simp), fun X => (hk4 X).trans (hk5 X)⟩
  · have HC2 : Hid (Pu.commandS kk R O nn ia G = hd ++ [109, 101, 114, 103, 101, 32] ++ O ++ [10, 10]) := by show _ = _; rw [HC.out, if_neg h6, if_neg h7, if_neg h8]
    have b6 : ((kk : Int) == 6) = false := beq_eq_false_iff_ne.2 (by omega)
    have b7 : ((kk : Int) == 7) = false := beq_eq_false_iff_ne.2 (by omega)
    clear HC
    go_wp2
    go_ret
    exact ⟨ret_str (by rw [HC2.out, ← HHd.out]; simp), hk4⟩

structure Ac where
  K : Int
  A : Int
  B : Int
  C : Int
  D : Int

def Ac.ok (a : Ac) : Prop := I64 a.K ∧ I64 a.A ∧ I64 a.B ∧ I64 a.C ∧ I64 a.D
def Ac.text (a : Ac) (n : Nat) : List UInt8 :=
  Pu.commandS (pickN a.K 9) (refAt (pickN a.A 3)) (refAt (pickN a.B 3)) n (pickN a.A 3) (Pu.changeS (pickN a.B 10) (pathAt (pickN a.C 7)) (pathAt (pickN a.D 7)) (pickN a.D 30))
theorem Ac.good (a : Ac) (n : Nat) (h : 1 ≤ n ∧ n ≤ 12) : Pu.Good (a.text n) :=
  Pu.command_good _ _ _ n _ _ (refAt_mem _ (pickN_lt _ 3 (by omega))) (refAt_mem _ (pickN_lt _ 3 (by omega))) h (pickN_lt _ 3 (by omega))
    (Pu.change_good _ _ _ _ (pickN_lt _ 10 (by omega)) (pathAt_mem _ (pickN_lt _ 7 (by omega))) (pathAt_mem _ (pickN_lt _ 7 (by omega))) (pickN_lt _ 30 (by omega)))

theorem commandL_any (a : Ac) (ha : a.ok) (n : Int) (nn : Nat) (hn : n = (nn : Int)) (hnn : nn < 100) (w : World) :
    Calls Tryz.prog 48 #[.agg #[.int .i64 a.K, .int .i64 a.A, .int .i64 a.B, .int .i64 a.C, .int .i64 a.D], .int .i64 n] w fun e w' => e = .returned (.string ⟨(a.text nn).toArray⟩) ∧ ∀ X, Kx X w w' := by
  have hg := (Pu.change_good (pickN a.B 10) (pathAt (pickN a.C 7)) (pathAt (pickN a.D 7)) (pickN a.D 30) (pickN_lt _ 10 (by omega)) (pathAt_mem _ (pickN_lt _ 7 (by omega))) (pathAt_mem _ (pickN_lt _ 7 (by omega))) (pickN_lt _ 30 (by omega))).2
  rw [List.length_append] at hg
  exact commandL_aux a.K a.A a.B a.C a.D w ha.1 ha.2.1 ha.2.2.1 ha.2.2.2.1 ha.2.2.2.2 n n nn _ _ _ _ _ _ rfl hn hnn rfl rfl rfl rfl rfl rfl (by omega)

end Go.Proofs.YtepgoppgblfjbaaGreatDoor
