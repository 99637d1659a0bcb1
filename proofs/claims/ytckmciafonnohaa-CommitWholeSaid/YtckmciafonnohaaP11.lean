/- In one text: CmPlain. -/
import Derived.Test.YtckmciafonnohaaP10
/- Plain facts of commit: what Save and Load make of a disk; what a fall leaves of the manifest's file. -/
namespace Go.Proofs.Ytckmciafonnohaa
open Go.RowKit FsPlain
set_option linter.unusedVariables false
set_option linter.unusedSimpArgs false
namespace CmPlain
def nameL : List UInt8 := [109, 97, 110, 105, 102, 101, 115, 116]
def wayL : List UInt8 := [109, 97, 110, 105, 102, 101, 115, 116, 46, 110, 101, 119]
theorem way_ne : nameL ≠ wayL := by decide
theorem name_right : rightB nameL = true := by decide
theorem way_right : rightB wayL = true := by decide
/-- One behind the other, till the first error. -/
def thenR (a : St × Int) (f : St → St × Int) : St × Int := if a.2 = 0 then f a.1 else a
/-- The file on the way is gone. -/
def goneR (s : St) : St × Int := if (sizeR s wayL).2 = 0 then removeR s.call wayL else if (sizeR s wayL).2 = 2 then (s.call, 0) else (s.call, (sizeR s wayL).2)
def saveS (s : St) (x : List UInt8) : St × Int := thenR (thenR (thenR (thenR (goneR s) fun t => createR t wayL) fun t => appendR t wayL x) fun t => syncR t wayL) fun t => renameR t wayL nameL
/-- The disk behind Load; its error, and the bytes that are told. -/
def loadT (s : St) : St := if (sizeR s nameL).2 = 0 then s.call.call else s.call
def loadE (s : St) : Int × Option (List UInt8) := if (sizeR s nameL).2 = 2 then (0, none) else if (sizeR s nameL).2 ≠ 0 then ((sizeR s nameL).2, none) else
  if (readR s.call nameL 0 (sizeR s nameL).1.toNat).2 ≠ 0 then ((readR s.call nameL 0 (sizeR s nameL).1.toNat).2, none) else (0, some (readR s.call nameL 0 (sizeR s nameL).1.toNat).1)
theorem thenR_no {a : St × Int} {f : St → St × Int} (h : a.2 ≠ 0) : thenR a f = a := if_neg h
theorem thenR_yes {a : St × Int} {f : St → St × Int} (h : a.2 = 0) : thenR a f = f a.1 := if_pos h

/-! What is there under a name, behind each call. -/
theorem upd_ne {s : St} {n k : List UInt8} {g : F → F} (h : k ≠ n) (hg : ∀ f, (g f).name = f.name) : (s.upd n g).get k = s.get k := by
  have : ∀ l : List F, (l.map fun f => if f.name = n then g f else f).find? (fun f => f.name == k) = l.find? fun f => f.name == k := by
    intro l
    induction l with
    | nil => rfl
    | cons y r ih =>
      rw [List.map_cons, List.find?_cons, List.find?_cons, ih]
      by_cases hy : y.name = n
      · rw [if_pos hy, hg y]
        have e : (y.name == k) = false := by rw [hy]; simpa using fun e => h e.symm
        rw [e]
      · rw [if_neg hy]
  exact this s.fs
theorem upd_eq {s : St} {n : List UInt8} {g : F → F} {f : F} (h : s.get n = some f) (hg : ∀ f, (g f).name = f.name) : (s.upd n g).get n = some (g f) := by
  have : ∀ l : List F, l.find? (fun f => f.name == n) = some f → (l.map fun f => if f.name = n then g f else f).find? (fun f => f.name == n) = some (g f) := by
    intro l
    induction l with
    | nil => intro h; cases h
    | cons y r ih =>
      intro h
      rw [List.map_cons, List.find?_cons]
      rw [List.find?_cons] at h
      by_cases hy : y.name = n
      · have e : (y.name == n) = true := by simpa using hy
        rw [e] at h
        rw [if_pos hy, hg y, e]
        cases h
        rfl
      · have e : (y.name == n) = false := by simpa using hy
        rw [e] at h
        rw [if_neg hy, e]
        exact ih h
  exact this s.fs h
theorem get_call (s : St) (n : List UInt8) : s.call.get n = s.get n := rfl
theorem create_ne {s : St} {n k : List UInt8} (h : k ≠ n) : (createR s n).1.get k = s.get k := by
  unfold createR
  split
  · rfl
  · split
    · rfl
    · split
      · rfl
      · exact ins_find2 (x := ⟨n, [], 0⟩) h s.fs
theorem create_eq {s : St} {n : List UInt8} (h : (createR s n).2 = 0) : (createR s n).1.get n = some ⟨n, [], 0⟩ := by
  unfold createR at h ⊢
  split
  · next k => rw [if_pos k] at h; cases h
  · next k =>
    rw [if_neg k] at h
    split
    · next f hf => rw [hf] at h; cases h
    · next hf =>
      rw [hf] at h
      dsimp only at h
      split
      · next l => rw [if_pos l] at h; cases h
      · exact get_ins2 (x := ⟨n, [], 0⟩) hf
theorem append_ne {s : St} {n k t : List UInt8} (h : k ≠ n) : (appendR s n t).1.get k = s.get k := by
  unfold appendR
  split
  · rfl
  · split
    · rfl
    · split
      · rfl
      · exact upd_ne (s := s.call) h fun f => rfl
theorem append_eq {s : St} {n t : List UInt8} {f : F} (hf : s.get n = some f) (h : (appendR s n t).2 = 0) : (appendR s n t).1.get n = some { f with data := f.data ++ t } := by
  unfold appendR at h ⊢
  rw [hf] at h ⊢
  split
  · next k => rw [if_pos k] at h; cases h
  · next k =>
    rw [if_neg k] at h
    dsimp only at h ⊢
    split
    · next l => rw [if_pos l] at h; cases h
    · exact upd_eq (s := s.call) hf fun f => rfl
theorem sync_ne {s : St} {n k : List UInt8} (h : k ≠ n) : (syncR s n).1.get k = s.get k := by
  unfold syncR
  split
  · rfl
  · split
    · rfl
    · exact upd_ne (s := s.call) h fun f => rfl
theorem sync_eq {s : St} {n : List UInt8} {f : F} (hf : s.get n = some f) (h : (syncR s n).2 = 0) : (syncR s n).1.get n = some { f with kept := f.data.length } := by
  unfold syncR at h ⊢
  rw [hf] at h ⊢
  split
  · next k => rw [if_pos k] at h; cases h
  · exact upd_eq (s := s.call) hf fun f => rfl
theorem remove_ne {s : St} {n k : List UInt8} (h : k ≠ n) : (removeR s n).1.get k = s.get k := by
  unfold removeR
  split
  · rfl
  · split
    · rfl
    · exact drop_get_ne s.call h
theorem rename_ne {s : St} {a b k : List UInt8} (h : (renameR s a b).2 ≠ 0) : (renameR s a b).1.get k = s.get k := by
  unfold renameR at h ⊢
  split
  · rfl
  · next q =>
    rw [if_neg q] at h
    split
    · rfl
    · next f hf => rw [hf] at h; exact absurd rfl h
theorem rename_eq {s : St} {a b : List UInt8} {f : F} (hf : s.get a = some f) (h : (renameR s a b).2 = 0) : (renameR s a b).1.get b = some ⟨b, f.data, f.kept⟩ := by
  unfold renameR at h ⊢
  rw [hf] at h ⊢
  split
  · next k => rw [if_pos k] at h; cases h
  · exact move_get s.call a b f
theorem gone_ne (s : St) : (goneR s).1.get nameL = s.get nameL := by
  unfold goneR
  split
  · exact remove_ne (s := s.call) way_ne
  · split <;> rfl
/-- The manifest's file has these bytes, none of which waits; or it is not there. -/
def Keeps (s : St) (o : Option (List UInt8)) : Prop := s.get nameL = o.map fun x => ⟨nameL, x, x.length⟩
theorem thenR_ne {a : St × Int} {f : St → St × Int} {g : Option F} (h : a.1.get nameL = g) (hf : ∀ t, (f t).1.get nameL = t.get nameL) : (thenR a f).1.get nameL = g := by
  unfold thenR
  split
  · rw [hf]; exact h
  · exact h
/-- Saved, or not: the old bytes, or the new ones. -/
theorem save_keeps {s : St} {o : Option (List UInt8)} (x : List UInt8) (h : Keeps s o) : ((saveS s x).2 = 0 ∧ Keeps (saveS s x).1 (some x)) ∨ ((saveS s x).2 ≠ 0 ∧ Keeps (saveS s x).1 o) := by
  unfold saveS
  obtain ⟨a1, h1⟩ : ∃ a, goneR s = a := ⟨_, rfl⟩
  have k1 : a1.1.get nameL = s.get nameL := by rw [← h1]; exact gone_ne s
  obtain ⟨a2, h2⟩ : ∃ a, thenR a1 (fun t => createR t wayL) = a := ⟨_, rfl⟩
  have k2 : a2.1.get nameL = s.get nameL := by rw [← h2]; exact thenR_ne k1 fun t => create_ne way_ne
  obtain ⟨a3, h3⟩ : ∃ a, thenR a2 (fun t => appendR t wayL x) = a := ⟨_, rfl⟩
  have k3 : a3.1.get nameL = s.get nameL := by rw [← h3]; exact thenR_ne k2 fun t => append_ne way_ne
  obtain ⟨a4, h4⟩ : ∃ a, thenR a3 (fun t => syncR t wayL) = a := ⟨_, rfl⟩
  have k4 : a4.1.get nameL = s.get nameL := by rw [← h4]; exact thenR_ne k3 fun t => sync_ne way_ne
  rw [h1, h2, h3, h4]
  by_cases e4 : a4.2 = 0
  · rw [thenR_yes e4]
    have e3 : a3.2 = 0 := by
      rcases Int.decEq a3.2 0 with e | e
      · rw [thenR_no e] at h4; rw [← h4] at e4; exact absurd e4 e
      · exact e
    have e2 : a2.2 = 0 := by
      rcases Int.decEq a2.2 0 with e | e
      · rw [thenR_no e] at h3; rw [← h3] at e3; exact absurd e3 e
      · exact e
    have e1 : a1.2 = 0 := by
      rcases Int.decEq a1.2 0 with e | e
      · rw [thenR_no e] at h2; rw [← h2] at e2; exact absurd e2 e
      · exact e
    rw [thenR_yes e1] at h2
    rw [thenR_yes e2] at h3
    rw [thenR_yes e3] at h4
    have w2 : a2.1.get wayL = some ⟨wayL, [], 0⟩ := by rw [← h2]; exact create_eq (by rw [h2]; exact e2)
    have w3 : a3.1.get wayL = some ⟨wayL, x, 0⟩ := by rw [← h3]; exact append_eq w2 (by rw [h3]; exact e3)
    have w4 : a4.1.get wayL = some ⟨wayL, x, x.length⟩ := by rw [← h4]; exact sync_eq w3 (by rw [h4]; exact e4)
    by_cases e5 : (renameR a4.1 wayL nameL).2 = 0
    · exact .inl ⟨e5, rename_eq w4 e5⟩
    · exact .inr ⟨e5, (rename_ne e5).trans (k4.trans h)⟩
  · rw [thenR_no e4]
    exact .inr ⟨e4, k4.trans h⟩
theorem fall_whole (n x : List UInt8) (k : Int) : fall ⟨n, x, x.length⟩ k = ⟨n, x, x.length⟩ := by
  unfold fall
  simp
/-- Behind a fall they are as they were. -/
theorem rise_keeps {s : St} {o : Option (List UInt8)} (ks : List Int) (h : Keeps s o) : Keeps (riseR s ks) o := by
  have : ∀ j, Keeps (riseN s ks j) o := by
    intro j
    induction j with
    | zero => exact h
    | succ j ih =>
      unfold Keeps at ih ⊢
      show ((riseN s ks j).upd (nameAt s.fs j) fun f => fall f (ks.getD j 0)).get nameL = _
      by_cases e : nameL = nameAt s.fs j
      · rw [← e]
        cases o with
        | none =>
          have ih' : (riseN s ks j).get nameL = none := ih
          have hl : ∀ l : List F, l.find? (fun f => f.name == nameL) = none → (l.map fun f => if f.name = nameL then fall f (ks.getD j 0) else f).find? (fun f => f.name == nameL) = none := by
            intro l hl
            rw [List.find?_eq_none] at hl ⊢
            intro y hy
            obtain ⟨z, hz, rfl⟩ := List.mem_map.1 hy
            have hn := hl z hz
            split
            · next q => exact absurd (by simpa using q) hn
            · exact hn
          exact hl _ ih'
        | some x =>
          rw [upd_eq (g := fun f => fall f (ks.getD j 0)) ih fun f => rfl]
          exact congrArg some (fall_whole _ _ _)
      · rw [upd_ne (g := fun f => fall f (ks.getD j 0)) e fun f => rfl]
        exact ih
  exact this _
theorem down_rise (s : St) (ks : List Int) : (riseR s ks).down = false ∧ (riseR s ks).ahead = -1 := ⟨rfl, rfl⟩
theorem down_call {s : St} (h : s.down = false) (ha : s.ahead = -1) : s.call.down = false ∧ s.call.ahead = -1 := by
  refine ⟨?_, ?_⟩
  · show (s.down || decide (s.ahead = 0)) = false
    rw [h, ha]; rfl
  · show max (s.ahead - 1) (-1) = -1
    rw [ha]; rfl
/-- What Load tells of a disk that is up. -/
theorem load_keeps {s : St} {o : Option (List UInt8)} (h : Keeps s o) (hd : s.down = false) (ha : s.ahead = -1) : loadE s = (0, o) := by
  obtain ⟨d1, a1⟩ := down_call hd ha
  obtain ⟨d2, _⟩ := down_call d1 a1
  unfold Keeps at h
  unfold loadE
  cases o with
  | none =>
    have e : sizeR s nameL = (0, 2) := by unfold sizeR; rw [if_neg (by rw [d1]; simp), h]; rfl
    rw [e, if_pos rfl]
  | some x =>
    have e : sizeR s nameL = ((x.length : Int), 0) := by unfold sizeR; rw [if_neg (by rw [d1]; simp), h]; rfl
    have e2 : readR s.call nameL 0 x.length = (x, 0) := by
      unfold readR
      rw [if_neg (by rw [d2]; simp), get_call, h]
      simp
    rw [e]
    dsimp only
    rw [if_neg (by decide), if_neg (by decide), Int.toNat_natCast, e2]
    rfl
/-- One behind the other: a list of steps. -/
def runR (a : St × Int) (l : List (St → St × Int)) : St × Int := l.foldl thenR a
theorem runR_ok {a : St × Int} {t : St} (f : St → St × Int) (l : List (St → St × Int)) (h : a = (t, 0)) : runR a (f :: l) = runR (f t) l := by
  subst h
  rfl
theorem runR_no {a : St × Int} (l : List (St → St × Int)) (h : a.2 ≠ 0) : runR a l = a := by
  induction l with
  | nil => rfl
  | cons f l ih =>
    show runR (thenR a f) l = a
    rw [thenR_no h]
    exact ih
theorem save_run (s : St) (x : List UInt8) : saveS s x = runR (goneR s) [fun t => createR t wayL, fun t => appendR t wayL x, fun t => syncR t wayL, fun t => renameR t wayL nameL] := rfl
theorem calls_create (s : St) (n : List UInt8) : (createR s n).1.calls = s.calls + 1 := by
  unfold createR
  split
  · rfl
  · split
    · rfl
    · split <;> rfl
theorem calls_append (s : St) (n t : List UInt8) : (appendR s n t).1.calls = s.calls + 1 := by
  unfold appendR
  split
  · rfl
  · split
    · rfl
    · split <;> rfl
theorem calls_sync (s : St) (n : List UInt8) : (syncR s n).1.calls = s.calls + 1 := by
  unfold syncR
  split
  · rfl
  · split <;> rfl
theorem calls_remove (s : St) (n : List UInt8) : (removeR s n).1.calls = s.calls + 1 := by
  unfold removeR
  split
  · rfl
  · split <;> rfl
theorem calls_rename (s : St) (a b : List UInt8) : (renameR s a b).1.calls = s.calls + 1 := by
  unfold renameR
  split
  · rfl
  · split <;> rfl
theorem calls_gone (s : St) : (goneR s).1.calls ≤ s.calls + 2 := by
  unfold goneR
  split
  · rw [calls_remove]
    show s.calls + 1 + 1 ≤ _
    omega
  · split
    · show s.calls + 1 ≤ _
      omega
    · show s.calls + 1 ≤ _
      omega
theorem calls_then {a : St × Int} {f : St → St × Int} {c : Int} (h : a.1.calls ≤ c) (hf : ∀ t, (f t).1.calls = t.calls + 1) : (thenR a f).1.calls ≤ c + 1 := by
  unfold thenR
  split
  · rw [hf]; omega
  · omega
theorem calls_save (s : St) (x : List UInt8) : (saveS s x).1.calls ≤ s.calls + 6 := by
  have h1 := calls_gone s
  have h2 := calls_then (f := fun t => createR t wayL) h1 fun t => calls_create t _
  have h3 := calls_then (f := fun t => appendR t wayL x) h2 fun t => calls_append t _ _
  have h4 := calls_then (f := fun t => syncR t wayL) h3 fun t => calls_sync t _
  have h5 := calls_then (f := fun t => renameR t wayL nameL) h4 fun t => calls_rename t _ _
  unfold saveS
  omega
theorem calls_load (s : St) : (loadT s).calls ≤ s.calls + 2 := by
  unfold loadT
  split
  · show s.calls + 1 + 1 ≤ _; omega
  · show s.calls + 1 ≤ _; omega
end CmPlain
end Go.Proofs.Ytckmciafonnohaa
