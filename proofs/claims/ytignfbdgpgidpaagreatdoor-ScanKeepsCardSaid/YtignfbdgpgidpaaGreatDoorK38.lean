/- In one text: ScKp, ScKp2, RnStr, RnPlain. -/
import Derived.Test.YtignfbdgpgidpaaGreatDoorK24
import Derived.Test.YtignfbdgpgidpaaGreatDoorK37
import Derived.Test.YtignfbdgpgidpaaGreatDoorK08
import Derived.Test.YtignfbdgpgidpaaGreatDoorK01
import Derived.Maps.AppendAt
import Derived.Deep.AppendLies
import Derived.Test.YtignfbdgpgidpaaGreatDoorK00
import Derived.Test.YtignfbdgpgidpaaGreatDoorK34
/- Plain facts for ScanKeeps: a disk that does not fall, its files made, saved, swept. -/
namespace Go.Proofs.YtignfbdgpgidpaaGreatDoor
open Go.RowKit FsPlain CrcPlain OctPlain FramePlain RecPlain RdPlain MnPlain CmPlain StPlain ScPlain
set_option linter.unusedVariables false
set_option linter.unusedSimpArgs false
set_option maxRecDepth 20000
namespace ScPlain
def Calm (s : St) : Prop := s.down = false ∧ s.ahead = -1
theorem Calm.call {s : St} (h : Calm s) : Calm s.call := (quiet_call s).calm h.1 h.2
theorem Calm.up {s : St} (h : Calm s) : ¬ s.call.down = true := by rw [h.call.1]; decide
theorem create_ok {s : St} {n : List UInt8} (h : Calm s) (hg : s.get n = none) (hl : s.fs.length < 200) : createR s n = ({ s.call with fs := insF ⟨n, [], 0⟩ s.fs }, 0) := by
  unfold createR
  rw [if_neg h.up, hg]
  simp only
  rw [if_neg (by omega)]
theorem append_ok {s : St} {n t : List UInt8} {f : F} (h : Calm s) (hg : s.get n = some f) (hr : ((used s.fs : Nat) : Int) + (t.length : Nat) ≤ s.room) : appendR s n t = (s.call.upd n (fun f => { f with data := f.data ++ t }), 0) := by
  unfold appendR
  rw [if_neg h.up, hg]
  simp only
  rw [if_neg (by omega)]
theorem sync_ok {s : St} {n : List UInt8} {f : F} (h : Calm s) (hg : s.get n = some f) : syncR s n = (s.call.upd n (fun f => { f with kept := f.data.length }), 0) := by
  unfold syncR
  rw [if_neg h.up, hg]
theorem rename_ok {s : St} {a b : List UInt8} {f : F} (h : Calm s) (hg : s.get a = some f) : renameR s a b = (s.call.move a b f, 0) := by
  unfold renameR
  rw [if_neg h.up, hg]
theorem size_none {s : St} {n : List UInt8} (h : Calm s) (hg : s.get n = none) : sizeR s n = (0, 2) := by
  unfold sizeR
  rw [if_neg h.up, hg]
theorem size_some {s : St} {n : List UInt8} {f : F} (h : Calm s) (hg : s.get n = some f) : sizeR s n = (((f.data.length : Nat) : Int), 0) := by
  unfold sizeR
  rw [if_neg h.up, hg]
theorem ins_used (x : F) (l : List F) : used (insF x l) = x.data.length + used l := by
  rw [used_perm (insF_perm x l)]; simp [used]
theorem ins_length (x : F) (l : List F) : (insF x l).length = l.length + 1 := by rw [(insF_perm x l).length_eq]; rfl
theorem get_mem {s : St} {f : F} (h : f ∈ s.fs) : (s.get f.name).isSome = true := by
  unfold St.get
  rw [List.find?_isSome]
  exact ⟨f, h, by simp⟩
theorem mem_get {s : St} {n : List UInt8} {f : F} (h : s.get n = some f) : f ∈ s.fs ∧ f.name = n := by
  unfold St.get at h
  exact ⟨List.mem_of_find?_eq_some h, by simpa using List.find?_some h⟩
theorem rts_get {s : St} : RtS s ↔ ∀ n f, s.get n = some f → rightB n = true := by
  refine ⟨fun h n f hg => ?_, fun h f hf => ?_⟩
  · obtain ⟨k1, k2⟩ := mem_get hg
    rw [← k2]; exact h f k1
  · obtain ⟨g, hg⟩ := Option.isSome_iff_exists.1 (get_mem hf)
    exact h _ _ hg
structure KSt (s : St) (l : List Fl) (n : Nat) : Prop where
  calm : Calm s
  room : s.room = 1048576
  rt : RtS s
  man : s.get CmPlain.nameL = none
  way : s.get wayL = none
  files : ∀ f ∈ l, ∃ y, s.get f.name.data.toList = some y ∧ y.data = layL f.size []
  len : s.fs.length ≤ n
  small : ∀ f ∈ s.fs, f.data.length ≤ 100
  calls : s.calls ≤ 2 * (n : Int)
theorem kst_new : KSt (fresh 1048576) [] 0 := ⟨⟨rfl, rfl⟩, rfl, (fun f hf => by cases hf), rfl, rfl, (fun f hf => by cases hf), Nat.le_refl _, (fun f hf => by cases hf), by decide⟩
theorem used_small : ∀ {l : List F}, (∀ f ∈ l, f.data.length ≤ 100) → used l ≤ 100 * l.length
  | [], _ => Nat.le_refl _
  | x :: l, h => by
    have ih := used_small (l := l) fun f hf => h f (by simp [hf])
    have h1 := h x (by simp)
    unfold used at ih ⊢
    simp only [List.map_cons, List.sum_cons, List.length_cons]
    omega
theorem KSt.more {s : St} {l : List Fl} {n : Nat} (h : KSt s l n) (f : Fl) (hn : rightB f.name.data.toList = true) (h1 : f.name.data.toList ≠ CmPlain.nameL) (h2 : f.name.data.toList ≠ wayL) (hg : s.get f.name.data.toList = none) (hd : ∀ g ∈ l, g.name.data.toList ≠ f.name.data.toList) (hl : n < 100) (hz : (layL f.size []).length ≤ 100) :
    ∃ s1 s2, createR s f.name.data.toList = (s1, 0) ∧ appendR s1 f.name.data.toList (layL f.size []) = (s2, 0) ∧ KSt s2 (l ++ [f]) (n + 1) ∧ ∀ k, k ≠ f.name.data.toList → s2.get k = s.get k := by
  have hl2 := h.len
  have hu2 := used_small h.small
  have e1 := create_ok h.calm hg (by omega)
  obtain ⟨s1, hs1⟩ : ∃ t, ({ s.call with fs := insF ⟨f.name.data.toList, [], 0⟩ s.fs } : St) = t := ⟨_, rfl⟩
  rw [hs1] at e1
  have c1 : Calm s1 := by rw [← hs1]; exact h.calm.call
  have r1 : s1.room = 1048576 := by rw [← hs1]; exact h.room
  have g1 : s1.get f.name.data.toList = some ⟨f.name.data.toList, [], 0⟩ := by
    have := create_eq (s := s) (n := f.name.data.toList) (by rw [e1])
    rw [e1] at this; exact this
  have n1 : ∀ k, k ≠ f.name.data.toList → s1.get k = s.get k := fun k hk => by
    have := create_ne (s := s) hk
    rw [e1] at this; exact this
  have u1 : used s1.fs = used s.fs := by rw [← hs1]; show used (insF _ _) = _; rw [ins_used]; simp
  have e2 := append_ok (t := layL f.size []) c1 g1 (by rw [u1, r1]; omega)
  obtain ⟨s2, hs2⟩ : ∃ t, s1.call.upd f.name.data.toList (fun g => { g with data := g.data ++ layL f.size [] }) = t := ⟨_, rfl⟩
  rw [hs2] at e2
  have g2 : s2.get f.name.data.toList = some ⟨f.name.data.toList, layL f.size [], 0⟩ := by
    have := append_eq (t := layL f.size []) g1 (by rw [e2])
    rw [e2] at this; exact this
  have n2 : ∀ k, k ≠ f.name.data.toList → s2.get k = s.get k := fun k hk => by
    have := append_ne (s := s1) (t := layL f.size []) hk
    rw [e2] at this; exact this.trans (n1 k hk)
  have len1 : s1.fs.length = s.fs.length + 1 := by rw [← hs1]; exact ins_length _ _
  refine ⟨s1, s2, e1, e2, ⟨?_, ?_, ?_, ?_, ?_, ?_, ?_, ?_, ?_⟩, n2⟩
  · rw [← hs2]; exact c1.call
  · rw [← hs2]; exact r1
  · refine rts_get.2 fun k g hk => ?_
    by_cases e : k = f.name.data.toList
    · rw [e]; exact hn
    · rw [n2 k e] at hk
      exact rts_get.1 h.rt k g hk
  · rw [n2 _ (fun e => h1 e.symm)]; exact h.man
  · rw [n2 _ (fun e => h2 e.symm)]; exact h.way
  · intro g hgm
    rcases List.mem_append.1 hgm with hgm | hgm
    · obtain ⟨y, y1, y2⟩ := h.files g hgm
      exact ⟨y, by rw [n2 _ (hd g hgm)]; exact y1, y2⟩
    · simp only [List.mem_singleton] at hgm
      subst hgm
      exact ⟨_, g2, rfl⟩
  · rw [← hs2]
    show (s1.fs.map _).length ≤ _
    rw [List.length_map]; omega
  · intro g hgm
    rw [← hs2] at hgm
    obtain ⟨y, hy, rfl⟩ := List.mem_map.1 (show g ∈ s1.fs.map _ from hgm)
    rw [← hs1] at hy
    rcases List.mem_cons.1 ((insF_perm _ _).mem_iff.1 (show y ∈ insF ⟨f.name.data.toList, [], 0⟩ s.fs from hy)) with rfl | hy
    · rw [if_pos rfl]; show ([] ++ layL f.size []).length ≤ 100; simpa using hz
    · have hyn : y.name ≠ f.name.data.toList := fun e => by
        have := get_mem hy
        rw [e, hg] at this; cases this
      rw [if_neg hyn]; exact h.small y hy
  · have hc := h.calls
    rw [← hs2, ← hs1]
    show s.calls + 1 + 1 ≤ _
    omega
theorem KSt.any {s : St} {l : List Fl} {n : Nat} (h : KSt s l n) (k : List UInt8) (h1 : k ≠ CmPlain.nameL) (h2 : k ≠ wayL) (hl : n < 100) : KSt (createX s k).1 l (n + 1) := by
  unfold createX
  split
  · next hk =>
    have hl2 := h.len
    cases hg : s.get k with
    | some y =>
      have e : createR s k = (s.call, 3) := by unfold createR; rw [if_neg h.calm.up, hg]
      rw [e]
      exact ⟨h.calm.call, h.room, h.rt, h.man, h.way, h.files, by show s.fs.length ≤ n + 1; omega, h.small, by have := h.calls; show s.calls + 1 ≤ _; omega⟩
    | none =>
      have e := create_ok h.calm hg (by omega)
      have n1 : ∀ q, q ≠ k → (createR s k).1.get q = s.get q := fun q hq => create_ne hq
      have hc := h.calls
      rw [e] at n1 ⊢
      refine ⟨h.calm.call, h.room, ?_, ?_, ?_, ?_, ?_, ?_, ?_⟩
      · refine rts_get.2 fun q g hq => ?_
        by_cases eq : q = k
        · rw [eq]; exact hk
        · rw [n1 q eq] at hq
          exact rts_get.1 h.rt q g hq
      · rw [n1 _ (fun e => h1 e.symm)]; exact h.man
      · rw [n1 _ (fun e => h2 e.symm)]; exact h.way
      · intro f hf
        obtain ⟨y, y1, y2⟩ := h.files f hf
        exact ⟨y, by rw [n1 _ (fun e => by rw [e, hg] at y1; cases y1)]; exact y1, y2⟩
      · show (insF _ _).length ≤ _
        rw [ins_length]; omega
      · intro g hgm
        rcases List.mem_cons.1 ((insF_perm _ _).mem_iff.1 (show g ∈ insF ⟨k, [], 0⟩ s.fs from hgm)) with rfl | hy
        · exact Nat.zero_le _
        · exact h.small g hy
      · show s.calls + 1 ≤ _
        omega
  · have hc := h.calls
    have hl2 := h.len
    exact ⟨h.calm, h.room, h.rt, h.man, h.way, h.files, by show s.fs.length ≤ n + 1; omega, h.small, by show s.calls ≤ _; omega⟩
structure KSv (s : St) (l : List Fl) (x : List UInt8) : Prop where
  calm : Calm s
  rt : RtS s
  man : ∃ y, s.get CmPlain.nameL = some y ∧ y.data = x
  files : ∀ f ∈ l, ∃ y, s.get f.name.data.toList = some y ∧ y.data = layL f.size []
theorem KSv.quiet {s t : St} {l : List Fl} {x : List UInt8} (h : KSv s l x) (q : Quiet s t) : KSv t l x :=
  ⟨q.calm h.calm.1 h.calm.2, fun f hf => h.rt f (by rw [← q.fs]; exact hf), by obtain ⟨y, h1, h2⟩ := h.man; exact ⟨y, by rw [q.get]; exact h1, h2⟩, fun f hf => by obtain ⟨y, h1, h2⟩ := h.files f hf; exact ⟨y, by rw [q.get]; exact h1, h2⟩⟩
theorem KSt.save {s : St} {l : List Fl} {n : Nat} (h : KSt s l n) (hl : n < 100) (x : List UInt8) (hx : x.length ≤ 700) (hnn : ∀ f ∈ l, f.name.data.toList ≠ CmPlain.nameL ∧ f.name.data.toList ≠ wayL) : ∃ t, saveS s x = (t, 0) ∧ KSv t l x ∧ t.calls ≤ 2 * (n : Int) + 6 := by
  have hl2 := h.len
  have hu := used_small h.small
  have e0 : goneR s = (s.call, 0) := by
    have := size_none h.calm h.way
    unfold goneR
    rw [this, if_neg (by decide), if_pos (by decide)]
  have c0 := h.calm.call
  have e1 := create_ok (n := wayL) c0 h.way (by show s.fs.length < 200; omega)
  have g1 := create_eq (s := s.call) (n := wayL) (by rw [e1])
  have n1 : ∀ k, k ≠ wayL → (createR s.call wayL).1.get k = s.get k := fun k hk => create_ne (s := s.call) hk
  obtain ⟨s1, hs1⟩ : ∃ t, ({ s.call.call with fs := insF ⟨wayL, [], 0⟩ s.call.fs } : St) = t := ⟨_, rfl⟩
  rw [e1, hs1] at g1 n1
  rw [hs1] at e1
  have c1 : Calm s1 := by rw [← hs1]; exact c0.call
  have r1 : s1.room = 1048576 := by rw [← hs1]; exact h.room
  have u1 : used s1.fs = used s.fs := by rw [← hs1]; show used (insF _ _) = _; rw [ins_used]; simp; rfl
  have e2 := append_ok (t := x) c1 g1 (by rw [u1, r1]; omega)
  have g2 := append_eq (t := x) g1 (by rw [e2])
  have n2 : ∀ k, k ≠ wayL → (appendR s1 wayL x).1.get k = s.get k := fun k hk => (append_ne hk).trans (n1 k hk)
  obtain ⟨s2, hs2⟩ : ∃ t, s1.call.upd wayL (fun g => { g with data := g.data ++ x }) = t := ⟨_, rfl⟩
  rw [e2, hs2] at g2 n2
  rw [hs2] at e2
  have c2 : Calm s2 := by rw [← hs2]; exact c1.call
  have e3 := sync_ok c2 g2
  have g3 := sync_eq g2 (by rw [e3])
  have n3 : ∀ k, k ≠ wayL → (syncR s2 wayL).1.get k = s.get k := fun k hk => (sync_ne hk).trans (n2 k hk)
  obtain ⟨s3, hs3⟩ : ∃ t, s2.call.upd wayL (fun f => { f with kept := f.data.length }) = t := ⟨_, rfl⟩
  rw [e3, hs3] at g3 n3
  rw [hs3] at e3
  have c3 : Calm s3 := by rw [← hs3]; exact c2.call
  have e4 := rename_ok (b := CmPlain.nameL) c3 g3
  obtain ⟨t, ht⟩ : ∃ t, s3.call.move wayL CmPlain.nameL ⟨wayL, [] ++ x, ([] ++ x).length⟩ = t := ⟨_, rfl⟩
  have g4 : t.get CmPlain.nameL = some ⟨CmPlain.nameL, [] ++ x, ([] ++ x).length⟩ := by rw [← ht]; exact move_get _ _ _ _
  have o4 : t.get wayL = none := by rw [← ht]; exact move_get_old _ _ (fun e => way_ne e.symm)
  have n4 : ∀ k, k ≠ wayL → k ≠ CmPlain.nameL → t.get k = s.get k := fun k h1 h2 => by rw [← ht, move_get_ne _ _ h2 h1]; exact n3 k h1
  refine ⟨t, ?_, ⟨?_, ?_, ⟨_, g4, by simp⟩, ?_⟩, ?_⟩
  · unfold saveS
    rw [e0, thenR_yes (show ((s.call, (0 : Int)) : St × Int).2 = 0 from rfl)]
    show thenR (thenR (thenR (createR s.call wayL) _) _) _ = _
    rw [e1, thenR_yes (show ((s1, (0 : Int)) : St × Int).2 = 0 from rfl)]
    show thenR (thenR (appendR s1 wayL x) _) _ = _
    rw [e2, thenR_yes (show ((s2, (0 : Int)) : St × Int).2 = 0 from rfl)]
    show thenR (syncR s2 wayL) _ = _
    rw [e3, thenR_yes (show ((s3, (0 : Int)) : St × Int).2 = 0 from rfl)]
    show renameR s3 wayL CmPlain.nameL = _
    rw [e4, ← ht]
  · rw [← ht]; exact c3.call
  · refine rts_get.2 fun k g hk => ?_
    by_cases h1 : k = CmPlain.nameL
    · rw [h1]; exact name_right
    · by_cases h2 : k = wayL
      · rw [h2, o4] at hk; cases hk
      · rw [n4 k h2 h1] at hk
        exact rts_get.1 h.rt k g hk
  · intro f hf
    obtain ⟨y, y1, y2⟩ := h.files f hf
    obtain ⟨k1, k2⟩ := hnn f hf
    exact ⟨y, by rw [n4 _ k2 k1]; exact y1, y2⟩
  · have hc := h.calls
    rw [← ht, ← hs3, ← hs2, ← hs1]
    show s.calls + 1 + 1 + 1 + 1 + 1 ≤ _
    omega
end ScPlain
end Go.Proofs.YtignfbdgpgidpaaGreatDoor
/- Plain facts for ScanKeeps: what is swept; Start at the law's disk. -/
namespace Go.Proofs.YtignfbdgpgidpaaGreatDoor
open Go.RowKit FsPlain CrcPlain OctPlain FramePlain RecPlain RdPlain MnPlain CmPlain StPlain ScPlain
set_option linter.unusedVariables false
set_option linter.unusedSimpArgs false
set_option maxRecDepth 20000
namespace ScPlain
def kept (K : List ByteArray) (f : F) : Bool := hasB K (bs f.name)
theorem sweep_go (K : List ByteArray) : ∀ (rest pre : List F) (t : St) (n : Nat), Calm t → t.fs = pre.filter (kept K) ++ rest → t.fs.Pairwise (fun x y => x.name ≠ y.name) →
    ∃ (t' : St) (k : Nat), sweepL K (rest.map fun f => bs f.name) t n = (t', k, 0) ∧ Calm t' ∧ t'.fs = (pre ++ rest).filter (kept K) ∧ t'.calls ≤ t.calls + rest.length
  | [], pre, t, n, hc, hf, hd => ⟨t, n, rfl, hc, by rw [hf, List.append_nil, List.append_nil], by simp⟩
  | f :: rest, pre, t, n, hc, hf, hd => by
    show ∃ t' k, sweepL K (bs f.name :: rest.map fun f => bs f.name) t n = (t', k, 0) ∧ _
    unfold sweepL
    by_cases hk : hasB K (bs f.name) = true
    · rw [if_pos hk]
      obtain ⟨t', k, e, h1, h2, h3⟩ := sweep_go K rest (pre ++ [f]) t n hc (by rw [hf, List.filter_append, List.filter_cons, if_pos (show kept K f = true from hk)]; simp) hd
      refine ⟨t', k, e, h1, by rw [h2]; simp, ?_⟩
      rw [List.length_cons, Int.natCast_add]
      simp only [Int.natCast_one]
      omega
    · rw [if_neg hk]
      have hm : f ∈ t.fs := by rw [hf]; simp
      obtain ⟨g, hg⟩ := Option.isSome_iff_exists.1 (get_mem hm)
      have er : removeR t (bs f.name).data.toList = (t.call.drop f.name, 0) := by
        have e0 : (bs f.name).data.toList = f.name := by simp [bs]
        unfold removeR
        rw [if_neg hc.up, e0, hg]
      rw [er, if_pos rfl]
      have hfs : (t.call.drop f.name).fs = pre.filter (kept K) ++ rest := by
        show t.fs.filter _ = _
        rw [hf] at hd ⊢
        obtain ⟨_, h2, h3⟩ := List.pairwise_append.1 hd
        obtain ⟨h4, _⟩ := List.pairwise_cons.1 h2
        rw [List.filter_append, List.filter_cons, if_neg (by simp)]
        congr 1
        · exact List.filter_eq_self.2 fun x hx => by
            have := h3 x hx f (by simp)
            simpa using this
        · exact List.filter_eq_self.2 fun x hx => by
            have := h4 x hx
            simpa using fun e => this e.symm
      have hd2 : (t.call.drop f.name).fs.Pairwise (fun x y => x.name ≠ y.name) := List.Pairwise.filter _ (show t.fs.Pairwise _ from hd)
      have hfk : kept K f = false := by unfold kept; simpa using hk
      obtain ⟨t', k, e, h1, h2, h3⟩ := sweep_go K rest (pre ++ [f]) (t.call.drop f.name) (n + 1) hc.call (by rw [hfs, List.filter_append, List.filter_cons, hfk]; simp) hd2
      refine ⟨t', k, e, h1, by rw [h2]; simp, ?_⟩
      have : (t.call.drop f.name).calls = t.calls + 1 := rfl
      rw [List.length_cons, Int.natCast_add]
      simp only [Int.natCast_one]
      omega
theorem sweep_calm {s : St} (h : Calm s) (hd : s.fs.Pairwise (fun x y => x.name ≠ y.name)) (K : List ByteArray) : ∃ (t : St) (k : Nat), sweepR K s = (t, k, 0) ∧ Calm t ∧ t.fs = s.fs.filter (kept K) ∧ t.calls ≤ s.calls + 1 + s.fs.length := by
  obtain ⟨e1, e2⟩ := calm_list h.1 h.2
  obtain ⟨t, k, h1, h2, h3, h4⟩ := sweep_go K s.fs [] s.call 0 h.call rfl hd
  refine ⟨t, k, ?_, h2, h3, h4⟩
  unfold sweepR
  rw [if_pos e2, e1]
  exact h1
theorem load_some {s : St} {y : F} (h : Calm s) (hg : s.get CmPlain.nameL = some y) : loadE s = (0, some y.data) := by
  have e := size_some h hg
  unfold loadE
  rw [e, if_neg (by show ¬ (0 : Int) = 2; decide), if_neg (by show ¬ (0 : Int) ≠ 0; decide)]
  have er : readR s.call CmPlain.nameL 0 y.data.length = (y.data, 0) := by
    unfold readR
    rw [if_neg h.call.up]
    have : s.call.get CmPlain.nameL = some y := hg
    rw [this]
    simp
  show (if (readR s.call CmPlain.nameL 0 ((y.data.length : Nat) : Int).toNat).2 ≠ 0 then _ else _) = _
  rw [Int.toNat_natCast, er]
  rfl
theorem has_keep {l : List Fl} {f : Fl} (h : f ∈ l) : hasB (keepL l) f.name = true := by
  unfold hasB keepL
  rw [List.any_eq_true]
  exact ⟨f.name, List.mem_append_right _ (List.mem_map_of_mem h), by simp⟩
theorem has_man (l : List Fl) : hasB (keepL l) (bs CmPlain.nameL) = true := by
  unfold hasB keepL
  rw [List.any_eq_true]
  exact ⟨mfB22, by simp, by simp only [decide_eq_true_eq]; rfl⟩
theorem filter_get {K : List ByteArray} {s t : St} (h : t.fs = s.fs.filter (kept K)) {n : List UInt8} (hk : hasB K (bs n) = true) : t.get n = s.get n := by
  unfold St.get
  rw [h, List.find?_filter]
  congr 1
  funext f
  by_cases e : f.name = n
  · have : kept K f = true := by unfold kept; rw [e]; exact hk
    rw [this, e]; simp
  · have : (f.name == n) = false := by simpa using e
    rw [this]; simp
theorem ksv_start {s : St} {l : List Fl} {x : List UInt8} (h : KSv s l x) (hd : s.fs.Pairwise (fun x y => x.name ≠ y.name)) (hm : s.fs.length ≤ 200) (hr : ∀ f ∈ l, rightB f.name.data.toList = true ∧ layB f.size [] = true ∧ f.count = 0 ∧ f.sum = 0) :
    ∃ (T : St × Nat × Int), sweepR (keepL l) (loadT s).call = T ∧ T.2.2 = 0 ∧ T.1.calls ≤ s.calls + 300 ∧ T.1.fs = s.fs.filter (kept (keepL l)) ∧ KSv T.1 l x ∧ (∀ f ∈ l, hasB (namesL s) f.name = true) ∧ (∀ f ∈ l, StandF T.1 f) := by
  have hq := load_quiet22 s
  have hlc := load_calls22 s
  have hc := h.calm
  have c1 : Calm (loadT s).call := (show Calm (loadT s) from hq.calm hc.1 hc.2).call
  have f1 : (loadT s).call.fs = s.fs := hq.fs
  obtain ⟨t, k, e, h1, h2, h3⟩ := sweep_calm c1 (by rw [f1]; exact hd) (keepL l)
  rw [f1] at h2 h3
  have hg : ∀ n, hasB (keepL l) (bs n) = true → t.get n = s.get n := fun n hn => filter_get h2 hn
  have hfl : ∀ f ∈ l, t.get f.name.data.toList = s.get f.name.data.toList := fun f hf => hg _ (by rw [bs_toList]; exact has_keep hf)
  have hK : KSv t l x := by
    refine ⟨h1, fun f hf => h.rt f (by rw [h2] at hf; exact (List.mem_filter.1 hf).1), ?_, ?_⟩
    · obtain ⟨y, y1, y2⟩ := h.man
      exact ⟨y, by rw [hg _ (has_man l)]; exact y1, y2⟩
    · intro f hf
      obtain ⟨y, y1, y2⟩ := h.files f hf
      exact ⟨y, by rw [hfl f hf]; exact y1, y2⟩
  refine ⟨_, e, rfl, ?_, h2, hK, ?_, ?_⟩
  · show t.calls ≤ _
    have : (loadT s).call.calls = (loadT s).calls + 1 := rfl
    omega
  · intro f hf
    obtain ⟨y, y1, _⟩ := h.files f hf
    obtain ⟨m1, m2⟩ := mem_get y1
    unfold hasB namesL
    rw [List.any_eq_true]
    exact ⟨bs y.name, List.mem_map_of_mem m1, by rw [m2, bs_toList]; simp⟩
  · intro f hf
    obtain ⟨y, y1, y2⟩ := hK.files f hf
    obtain ⟨r1, r2, r3, r4⟩ := hr f hf
    exact ⟨r1, y, [], y1, ⟨r2, by rw [bs_data, y2]⟩, Nat.zero_le _, r3, by rw [r4, sumN_nil]; rfl⟩
end ScPlain
end Go.Proofs.YtignfbdgpgidpaaGreatDoor
/- Slices of strings: their last ones, middle ones; append of such a slice to a row of one's own. -/
namespace Go.Proofs.YtignfbdgpgidpaaGreatDoor
open Go.RowKit
set_option linter.unusedVariables false
set_option linter.unusedSimpArgs false
set_option maxRecDepth 20000
end Go.Proofs.YtignfbdgpgidpaaGreatDoor
/- Runs: texts in order, at most so many; plain. -/
namespace Go.Proofs.YtignfbdgpgidpaaGreatDoor
open Go.RowKit
set_option linter.unusedVariables false
set_option linter.unusedSimpArgs false
set_option maxRecDepth 20000
namespace RnPlain
def nameN (s : ByteArray) (i : Int) : ByteArray := if i < 0 then ⟨#[]⟩ else (s ++ bs [46]) ++ bs (digB i.toNat)
end RnPlain
end Go.Proofs.YtignfbdgpgidpaaGreatDoor
