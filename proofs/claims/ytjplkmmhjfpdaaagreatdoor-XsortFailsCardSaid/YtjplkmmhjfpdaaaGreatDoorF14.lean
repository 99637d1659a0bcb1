/- In one text: MgFact, FsRemove, XsPlain, XsRef. -/
import Derived.Test.YtjplkmmhjfpdaaaGreatDoorF13
import Derived.Test.YtjplkmmhjfpdaaaGreatDoorF12
import Derived.Test.YtjplkmmhjfpdaaaGreatDoorF05
import Derived.Test.YtjplkmmhjfpdaaaGreatDoorF10
/- Plain facts: several readers that share a disk and a budget, while one file is written. -/
namespace Go.Proofs.YtjplkmmhjfpdaaaGreatDoor
open Go.RowKit FsPlain CrcPlain OctPlain FramePlain RecPlain RdPlain RnPlain WrPlain
set_option linter.unusedVariables false
set_option linter.unusedSimpArgs false
set_option maxRecDepth 20000
theorem read_pre : ∀ (f : Nat) {m : N3} {C : ByteArray} {nn : Int} {got L : List ByteArray}, C.size ≤ got.length + f → ReadF m C nn got → m.s.down = false → m.s.ahead = -1 → C.size ≤ 100000 → IsFile nn C L → ∃ t, L = got ++ t
  | 0, m, C, nn, got, L, hf, h, _, _, _, _ => by have := h.few; omega
  | f + 1, m, C, nn, got, L, hf, h, hd, ha, hC, hL => by
    rcases readF_next h hC with ⟨_, _, hm⟩ | ⟨_, _, hl⟩
    · obtain ⟨h1, h2⟩ := hm.disk.calm hd ha
      obtain ⟨t, ht⟩ := read_pre f (by rw [List.length_append, List.length_singleton]; omega) hm.rd h1 h2 hC hL
      exact ⟨[(nextN m).2.1] ++ t, by rw [ht, List.append_assoc]⟩
    · rcases hl.how with ⟨_, h1, _⟩ | ⟨_, h1⟩ | ⟨_, h1⟩
      · exact ⟨[], by rw [file_one hL h1, List.append_nil]⟩
      · exact absurd hL (h1 L)
      · exact absurd ⟨hd, ha⟩ h1
theorem read_pre2 {m : N3} {C : ByteArray} {nn : Int} {got L : List ByteArray} (h : ReadF m C nn got) (hin : HasD m.s m.x.nm.data.toList C) (hC : C.size ≤ 100000) (hL : IsFile nn C L) : ∃ t, L = got ++ t :=
  read_pre C.size (m := ⟨upS m.s, m.b, m.x⟩) (by omega) (h.other (s := upS m.s) hin (up_ok h.ok.s) h.ok.b) rfl rfl hC hL
theorem WrOn.other {m : M3} {nm : ByteArray} {nn : Int} {done : List ByteArray} (h : WrOn m nm nn done) {s : St} {b : Bu} (hq : Quiet m.s s) (hok : s.ok) (hb : b.ok) : WrOn ⟨s, b, m.x⟩ nm nn done := by
  obtain ⟨k, ho, hn, hz, ha, j, f, hL⟩ := h
  exact ⟨⟨hok, hb, k.n1, k.n2, k.z, k.wl, k.wz, k.az⟩, ho, hn, hz, ha, j, f, ⟨by rw [hq.get]; exact hL.get, hL.len, hL.wait, hL.data⟩⟩
theorem Fits.other {m : M3} {U : Nat} (h : Fits m U) {s : St} {b : Bu} (hq : Quiet m.s s) : Fits ⟨s, b, m.x⟩ U := by
  unfold Fits at h ⊢
  show used s.fs + _ ≤ _
  rw [hq.fs]; exact h
structure SrcF (s : St) (b : Bu) (size : Int) (nm C : ByteArray) (y : Rs) (got : List ByteArray) (over : Bool) : Prop where
  name : y.nm = nm
  told : y.told ≤ 50000
  inv : N3.inv ⟨s, b, y⟩
  file : HasD s nm.data.toList C
  how : (over = false ∧ ReadF ⟨s, b, y⟩ C size got) ∨ (over = true ∧ y.opn = false ∧ y.bad = false ∧ IsFile size C got)
theorem SrcF.opn {s : St} {b : Bu} {size : Int} {nm C : ByteArray} {y : Rs} {got : List ByteArray} {over : Bool} (h : SrcF s b size nm C y got over) : y.opn = !over := by
  rcases h.how with ⟨h1, h2⟩ | ⟨h1, h2, _⟩
  · rw [h1]; exact h2.opn
  · rw [h1]; exact h2
theorem SrcF.sizes {s : St} {b : Bu} {size : Int} {nm C : ByteArray} {y : Rs} {got : List ByteArray} {over : Bool} (h : SrcF s b size nm C y got over) : ∀ x ∈ got, (x.size : Int) = size := by
  rcases h.how with ⟨_, h2⟩ | ⟨_, _, _, h2⟩
  · exact h2.sizes
  · have h1 := h2.1
    unfold layB at h1
    rw [Bool.and_eq_true, allB_iff] at h1
    exact fun r hr => h1.2 r hr
theorem SrcF.pre {s : St} {b : Bu} {size : Int} {nm C : ByteArray} {y : Rs} {got : List ByteArray} {over : Bool} (h : SrcF s b size nm C y got over) (hC : C.size ≤ 100000) {L : List ByteArray} (hL : IsFile size C L) : ∃ t, L = got ++ t := by
  rcases h.how with ⟨_, h2⟩ | ⟨_, _, _, h2⟩
  · exact read_pre2 h2 (by show HasD s y.nm.data.toList C; rw [h.name]; exact h.file) hC hL
  · exact ⟨[], by rw [file_one hL h2, List.append_nil]⟩
theorem inv_other {s s' : St} {b b' : Bu} {y : Rs} (h : N3.inv ⟨s, b, y⟩) : N3.inv ⟨s', b', y⟩ := ⟨h.o, h.c, h.e0, h.e1⟩
theorem SrcF.other {s s' : St} {b b' : Bu} {size : Int} {nm C : ByteArray} {y : Rs} {got : List ByteArray} {over : Bool} (h : SrcF s b size nm C y got over) (hf : HasD s' nm.data.toList C) (hok : s'.ok) (hb : b'.ok) : SrcF s' b' size nm C y got over := by
  refine ⟨h.name, h.told, inv_other h.inv, hf, ?_⟩
  rcases h.how with ⟨h1, h2⟩ | h2
  · exact .inl ⟨h1, h2.other (by show HasD s' y.nm.data.toList C; rw [h.name]; exact hf) hok hb⟩
  · exact .inr h2
theorem nextN_nm2 (m : N3) : (nextN m).1.x.nm = m.x.nm := by
  have sh : ∀ m : N3, (shutN m).x.nm = m.x.nm := fun m => by unfold shutN; split <;> rfl
  unfold nextN
  split
  · rfl
  · split
    · unfold fillN
      split
      · exact sh _
      · split
        · exact sh _
        · split
          · exact sh _
          · rfl
    · rfl
theorem SrcF.next {s : St} {b : Bu} {size : Int} {nm C : ByteArray} {y : Rs} {got : List ByteArray} (h : SrcF s b size nm C y got false) (hC : C.size ≤ 40000) :
    Quiet s (nextN ⟨s, b, y⟩).1.s ∧ (nextN ⟨s, b, y⟩).1.s.ok ∧ (nextN ⟨s, b, y⟩).1.b.ok ∧ (nextN ⟨s, b, y⟩).1.s.calls ≤ s.calls + 1 ∧ N3.inv (nextN ⟨s, b, y⟩).1 ∧
    (((nextN ⟨s, b, y⟩).2.2.1 = true ∧ (nextN ⟨s, b, y⟩).2.2.2 = 0 ∧ (nextN ⟨s, b, y⟩).1.b = b ∧ SrcF (nextN ⟨s, b, y⟩).1.s (nextN ⟨s, b, y⟩).1.b size nm C (nextN ⟨s, b, y⟩).1.x (got ++ [(nextN ⟨s, b, y⟩).2.1]) false) ∨
    ((nextN ⟨s, b, y⟩).2.2.1 = false ∧ (nextN ⟨s, b, y⟩).2.1 = ⟨#[]⟩ ∧ (nextN ⟨s, b, y⟩).1.b = b.give 4 ∧ (nextN ⟨s, b, y⟩).1.x.opn = false ∧
      (((nextN ⟨s, b, y⟩).2.2.2 = 0 ∧ SrcF (nextN ⟨s, b, y⟩).1.s (nextN ⟨s, b, y⟩).1.b size nm C (nextN ⟨s, b, y⟩).1.x got true) ∨ ((nextN ⟨s, b, y⟩).2.2.2 = 6 ∧ ∀ L, ¬ IsFile size C L) ∨ ((nextN ⟨s, b, y⟩).2.2.2 = 5 ∧ ¬ (s.down = false ∧ s.ahead = -1))))) := by
  rcases h.how with ⟨_, hR⟩ | ⟨h1, _⟩
  · have hcalls := nextN_calls ⟨s, b, y⟩
    have hnm : (nextN ⟨s, b, y⟩).1.x.nm = nm := (nextN_nm2 _).trans h.name
    have hfew := hR.few
    have htold := hR.told
    have hc2 : (nextN ⟨s, b, y⟩).1.s.calls ≤ s.calls + 1 := hcalls.2.1
    have ht2 : (nextN ⟨s, b, y⟩).1.x.told ≤ y.told + 1 := hcalls.2.2
    have htd : (nextN ⟨s, b, y⟩).1.x.told ≤ 50000 := by
      have : y.told = got.length := htold
      omega
    rcases readF_next hR (by omega) with ⟨h1, h2, hm⟩ | ⟨h1, h2, hl⟩
    · have hq : Quiet s (nextN ⟨s, b, y⟩).1.s := hm.disk
      exact ⟨hq, hm.rd.ok.s, hm.rd.ok.b, hc2, hm.rd.inv, .inl ⟨h1, h2, hm.bud, hnm, htd, hm.rd.inv, h.file.quiet hq, .inl ⟨rfl, hm.rd⟩⟩⟩
    · have hq : Quiet s (nextN ⟨s, b, y⟩).1.s := hl.disk
      refine ⟨hq, hl.ok.s, hl.ok.b, hc2, hl.inv, .inr ⟨h1, h2, hl.bud, hl.opn, ?_⟩⟩
      rcases hl.how with ⟨k1, k2, k3⟩ | ⟨k1, k2⟩ | ⟨k1, k2⟩
      · exact .inl ⟨k1, hnm, htd, hl.inv, h.file.quiet hq, .inr ⟨rfl, hl.opn, k3, k2⟩⟩
      · exact .inr (.inl ⟨k1, k2⟩)
      · exact .inr (.inr ⟨k1, k2⟩)
  · cases h1
structure Srcs (s : St) (b : Bu) (size : Int) (F : List (ByteArray × ByteArray)) (ys : List Rs) (G : List (List ByteArray × Bool)) : Prop where
  len : ys.length = G.length
  le : ys.length ≤ F.length
  src : ∀ (i : Nat) (nm C : ByteArray) (y : Rs) (g : List ByteArray) (o : Bool), F[i]? = some (nm, C) → ys[i]? = some y → G[i]? = some (g, o) → SrcF s b size nm C y g o
theorem srcs_none (s : St) (b : Bu) (size : Int) (F : List (ByteArray × ByteArray)) : Srcs s b size F [] [] := ⟨rfl, Nat.zero_le _, fun i nm C y g o _ h _ => by simp at h⟩
theorem Srcs.other {s s' : St} {b b' : Bu} {size : Int} {F : List (ByteArray × ByteArray)} {ys : List Rs} {G : List (List ByteArray × Bool)} (h : Srcs s b size F ys G) (hf : ∀ p ∈ F, HasD s' p.1.data.toList p.2) (hok : s'.ok) (hb : b'.ok) : Srcs s' b' size F ys G :=
  ⟨h.len, h.le, fun i nm C y g o h1 h2 h3 => (h.src i nm C y g o h1 h2 h3).other (hf _ (List.mem_of_getElem? h1)) hok hb⟩
theorem Srcs.open {s s' : St} {b b' : Bu} {size : Int} {F : List (ByteArray × ByteArray)} {ys : List Rs} {G : List (List ByteArray × Bool)} (h : Srcs s b size F ys G) (hf : ∀ p ∈ F, HasD s' p.1.data.toList p.2) {nm C : ByteArray} (hi : F[ys.length]? = some (nm, C)) {left : Nat} (hR : ReadF ⟨s', b', newRs nm size left⟩ C size []) : Srcs s' b' size F (ys ++ [newRs nm size left]) (G ++ [([], false)]) := by
  refine ⟨by rw [List.length_append, List.length_append, h.len]; rfl, by rw [List.length_append, List.length_singleton]; exact (List.getElem?_eq_some_iff.1 hi).1, fun i nm2 C2 y g o h1 h2 h3 => ?_⟩
  rcases Nat.lt_or_ge i ys.length with hlt | hge
  · rw [List.getElem?_append_left hlt] at h2
    rw [List.getElem?_append_left (by rw [← h.len]; exact hlt)] at h3
    exact (h.src i nm2 C2 y g o h1 h2 h3).other (hf _ (List.mem_of_getElem? h1)) hR.ok.s hR.ok.b
  · have hile : i < (ys ++ [newRs nm size left]).length := (List.getElem?_eq_some_iff.1 h2).1
    rw [List.length_append, List.length_singleton] at hile
    obtain rfl : i = ys.length := by omega
    rw [hi] at h1
    cases h1
    rw [List.getElem?_append_right (Nat.le_refl _), Nat.sub_self] at h2
    rw [List.getElem?_append_right (by rw [h.len]; exact Nat.le_refl _), h.len, Nat.sub_self] at h3
    simp only [List.getElem?_cons_zero, Option.some.injEq, Prod.mk.injEq] at h2 h3
    obtain ⟨rfl, rfl⟩ := h3
    subst h2
    exact ⟨rfl, Nat.zero_le _, hR.inv, hf _ (List.mem_of_getElem? hi), .inl ⟨rfl, hR⟩⟩
theorem Srcs.turn {s s' : St} {b b' : Bu} {size : Int} {F : List (ByteArray × ByteArray)} {ys : List Rs} {G : List (List ByteArray × Bool)} (h : Srcs s b size F ys G) (hf : ∀ p ∈ F, HasD s' p.1.data.toList p.2) (hok : s'.ok) (hb : b'.ok) {i : Nat} {nm C : ByteArray} {y : Rs} {g : List ByteArray} {o : Bool} (hi : F[i]? = some (nm, C)) (hy : i < ys.length) (hS : SrcF s' b' size nm C y g o) : Srcs s' b' size F (ys.set i y) (G.set i (g, o)) := by
  refine ⟨by rw [List.length_set, List.length_set]; exact h.len, by rw [List.length_set]; exact h.le, fun j nm2 C2 y2 g2 o2 h1 h2 h3 => ?_⟩
  by_cases hj : j = i
  · subst hj
    rw [hi] at h1
    cases h1
    rw [List.getElem?_set_self hy] at h2
    rw [List.getElem?_set_self (by rw [← h.len]; exact hy)] at h3
    cases h2; cases h3
    exact hS
  · rw [List.getElem?_set_ne (Ne.symm hj)] at h2 h3
    exact (h.src j nm2 C2 y2 g2 o2 h1 h2 h3).other (hf _ (List.mem_of_getElem? h1)) hok hb
def opnN (ys : List Rs) : Nat := (ys.filter fun y => y.opn).length
theorem opn_snoc (ys : List Rs) {y : Rs} (h : y.opn = true) : opnN (ys ++ [y]) = opnN ys + 1 := by
  unfold opnN; rw [List.filter_append, List.length_append]; simp [h]
theorem opn_set : ∀ {ys : List Rs} {i : Nat} {y y' : Rs}, ys[i]? = some y → opnN (ys.set i y') + (if y.opn = true then 1 else 0) = opnN ys + (if y'.opn = true then 1 else 0)
  | [], i, y, y', h => by simp at h
  | a :: ys, 0, y, y', h => by
    simp only [List.getElem?_cons_zero, Option.some.injEq] at h
    subst h
    unfold opnN
    rw [List.set_cons_zero, List.filter_cons, List.filter_cons]
    split <;> split <;> simp <;> omega
  | a :: ys, i + 1, y, y', h => by
    simp only [List.getElem?_cons_succ] at h
    have ih := opn_set (y' := y') h
    unfold opnN at ih ⊢
    rw [List.set_cons_succ, List.filter_cons, List.filter_cons]
    split
    · simp only [List.length_cons]; omega
    · exact ih
theorem opn_le (ys : List Rs) : opnN ys ≤ ys.length := List.length_filter_le _ _
structure MergeR (s : St) (b : Bu) (F : List (ByteArray × ByteArray)) (out : ByteArray) (size : Int) (u : Bool) (s' : St) (b' : Bu) (k c er : Int) : Prop where
  zero : er ≠ 0 → k = 0 ∧ c = 0
  ok : s'.ok
  now : b'.now = b.now
  bm : b'.m = b.m
  calls : s'.calls ≤ s.calls + 1000000
  oth : ∃ d, d ≤ 1 ∧ Oth out.data.toList d s s'
  yes : er = 0 → ∃ Ls : List (List ByteArray), Ls.length = F.length ∧ (∀ (i : Nat) (nm C : ByteArray) (L : List ByteArray), F[i]? = some (nm, C) → Ls[i]? = some L → IsFile size C L ∧ Srt L) ∧ HasD s' out.data.toList (bs (layL size (sortT Ls.flatten u))) ∧ k = ((sortT Ls.flatten u).length : Nat) ∧ c = (sumN (sortT Ls.flatten u) : Nat) ∧ s'.fs.length = s.fs.length + 1
  code : ∀ Ls : List (List ByteArray), Ls.length = F.length → (∀ (i : Nat) (nm C : ByteArray) (L : List ByteArray), F[i]? = some (nm, C) → Ls[i]? = some L → IsFile size C L) → F.length ≤ 64 → sizeB size = true → 4 * (F.length : Int) + 4 ≤ b.m - b.now → er = 4 ∨ er = 5 ∨ (er = 0 ∧ ∀ L ∈ Ls, Srt L) ∨ (er = 13 ∧ ¬ ∀ L ∈ Ls, Srt L)
  calm : ∀ Ls : List (List ByteArray), Ls.length = F.length → (∀ (i : Nat) (nm C : ByteArray) (L : List ByteArray), F[i]? = some (nm, C) → Ls[i]? = some L → IsFile size C L) → F.length ≤ 64 → sizeB size = true → 4 * (F.length : Int) + 4 ≤ b.m - b.now → WrPlain.Calm s → s.fs.length ≤ 150 → (used s.fs : Int) + 28 + 69 * (Ls.flatten.length : Nat) ≤ s.room → er ≠ 4 ∧ er ≠ 5 ∧ WrPlain.Calm s'
  usd : er = 0 → ∀ Ls : List (List ByteArray), Ls.length = F.length → (∀ (i : Nat) (nm C : ByteArray) (L : List ByteArray), F[i]? = some (nm, C) → Ls[i]? = some L → IsFile size C L) → WrPlain.Calm s → s.fs.length ≤ 150 → (used s.fs : Int) + 28 + 69 * (Ls.flatten.length : Nat) ≤ s.room → used s'.fs ≤ used s.fs + 28 + 69 * Ls.flatten.length
end Go.Proofs.YtjplkmmhjfpdaaaGreatDoor
/- The contract of Remove. -/
namespace Go.Proofs.YtjplkmmhjfpdaaaGreatDoor
open Go.RowKit FsPlain Go.Maps
set_option linter.unusedVariables false
set_option linter.unusedSimpArgs false
set_option maxRecDepth 20000
namespace FsPlain
def St.drop (s : St) (n : List UInt8) : St := { s with fs := s.fs.filter fun f => !(f.name == n) }
def removeR (s : St) (n : List UInt8) : St × Int := if s.call.down = true then (s.call, 5) else match s.get n with | none => (s.call, 2) | some _ => (s.call.drop n, 0)
theorem used_filter (p : F → Bool) : ∀ l : List F, used (l.filter p) ≤ used l
  | [] => Nat.le_refl _
  | x :: l => by
    have ih := used_filter p l
    unfold used at ih ⊢
    rw [List.filter_cons]
    split
    · simp only [List.map_cons, List.sum_cons]; omega
    · simp only [List.map_cons, List.sum_cons]; omega
theorem ok_drop {s : St} (h : s.ok) (n : List UInt8) : (s.drop n).ok :=
  ⟨h.r0, h.r1, h.c0, h.a0, h.a1, by
    have h1 := used_filter (fun f => !(f.name == n)) s.fs
    have h2 := h.u
    show ((used (s.fs.filter _) : Nat) : Int) ≤ s.room
    omega, fun f hf => h.k f (List.mem_filter.1 hf).1, fun f hf => h.n f (List.mem_filter.1 hf).1, Nat.le_trans (List.length_filter_le _ _) h.m, h.d.filter _⟩
theorem drop_get (s : St) (n : List UInt8) : (s.drop n).get n = none := by
  unfold St.get St.drop
  rw [List.find?_filter]
  refine List.find?_eq_none.2 fun f _ => ?_
  cases h : f.name == n <;> simp
theorem drop_get_ne (s : St) {n n' : List UInt8} (h : n' ≠ n) : (s.drop n).get n' = s.get n' := by
  unfold St.get St.drop
  rw [List.find?_filter]
  congr 1
  funext f
  cases h2 : f.name == n'
  · simp
  · have e : f.name = n' := by simpa using h2
    have : (f.name == n) = false := by simp [e, h]
    simp [this]
theorem ok_remove {s : St} (h : s.ok) (n : List UInt8) : (removeR s n).1.ok := by
  unfold removeR
  split
  · exact ok_call h
  · split
    · exact ok_call h
    · exact ok_drop (ok_call h) n
end FsPlain
theorem del_ents (L : List Pl) (n : List UInt8) : (ents L).del (.string n) = ents (L.filter fun x => !(x.f.name == n)) := by
  unfold ents DataW.del
  simp only [DataW.map.injEq]
  rw [List.filter_map]
  rfl
theorem turned_only {w w' : World} {b : Nat} (h : w.mapTurned w' b) : Only (fun i => i = b) w w' := by
  obtain ⟨es, clock, es', clock', hb, rfl⟩ := h
  refine ⟨rfl, rfl, rfl, by simp [ChangeMaps.setBlock], fun k hk hne => ?_⟩
  show (w.heap.setIfInBounds b _)[k]? = _
  rw [Array.getElem?_setIfInBounds, if_neg (fun e => hne e.symm)]
theorem blocks_sub (p : Pl → Bool) : ∀ L : List Pl, (blocks (L.filter p)).Sublist (blocks L)
  | [] => List.Sublist.refl _
  | x :: L => by
    have ih := blocks_sub p L
    rw [List.filter_cons]
    unfold blocks at ih ⊢
    split
    · simp only [List.flatMap_cons]
      exact (List.Sublist.refl _).append ih
    · simp only [List.flatMap_cons]
      exact ih.trans (List.sublist_append_right _ _)
theorem DiskAt.dropped {w w' : World} {p m : Nat} {s : St} {B : Nat → Prop} {L : List Pl} {k : Nat} (h : DiskAt w p s B m L) (n : List UInt8) (ho : w'.ownsMap Tryz.prog 9 ptrElem m k ((ents L).del (.string n))) (g : Only (fun i => i = m) w w') : DiskAt w' p (s.drop n) B m (L.filter fun x => !(x.f.name == n)) := by
  have hap := h.apart
  have hpm : p ≠ m := fun e => by
    simp only [List.nodup_cons, List.mem_cons, not_or] at hap; exact hap.1.1 e
  have hsub : (blocks (L.filter fun x => !(x.f.name == n))).Sublist (blocks L) := blocks_sub _ L
  refine ⟨?_, ?_, ?_, ?_, ?_, ?_, ?_⟩
  · rw [g.block p (lt_of_block h.heap) hpm]; exact h.heap
  · have := tight ho
    rw [del_ents, ents_size] at this
    exact this
  · show (L.filter _).map (·.f) = s.fs.filter _
    rw [← h.fs, List.filter_map]
    rfl
  · intro x hx
    have hx := (List.mem_filter.1 hx).1
    exact (h.file x hx).only g fun b hb e => by
      have e2 : b = m := e
      subst e2
      simp only [List.nodup_cons] at hap
      exact hap.2.1 (mem_blocks hx hb)
  · exact hap.sublist ((hsub.cons_cons m).cons_cons p)
  · intro b hb
    refine h.mine b ?_
    exact ((hsub.cons_cons m).cons_cons p).subset hb
  · exact fun b hb => Nat.lt_of_lt_of_le (h.low b hb) g.size
set_option maxRecDepth 20000 in
set_option maxHeartbeats 1000000 in
theorem remove_c (p : Nat) (s : St) (B : Nat → Prop) (n : ByteArray) (w : World) (h : Disk w p s B) (hn : n.size ≤ 1000) (hm : rightB n.data.toList = true) (h1 : s.calls ≤ 1000000000000) :
    Calls Tryz.prog 73 #[.pointer (some ⟨p, 0, none⟩), .string n] w (Tells w p (removeR s n.data.toList).1 B (.int .i64 (removeR s n.data.toList).2)) := by
  obtain ⟨hs, m, L, hD⟩ := h
  have C := find_yes p m s B L n w hs hD (by unfold maxLen; omega) hm h1
  have HS := Lib.hid hs
  have hkey := WideMaps.keyOf_string_mk (P := Tryz.prog) (k := 9) Tryz.underlying9 (show n.size ≤ maxLen by unfold maxLen; omega)
  clear hD hm hs
  go_enter Tryz.func73, Tryz.ntmps73
  go_wp2_with fail
  refine C.mono ?_; rintro e w2 ⟨hD, hO, hcase⟩
  have HN := Lib.hid (next_called HS.out hD hO)
  have HD := Lib.hid hD
  have HO := Lib.hid hO
  clear hD hO
  rcases hcase with ⟨hd, rfl⟩ | ⟨hd, hg, rfl⟩ | ⟨hd, x, hg, hf, rfl⟩
  · have HR : Hid (removeR s n.data.toList = (s.call, 5)) := Lib.hid (by simp [removeR, hd])
    clear hd hkey
    go_wp2_with fail
    go_ret
    exact ⟨by rw [HR.out] <;> rfl, by rw [HR.out]; exact HN.out⟩
  · have HR : Hid (removeR s n.data.toList = (s.call, 2)) := Lib.hid (by simp [removeR, hd, hg])
    clear hd hg hkey
    go_wp2_with fail
    go_ret
    exact ⟨by rw [HR.out] <;> rfl, by rw [HR.out]; exact HN.out⟩
  · have HR : Hid (removeR s n.data.toList = (s.call.drop n.data.toList, 0)) := Lib.hid (by simp [removeR, hd, hg])
    have c1 : w2.cell? ⟨p, 1, none⟩ = some (.map (some m)) := by rw [cells_at HD.out.heap]; rfl
    have hown := HD.out.own
    have HW := Lib.hid hown
    have HK := Lib.hid hkey
    clear hd hg hf hown hkey
    go_wp2_with (at_delete; refine wpList_delete_own _ rfl _ _ 64 9 rfl 69 lawS Tryz.underlying64 ptrElem m L.length (ents L) rfl HW.out _ _ rfl HK.out ?_; intro w3 ho3 ht3; have O3 := Lib.hid ho3; have T3 := Lib.hid ht3; clear ho3 ht3)
    go_ret
    refine ⟨by rw [HR.out] <;> rfl, ?_⟩
    rw [HR.out]
    have hD3 := HD.out.dropped n.data.toList O3.out (turned_only T3.out)
    refine ⟨B, ⟨ok_drop (ok_call HS.out) _, m, _, hD3⟩, ?_, fun b hb => .inl hb⟩
    exact (HO.out.mono (fun i e => by subst e; exact HD.out.mine _ (by simp))).trans ((turned_only T3.out).mono fun i e => by subst e; exact HD.out.mine _ (by simp))
theorem d_remove (p : Nat) (s : St) (n : ByteArray) (hn : n.size ≤ 1000) (hm : rightB n.data.toList = true) (h1 : s.calls ≤ 1000000000000) (w : World) (B : Nat → Prop) (h : DiskA p s w B) :
    Calls Tryz.prog 73 #[.pointer (some ⟨p, 0, none⟩), .string n] w (Does w B (DiskA p (removeR s n.data.toList).1) (.int .i64 (removeR s n.data.toList).2)) :=
  (remove_c p s B n w h hn hm h1).mono fun e w' k => tells_does k
end Go.Proofs.YtjplkmmhjfpdaaaGreatDoor
/- Plain facts: files on the way, how often records are written, what a sort leaves. -/
namespace Go.Proofs.YtjplkmmhjfpdaaaGreatDoor
open Go.RowKit FsPlain CrcPlain OctPlain FramePlain RecPlain RdPlain RnPlain WrPlain
set_option linter.unusedVariables false
set_option linter.unusedSimpArgs false
set_option maxRecDepth 20000
namespace XsPlain
def wayB (c : UInt8) : Bool := c == 46 || (decide (48 ≤ c.toNat) && decide (c.toNat ≤ 57))
def isB (name out : List UInt8) : Bool := decide (out.length + 2 < name.length) && (name.take (out.length + 2) == out ++ [46, 114]) && (name.drop (out.length + 2)).all wayB
theorem is_way {out t : List UInt8} (h0 : t ≠ []) (h : t.all wayB = true) : isB (out ++ [46, 114] ++ t) out = true := by
  have hl : (out ++ [46, 114]).length = out.length + 2 := by simp
  unfold isB
  rw [← hl, List.take_left, List.drop_left, h]
  have : 0 < t.length := List.length_pos_iff.2 h0
  simp
  omega
theorem is_not {out : List UInt8} : isB out out = false := by
  unfold isB
  have : decide (out.length + 2 < out.length) = false := by simp
  rw [this]; rfl
def passW (g : Nat) (c : Nat) : Nat := if h : c ≤ 1 then 0 else 1 + passW g ((c + g + 1) / (g + 2))
termination_by c
decreasing_by
  rw [Nat.div_lt_iff_lt_mul (by omega)]
  have h2 : 2 ≤ c := by omega
  have : 2 * (g + 1) ≤ c * (g + 1) := Nat.mul_le_mul_right _ h2
  rw [show c * (g + 2) = c * (g + 1) + c by rw [show g + 2 = (g + 1) + 1 from rfl, Nat.mul_add, Nat.mul_one]]
  omega
theorem pass_one {g c : Nat} (h : c ≤ 1) : passW g c = 0 := by rw [passW, dif_pos h]
theorem pass_more {g c : Nat} (h : ¬ c ≤ 1) : passW g c = 1 + passW g ((c + g + 1) / (g + 2)) := by rw [passW, dif_neg h]
theorem pass_less {g c : Nat} (h : ¬ c ≤ 1) : (c + g + 1) / (g + 2) < c := by
  rw [Nat.div_lt_iff_lt_mul (by omega)]
  have h2 : 2 ≤ c := by omega
  have : 2 * (g + 1) ≤ c * (g + 1) := Nat.mul_le_mul_right _ h2
  rw [show c * (g + 2) = c * (g + 1) + c by rw [show g + 2 = (g + 1) + 1 from rfl, Nat.mul_add, Nat.mul_one]]
  omega
def fanN (left : Int) : Int := min 64 ((left - 4) / 4)
theorem fan_range {left : Int} (h : 16 ≤ left) : 3 ≤ fanN left ∧ fanN left ≤ 64 ∧ 4 * fanN left + 4 ≤ left := by unfold fanN; omega
def passN (n left : Int) : Int := if n < 0 ∨ 1099511627776 < n ∨ left < 16 ∨ 1099511627776 < left then 0 else 1 + (passW ((fanN left).toNat - 2) ((n + left - 9) / (left - 8)).toNat : Nat)
theorem sort_flat (u : Bool) (Ls : List (List ByteArray)) : sortT ((Ls.map fun l => sortT l u).flatten) u = sortT Ls.flatten u := by
  cases u
  · refine sort_perm false ?_
    induction Ls with
    | nil => exact List.Perm.refl _
    | cons l Ls ih =>
      simp only [List.map_cons, List.flatten_cons]
      exact (sortT_perm l).append ih
  · have hm : ∀ x, x ∈ (Ls.map fun l => sortT l true).flatten ↔ x ∈ Ls.flatten := fun x => by
      simp only [List.mem_flatten, List.mem_map]
      constructor
      · rintro ⟨_, ⟨l, hl, rfl⟩, hx⟩
        exact ⟨l, hl, ((sortU l).2 x).1 hx⟩
      · rintro ⟨l, hl, hx⟩
        exact ⟨_, ⟨l, hl, rfl⟩, ((sortU l).2 x).2 hx⟩
    refine sortT_isU (sortT_srt _ true) (sortU _).1 fun x => ?_
    rw [(sortU _).2 x, hm]
structure SortR (s : St) (b : Bu) (C inn out : ByteArray) (size : Int) (u : Bool) (s' : St) (b' : Bu) (k c er : Int) : Prop where
  zero : er ≠ 0 → k = 0 ∧ c = 0
  ok : s'.ok
  now : b'.now = b.now
  bm : b'.m = b.m
  calls : s'.calls ≤ s.calls + 1000000000
  oth : ∀ n, n ≠ out.data.toList → isB n out.data.toList = false → s'.get n = s.get n
  less : b.m - b.now < 16 → er = 9
  yes : er = 0 → ∃ L, IsFile size C L ∧ HasD s' out.data.toList (bs (layL size (sortT L u))) ∧ k = ((sortT L u).length : Nat) ∧ c = (sumN (sortT L u) : Nat) ∧ ∀ n, isB n out.data.toList = true → s'.get n = none
  code : ∀ L, IsFile size C L → 16 ≤ b.m - b.now → er = 0 ∨ er = 4 ∨ er = 5
  calm : ∀ L, IsFile size C L → 16 ≤ b.m - b.now → s.down = false → s.ahead = -1 → L.length ≤ 100 → s.fs.length ≤ 40 → (used s.fs : Int) + 200 * ((L.length : Nat) + 1) ≤ s.room → er = 0 ∧ s'.down = false ∧ s'.ahead = -1
def Named (s : St) (n : List UInt8) : Prop := ∃ f, s.get n = some f
theorem named_iff {s : St} {n : List UInt8} : Named s n ↔ n ∈ s.fs.map (·.name) := by
  constructor
  · rintro ⟨f, hf⟩
    obtain ⟨h1, h2⟩ : f ∈ s.fs ∧ f.name = n := ⟨get_mem hf, by have := List.find?_some hf; simpa using this⟩
    exact List.mem_map.2 ⟨f, h1, h2⟩
  · exact fun h => get_name h
theorem SortR.names {s : St} {b : Bu} {C inn out : ByteArray} {size : Int} {u : Bool} {s' : St} {b' : Bu} {k c er : Int} (h : SortR s b C inn out size u s' b' k c er) {n : List UInt8} (hn : n ∈ s'.fs.map (·.name)) : n ∈ s.fs.map (·.name) ∨ n = out.data.toList ∨ isB n out.data.toList = true := by
  by_cases h1 : n = out.data.toList
  · exact .inr (.inl h1)
  · cases h2 : isB n out.data.toList
    · left
      rw [← named_iff] at hn ⊢
      obtain ⟨f, hf⟩ := hn
      exact ⟨f, by rw [← h.oth n h1 h2]; exact hf⟩
    · exact .inr (.inr rfl)
end XsPlain
end Go.Proofs.YtjplkmmhjfpdaaaGreatDoor
/- The document's answers of layer 18. -/
namespace Go.Proofs.YtjplkmmhjfpdaaaGreatDoor
open Go.RowKit FsPlain RnPlain XsPlain
set_option linter.unusedVariables false
set_option linter.unusedSimpArgs false
set_option maxRecDepth 20000
theorem ext_data18 (s : ByteArray) (k : Nat) : (s.extract 0 k).toList = s.data.toList.take k := by
  rw [Lib.toList_data]
  simp [ByteArray.data_extract]
theorem app_data18 (out : ByteArray) : (out ++ (⟨#[46, 114]⟩ : ByteArray)).toList = out.data.toList ++ [46, 114] := by
  rw [Lib.toList_data]
  simp [ByteArray.data_append]
theorem slice_to18 (s : ByteArray) (n : Nat) (h : n ≤ s.size) (w : World) :
    (Instr.slice 9 (.string s) none (some (.int .i64 (n : Int))) none).run Tryz.prog w = .ok (.string (s.extract 0 n)) w := by
  rw [run_slice_string_to_if w 9 s .i64 (n : Int) Tryz.underlying9, if_pos ⟨by omega, by omega⟩, Int.toNat_natCast]
theorem is_short {name out : List UInt8} (h : ¬ out.length + 2 < name.length) : isB name out = false := by
  unfold isB
  have : decide (out.length + 2 < name.length) = false := by simpa using h
  rw [this]; rfl
theorem is_other {name out : List UInt8} (h : (name.take (out.length + 2) == out ++ [46, 114]) = false) : isB name out = false := by
  unfold isB
  rw [h, Bool.and_false]; rfl
theorem is_rest {name out : List UInt8} (h1 : out.length + 2 < name.length) (h : (name.take (out.length + 2) == out ++ [46, 114]) = true) : isB name out = (name.drop (out.length + 2)).all wayB := by
  unfold isB
  have : decide (out.length + 2 < name.length) = true := by simpa using h1
  rw [h, this]; rfl
theorem pass_le : ∀ (m g c : Nat), c ≤ m → passW g c ≤ c
  | 0, g, c, h => by rw [pass_one (by omega)]; omega
  | m + 1, g, c, h => by
    by_cases hc : c ≤ 1
    · rw [pass_one hc]; omega
    · have h1 := pass_less (g := g) hc
      have h2 := pass_le m g ((c + g + 1) / (g + 2)) (by omega)
      rw [pass_more hc]
      omega
end Go.Proofs.YtjplkmmhjfpdaaaGreatDoor
