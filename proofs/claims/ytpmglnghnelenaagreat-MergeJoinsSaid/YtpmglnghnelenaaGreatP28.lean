/- In one text: MgFact, MgLeave. -/
import Derived.Test.YtpmglnghnelenaaGreatP25
import Derived.Test.YtpmglnghnelenaaGreatP27
import Derived.Test.YtpmglnghnelenaaGreatP26
/- Plain facts: several readers that share a disk and a budget, while one file is written. -/
namespace Go.Proofs.YtpmglnghnelenaaGreat
open Go.RowKit FsPlain CrcPlain OctPlain FramePlain RecPlain RdPlain RnPlain WrPlain
set_option linter.unusedVariables false
set_option linter.unusedSimpArgs false
set_option maxRecDepth 20000
/-- What was read of a file is how it begins. -/
theorem read_pre : ∀ (f : Nat) {m : N3} {C : ByteArray} {nn : Int} {got L : List ByteArray}, C.size ≤ got.length + f → ReadF m C nn got → m.s.down = false → m.s.ahead = -1 → C.size ≤ 100000 → IsFile nn C L → ∃ t, L = got ++ t
  | 0, m, C, nn, got, L, hf, h, _, _, _, _ => by have := h.few; omega
  | f + 1, m, C, nn, got, L, hf, h, hd, ha, hC, hL => by
    rcases readF_next h hC with ⟨_, _, hm⟩ | ⟨_, _, hl⟩
    · obtain ⟨h1, h2⟩ := hm.disk.calm hd ha
      obtain ⟨t, ht⟩ := read_pre f (by rw [List.length_append, List.length_singleton]; omega) hm.rd h1 h2 hC hL
      exact ⟨[(nextN m).2.1] ++ t, by rw [ht, List.append_assoc]⟩
    · rcases hl.how with ⟨_, h1, _⟩ | ⟨_, h1⟩ | ⟨_, h1⟩
      · exact ⟨[], by rw [file_one hL h1, List.append_nil]⟩
      · exact absurd hL (h1 L)
      · exact absurd ⟨hd, ha⟩ h1
/-- The same, wherever the machine falls later on. -/
theorem read_pre2 {m : N3} {C : ByteArray} {nn : Int} {got L : List ByteArray} (h : ReadF m C nn got) (hin : HasD m.s m.x.nm.data.toList C) (hC : C.size ≤ 100000) (hL : IsFile nn C L) : ∃ t, L = got ++ t :=
  read_pre C.size (m := ⟨upS m.s, m.b, m.x⟩) (by omega) (h.other (s := upS m.s) hin (up_ok h.ok.s) h.ok.b) rfl rfl hC hL
/-- A writer beside calls that write nothing, and beside what others take of the budget. -/
theorem WrOn.other {m : M3} {nm : ByteArray} {nn : Int} {done : List ByteArray} (h : WrOn m nm nn done) {s : St} {b : Bu} (hq : Quiet m.s s) (hok : s.ok) (hb : b.ok) : WrOn ⟨s, b, m.x⟩ nm nn done := by
  obtain ⟨k, ho, hn, hz, ha, j, f, hL⟩ := h
  exact ⟨⟨hok, hb, k.n1, k.n2, k.z, k.wl, k.wz, k.az⟩, ho, hn, hz, ha, j, f, ⟨by rw [hq.get]; exact hL.get, hL.len, hL.wait, hL.data⟩⟩
theorem Fits.other {m : M3} {U : Nat} (h : Fits m U) {s : St} {b : Bu} (hq : Quiet m.s s) : Fits ⟨s, b, m.x⟩ U := by
  unfold Fits at h ⊢
  show used s.fs + _ ≤ _
  rw [hq.fs]; exact h
/-- A source: what it told, and whether it is over. -/
structure SrcF (s : St) (b : Bu) (size : Int) (nm C : ByteArray) (y : Rs) (got : List ByteArray) (over : Bool) : Prop where
  name : y.nm = nm
  told : y.told ≤ 50000
  inv : N3.inv ⟨s, b, y⟩
  file : HasD s nm.data.toList C
  how : (over = false ∧ ReadF ⟨s, b, y⟩ C size got) ∨ (over = true ∧ y.opn = false ∧ y.bad = false ∧ IsFile size C got)
theorem SrcF.opn {s : St} {b : Bu} {size : Int} {nm C : ByteArray} {y : Rs} {got : List ByteArray} {over : Bool} (h : SrcF s b size nm C y got over) : y.opn = !over := by
  rcases h.how with ⟨h1, h2⟩ | ⟨h1, h2, _⟩
  · rw [h1]; exact h2.opn
  · rw [h1]; exact h2
theorem SrcF.sizes {s : St} {b : Bu} {size : Int} {nm C : ByteArray} {y : Rs} {got : List ByteArray} {over : Bool} (h : SrcF s b size nm C y got over) : ∀ x ∈ got, (x.size : Int) = size := by
  rcases h.how with ⟨_, h2⟩ | ⟨_, _, _, h2⟩
  · exact h2.sizes
  · have h1 := h2.1
    unfold layB at h1
    rw [Bool.and_eq_true, allB_iff] at h1
    exact fun r hr => h1.2 r hr
theorem SrcF.pre {s : St} {b : Bu} {size : Int} {nm C : ByteArray} {y : Rs} {got : List ByteArray} {over : Bool} (h : SrcF s b size nm C y got over) (hC : C.size ≤ 100000) {L : List ByteArray} (hL : IsFile size C L) : ∃ t, L = got ++ t := by
  rcases h.how with ⟨_, h2⟩ | ⟨_, _, _, h2⟩
  · exact read_pre2 h2 (by show HasD s y.nm.data.toList C; rw [h.name]; exact h.file) hC hL
  · exact ⟨[], by rw [file_one hL h2, List.append_nil]⟩
theorem inv_other {s s' : St} {b b' : Bu} {y : Rs} (h : N3.inv ⟨s, b, y⟩) : N3.inv ⟨s', b', y⟩ := ⟨h.o, h.c, h.e0, h.e1⟩
theorem SrcF.other {s s' : St} {b b' : Bu} {size : Int} {nm C : ByteArray} {y : Rs} {got : List ByteArray} {over : Bool} (h : SrcF s b size nm C y got over) (hf : HasD s' nm.data.toList C) (hok : s'.ok) (hb : b'.ok) : SrcF s' b' size nm C y got over := by
  refine ⟨h.name, h.told, inv_other h.inv, hf, ?_⟩
  rcases h.how with ⟨h1, h2⟩ | h2
  · exact .inl ⟨h1, h2.other (by show HasD s' y.nm.data.toList C; rw [h.name]; exact hf) hok hb⟩
  · exact .inr h2
theorem nextN_nm2 (m : N3) : (nextN m).1.x.nm = m.x.nm := by
  have sh : ∀ m : N3, (shutN m).x.nm = m.x.nm := fun m => by unfold shutN; split <;> rfl
  unfold nextN
  split
  · rfl
  · split
    · unfold fillN
      split
      · exact sh _
      · split
        · exact sh _
        · split
          · exact sh _
          · rfl
    · rfl
/-- What the next record of a source is. -/
theorem SrcF.next {s : St} {b : Bu} {size : Int} {nm C : ByteArray} {y : Rs} {got : List ByteArray} (h : SrcF s b size nm C y got false) (hC : C.size ≤ 40000) :
    Quiet s (nextN ⟨s, b, y⟩).1.s ∧ (nextN ⟨s, b, y⟩).1.s.ok ∧ (nextN ⟨s, b, y⟩).1.b.ok ∧ (nextN ⟨s, b, y⟩).1.s.calls ≤ s.calls + 1 ∧ N3.inv (nextN ⟨s, b, y⟩).1 ∧
    (((nextN ⟨s, b, y⟩).2.2.1 = true ∧ (nextN ⟨s, b, y⟩).2.2.2 = 0 ∧ (nextN ⟨s, b, y⟩).1.b = b ∧ SrcF (nextN ⟨s, b, y⟩).1.s (nextN ⟨s, b, y⟩).1.b size nm C (nextN ⟨s, b, y⟩).1.x (got ++ [(nextN ⟨s, b, y⟩).2.1]) false) ∨
    ((nextN ⟨s, b, y⟩).2.2.1 = false ∧ (nextN ⟨s, b, y⟩).2.1 = ⟨#[]⟩ ∧ (nextN ⟨s, b, y⟩).1.b = b.give 4 ∧ (nextN ⟨s, b, y⟩).1.x.opn = false ∧
      (((nextN ⟨s, b, y⟩).2.2.2 = 0 ∧ SrcF (nextN ⟨s, b, y⟩).1.s (nextN ⟨s, b, y⟩).1.b size nm C (nextN ⟨s, b, y⟩).1.x got true) ∨ ((nextN ⟨s, b, y⟩).2.2.2 = 6 ∧ ∀ L, ¬ IsFile size C L) ∨ ((nextN ⟨s, b, y⟩).2.2.2 = 5 ∧ ¬ (s.down = false ∧ s.ahead = -1))))) := by
  rcases h.how with ⟨_, hR⟩ | ⟨h1, _⟩
  · have hcalls := nextN_calls ⟨s, b, y⟩
    have hnm : (nextN ⟨s, b, y⟩).1.x.nm = nm := (nextN_nm2 _).trans h.name
    have hfew := hR.few
    have htold := hR.told
    have hc2 : (nextN ⟨s, b, y⟩).1.s.calls ≤ s.calls + 1 := hcalls.2.1
    have ht2 : (nextN ⟨s, b, y⟩).1.x.told ≤ y.told + 1 := hcalls.2.2
    have htd : (nextN ⟨s, b, y⟩).1.x.told ≤ 50000 := by
      have : y.told = got.length := htold
      omega
    rcases readF_next hR (by omega) with ⟨h1, h2, hm⟩ | ⟨h1, h2, hl⟩
    · have hq : Quiet s (nextN ⟨s, b, y⟩).1.s := hm.disk
      exact ⟨hq, hm.rd.ok.s, hm.rd.ok.b, hc2, hm.rd.inv, .inl ⟨h1, h2, hm.bud, hnm, htd, hm.rd.inv, h.file.quiet hq, .inl ⟨rfl, hm.rd⟩⟩⟩
    · have hq : Quiet s (nextN ⟨s, b, y⟩).1.s := hl.disk
      refine ⟨hq, hl.ok.s, hl.ok.b, hc2, hl.inv, .inr ⟨h1, h2, hl.bud, hl.opn, ?_⟩⟩
      rcases hl.how with ⟨k1, k2, k3⟩ | ⟨k1, k2⟩ | ⟨k1, k2⟩
      · exact .inl ⟨k1, hnm, htd, hl.inv, h.file.quiet hq, .inr ⟨rfl, hl.opn, k3, k2⟩⟩
      · exact .inr (.inl ⟨k1, k2⟩)
      · exact .inr (.inr ⟨k1, k2⟩)
  · cases h1
/-- The sources that are open, of the first files. -/
structure Srcs (s : St) (b : Bu) (size : Int) (F : List (ByteArray × ByteArray)) (ys : List Rs) (G : List (List ByteArray × Bool)) : Prop where
  len : ys.length = G.length
  le : ys.length ≤ F.length
  src : ∀ (i : Nat) (nm C : ByteArray) (y : Rs) (g : List ByteArray) (o : Bool), F[i]? = some (nm, C) → ys[i]? = some y → G[i]? = some (g, o) → SrcF s b size nm C y g o
theorem srcs_none (s : St) (b : Bu) (size : Int) (F : List (ByteArray × ByteArray)) : Srcs s b size F [] [] := ⟨rfl, Nat.zero_le _, fun i nm C y g o _ h _ => by simp at h⟩
theorem Srcs.other {s s' : St} {b b' : Bu} {size : Int} {F : List (ByteArray × ByteArray)} {ys : List Rs} {G : List (List ByteArray × Bool)} (h : Srcs s b size F ys G) (hf : ∀ p ∈ F, HasD s' p.1.data.toList p.2) (hok : s'.ok) (hb : b'.ok) : Srcs s' b' size F ys G :=
  ⟨h.len, h.le, fun i nm C y g o h1 h2 h3 => (h.src i nm C y g o h1 h2 h3).other (hf _ (List.mem_of_getElem? h1)) hok hb⟩
/-- One more is opened. -/
theorem Srcs.open {s s' : St} {b b' : Bu} {size : Int} {F : List (ByteArray × ByteArray)} {ys : List Rs} {G : List (List ByteArray × Bool)} (h : Srcs s b size F ys G) (hf : ∀ p ∈ F, HasD s' p.1.data.toList p.2) {nm C : ByteArray} (hi : F[ys.length]? = some (nm, C)) {left : Nat} (hR : ReadF ⟨s', b', newRs nm size left⟩ C size []) : Srcs s' b' size F (ys ++ [newRs nm size left]) (G ++ [([], false)]) := by
  refine ⟨by rw [List.length_append, List.length_append, h.len]; rfl, by rw [List.length_append, List.length_singleton]; exact (List.getElem?_eq_some_iff.1 hi).1, fun i nm2 C2 y g o h1 h2 h3 => ?_⟩
  rcases Nat.lt_or_ge i ys.length with hlt | hge
  · rw [List.getElem?_append_left hlt] at h2
    rw [List.getElem?_append_left (by rw [← h.len]; exact hlt)] at h3
    exact (h.src i nm2 C2 y g o h1 h2 h3).other (hf _ (List.mem_of_getElem? h1)) hR.ok.s hR.ok.b
  · have hile : i < (ys ++ [newRs nm size left]).length := (List.getElem?_eq_some_iff.1 h2).1
    rw [List.length_append, List.length_singleton] at hile
    obtain rfl : i = ys.length := by omega
    rw [hi] at h1
    cases h1
    rw [List.getElem?_append_right (Nat.le_refl _), Nat.sub_self] at h2
    rw [List.getElem?_append_right (by rw [h.len]; exact Nat.le_refl _), h.len, Nat.sub_self] at h3
    simp only [List.getElem?_cons_zero, Option.some.injEq, Prod.mk.injEq] at h2 h3
    obtain ⟨rfl, rfl⟩ := h3
    subst h2
    exact ⟨rfl, Nat.zero_le _, hR.inv, hf _ (List.mem_of_getElem? hi), .inl ⟨rfl, hR⟩⟩
/-- One of them is turned, and with it the disk and the budget. -/
theorem Srcs.turn {s s' : St} {b b' : Bu} {size : Int} {F : List (ByteArray × ByteArray)} {ys : List Rs} {G : List (List ByteArray × Bool)} (h : Srcs s b size F ys G) (hf : ∀ p ∈ F, HasD s' p.1.data.toList p.2) (hok : s'.ok) (hb : b'.ok) {i : Nat} {nm C : ByteArray} {y : Rs} {g : List ByteArray} {o : Bool} (hi : F[i]? = some (nm, C)) (hy : i < ys.length) (hS : SrcF s' b' size nm C y g o) : Srcs s' b' size F (ys.set i y) (G.set i (g, o)) := by
  refine ⟨by rw [List.length_set, List.length_set]; exact h.len, by rw [List.length_set]; exact h.le, fun j nm2 C2 y2 g2 o2 h1 h2 h3 => ?_⟩
  by_cases hj : j = i
  · subst hj
    rw [hi] at h1
    cases h1
    rw [List.getElem?_set_self hy] at h2
    rw [List.getElem?_set_self (by rw [← h.len]; exact hy)] at h3
    cases h2; cases h3
    exact hS
  · rw [List.getElem?_set_ne (Ne.symm hj)] at h2 h3
    exact (h.src j nm2 C2 y2 g2 o2 h1 h2 h3).other (hf _ (List.mem_of_getElem? h1)) hok hb
/-- How many are open. -/
def opnN (ys : List Rs) : Nat := (ys.filter fun y => y.opn).length
theorem opn_snoc (ys : List Rs) {y : Rs} (h : y.opn = true) : opnN (ys ++ [y]) = opnN ys + 1 := by
  unfold opnN; rw [List.filter_append, List.length_append]; simp [h]
theorem opn_set : ∀ {ys : List Rs} {i : Nat} {y y' : Rs}, ys[i]? = some y → opnN (ys.set i y') + (if y.opn = true then 1 else 0) = opnN ys + (if y'.opn = true then 1 else 0)
  | [], i, y, y', h => by simp at h
  | a :: ys, 0, y, y', h => by
    simp only [List.getElem?_cons_zero, Option.some.injEq] at h
    subst h
    unfold opnN
    rw [List.set_cons_zero, List.filter_cons, List.filter_cons]
    split <;> split <;> simp <;> omega
  | a :: ys, i + 1, y, y', h => by
    simp only [List.getElem?_cons_succ] at h
    have ih := opn_set (y' := y') h
    unfold opnN at ih ⊢
    rw [List.set_cons_succ, List.filter_cons, List.filter_cons]
    split
    · simp only [List.length_cons]; omega
    · exact ih
theorem opn_le (ys : List Rs) : opnN ys ≤ ys.length := List.length_filter_le _ _
/-- What Merge leaves of a disk and a budget: F are the files' names and bytes. -/
structure MergeR (s : St) (b : Bu) (F : List (ByteArray × ByteArray)) (out : ByteArray) (size : Int) (u : Bool) (s' : St) (b' : Bu) (k c er : Int) : Prop where
  zero : er ≠ 0 → k = 0 ∧ c = 0
  ok : s'.ok
  now : b'.now = b.now
  bm : b'.m = b.m
  calls : s'.calls ≤ s.calls + 1000000
  oth : ∃ d, d ≤ 1 ∧ Oth out.data.toList d s s'
  yes : er = 0 → ∃ Ls : List (List ByteArray), Ls.length = F.length ∧ (∀ (i : Nat) (nm C : ByteArray) (L : List ByteArray), F[i]? = some (nm, C) → Ls[i]? = some L → IsFile size C L ∧ Srt L) ∧ HasD s' out.data.toList (bs (layL size (sortT Ls.flatten u))) ∧ k = ((sortT Ls.flatten u).length : Nat) ∧ c = (sumN (sortT Ls.flatten u) : Nat) ∧ s'.fs.length = s.fs.length + 1
  code : ∀ Ls : List (List ByteArray), Ls.length = F.length → (∀ (i : Nat) (nm C : ByteArray) (L : List ByteArray), F[i]? = some (nm, C) → Ls[i]? = some L → IsFile size C L) → F.length ≤ 64 → sizeB size = true → 4 * (F.length : Int) + 4 ≤ b.m - b.now → er = 4 ∨ er = 5 ∨ (er = 0 ∧ ∀ L ∈ Ls, Srt L) ∨ (er = 13 ∧ ¬ ∀ L ∈ Ls, Srt L)
  calm : ∀ Ls : List (List ByteArray), Ls.length = F.length → (∀ (i : Nat) (nm C : ByteArray) (L : List ByteArray), F[i]? = some (nm, C) → Ls[i]? = some L → IsFile size C L) → F.length ≤ 64 → sizeB size = true → 4 * (F.length : Int) + 4 ≤ b.m - b.now → WrPlain.Calm s → s.fs.length ≤ 150 → (used s.fs : Int) + 28 + 69 * (Ls.flatten.length : Nat) ≤ s.room → er ≠ 4 ∧ er ≠ 5 ∧ WrPlain.Calm s'
end Go.Proofs.YtpmglnghnelenaaGreat
/- Readers closed by calls that are put off, one for each, the last one first; their budget. -/
namespace Go.Proofs.YtpmglnghnelenaaGreat
open Go.RowKit FsPlain CrcPlain OctPlain FramePlain RecPlain RdPlain WrPlain
set_option linter.unusedVariables false
set_option linter.unusedSimpArgs false
set_option maxRecDepth 20000
/-- A Close that is put off. -/
def closeD (x : Nat) : Deferred := { target := .fn (.func 29) #[], args := #[.pointer (some ⟨x, 0, none⟩)] }
theorem closeN_parts (s : St) (b : Bu) (y : Rs) : (closeN ⟨s, b, y⟩).s = s ∧ (closeN ⟨s, b, y⟩).b = (if y.opn = true then b.give 4 else b) ∧ (closeN ⟨s, b, y⟩).x.opn = false := by
  cases ho : y.opn
  · have e : closeN ⟨s, b, y⟩ = ⟨s, b, y⟩ := by unfold closeN; rw [if_neg (by rw [ho]; decide)]
    rw [e]
    exact ⟨rfl, by simp, ho⟩
  · have e : closeN ⟨s, b, y⟩ = ⟨s, b.give 4, { y with bad := true, opn := false }⟩ := by unfold closeN wrongN shutN; rw [if_pos ho, if_pos (show (N3.isBad ⟨s, b, y⟩).x.opn = true from ho)]; rfl
    rw [e]
    exact ⟨rfl, by simp, rfl⟩
/-- What is left of a budget when readers that hold four each are shut. -/
structure Left (b b' : Bu) (n : Nat) : Prop where
  now : b'.now = b.now - 4 * (n : Int)
  m : b'.m = b.m
  ok : b'.ok
theorem left_zero {b : Bu} (h : b.ok) : Left b b 0 := ⟨by simp, rfl, h⟩
theorem Left.step {b b' : Bu} {n : Nat} (h : Left b b' n) (hn : 4 * ((n : Int) + 1) ≤ b.now) : Left b (b'.give 4) (n + 1) := by
  have h1 := h.now
  refine ⟨?_, ?_, Bu.give_ok h.ok 4⟩
  · unfold Bu.give; rw [if_neg (by omega)]; simp only []; omega
  · unfold Bu.give; rw [if_neg (by omega)]; exact h.m
/-- Of a frame that puts off as many Closes as there are readers ahead of k. -/
theorem leaves_rds {fn : Func} {tmps : Array Value} {R : Ending → World → Prop} {ds : List Deferred} {D P : Nat} {s : St} {b0 : Bu} {M : List Asn} {w0 : World} {B0 : Nat → Prop} (hM : Frs M) :
    ∀ (k : Nat) (rs : List (Nat × Rs)) (b : Bu) (n : Nat) (w : World) (B : Nat → Prop), k ≤ rs.length → (∀ r ∈ rs, N3.inv ⟨s, b, r.2⟩) → Left b0 b n → 4 * ((n : Int) + (opnN ((rs.take k).map (·.2)) : Nat)) ≤ b0.now → stars (rdsA D P rs ++ ([DiskA D s, BuA P b] ++ M)) w B → Nx B0 w0 B w →
      (∀ (rs' : List (Nat × Rs)) (b' : Bu) (w' : World) (B' : Nat → Prop), Left b0 b' (n + opnN ((rs.take k).map (·.2))) → stars (rdsA D P rs' ++ ([DiskA D s, BuA P b'] ++ M)) w' B' → Nx B0 w0 B' w' → Leaves Tryz.prog fn tmps R ds .returning w') →
      Leaves Tryz.prog fn tmps R ((((rs.take k).map fun r => closeD r.1).reverse) ++ ds) .returning w
  | 0, rs, b, n, w, B, hk, hi, hL, hn, hst, nx, cont => by
    have := cont rs b w B (by simpa [opnN] using hL) hst nx
    simpa using this
  | k + 1, rs, b, n, w, B, hk, hi, hL, hn, hst, nx, cont => by
    obtain ⟨r, hr⟩ : ∃ r, rs[k]? = some r := ⟨rs[k]'(by omega), List.getElem?_eq_getElem _⟩
    obtain ⟨x, y⟩ := r
    have hstep : rs.take (k + 1) = rs.take k ++ [(x, y)] := by rw [List.take_add_one, hr]; rfl
    have hop : opnN ((rs.take (k + 1)).map (·.2)) = opnN ((rs.take k).map (·.2)) + (if y.opn = true then 1 else 0) := by
      rw [hstep, List.map_append]
      unfold opnN
      rw [List.filter_append, List.length_append]
      cases hy : y.opn <;> simp [hy]
    rw [hstep, List.map_append, List.map_cons, List.map_nil, List.reverse_append, List.reverse_cons, List.reverse_nil, List.nil_append, List.cons_append, List.nil_append]
    obtain ⟨e1, e2, e3⟩ := closeN_parts s b y
    have hC := rds_close_d .returning hr (hi _ (List.mem_of_getElem? hr)) hM hst
    rw [e1, e2] at hC
    show Leaves Tryz.prog fn tmps R ({ target := .fn (.func 29) #[], args := #[.pointer (some ⟨x, 0, none⟩)] } :: (((rs.take k).map fun r => closeD r.1).reverse ++ ds)) .returning w
    refine leaves_cons (f := 29) (args := #[.pointer (some ⟨x, 0, none⟩)]) (by simp) (by simp [go_sem]) ?_
    refine hC.mono ?_
    rintro e u' w' ⟨rfl, rfl, B', h', n'⟩
    have ht : ((rs.set k (x, (closeN ⟨s, b, y⟩).x)).take k) = rs.take k := by rw [List.take_set_of_le (Nat.le_refl k)]
    have key := leaves_rds hM (fn := fn) (tmps := tmps) (R := R) (ds := ds) (D := D) (P := P) (s := s) (b0 := b0) (w0 := w0) (B0 := B0) k (rs.set k (x, (closeN ⟨s, b, y⟩).x)) (if y.opn = true then b.give 4 else b) (n + if y.opn = true then 1 else 0) w' B' (by rw [List.length_set]; omega) (fun r hr2 => by
      rcases List.mem_or_eq_of_mem_set hr2 with h | h
      · exact inv_other (hi r h)
      · rw [h]; exact inv_other (inv_closeN (hi _ (List.mem_of_getElem? hr)))) (by
      cases ho : y.opn
      · simpa using hL
      · rw [ho] at hop
        simp only [if_true] at hop ⊢
        exact hL.step (by omega)) (by rw [ht]; rw [hop] at hn; omega) h' (nx.trans n') (fun rs' b' w2 B2 h1 h2 h3 => by
        rw [ht] at h1
        refine cont rs' b' w2 B2 ?_ h2 h3
        rw [hop]
        rw [show n + (opnN ((rs.take k).map (·.2)) + if y.opn = true then 1 else 0) = n + (if y.opn = true then 1 else 0) + opnN ((rs.take k).map (·.2)) by omega]
        exact h1)
    rw [ht] at key
    exact key
end Go.Proofs.YtpmglnghnelenaaGreat
