/- A range over a function that hands out what lies in new memory: the loop's body is told what holds of it then (Pr). Beside the library's law: there a body knows of a value no more than its type. -/
import Derived.Test.YtipfdildnnfmkaaBase
import Derived.RangeFuncNested
import Derived.RangeFuncBox
namespace Go.Proofs.Ytipfdildnnfmkaa
open Go.RowKit
set_option linter.unusedVariables false
set_option linter.unusedSimpArgs false
set_option maxRecDepth 20000
/-- The iterator's word: behind pre it asks for a round of x only where Pr holds of both. -/
def SeqTold {α : Type} (n : Nat) (P : Program) (g : Nat) (lb : Array Value) (encs : α → Array Value) (Pr : List α → α → World → Prop) (Kp : World → World → Prop) (S Sp : List α → Prop) (w : World) : Prop :=
  ∀ (l : Nat) (J Jx : List α → World → Prop) (W : World), Below w.heap.size w W → (∀ s A B, J s A → Gr A B → J s B) →
    (∀ pre x W1, J pre W1 → Pr pre x W1 → YieldAt Fence.wide (n - 1) P l (encs x) W1 fun e W' =>
      (e = .returned (.bool true) ∧ J (pre ++ [x]) W' ∧ Kp W1 W') ∨ (e = .returned (.bool false) ∧ Jx (pre ++ [x]) W')) →
    J [] W →
    CallsIn Fence.wide n P g (#[.func (.yield l) #[] #[]] ++ lb) W fun e W' => (∃ v, e = .returned v) ∧ ((∃ xs, S xs ∧ J xs W') ∨ (∃ pre, Sp pre ∧ Jx pre W'))

theorem gr_grown {A B : World} (h : Gr A B) : A.grownBy B none := ⟨h.1, h.2, h.3, h.size, fun k hk _ => h.block k hk⟩
theorem own_gr {β : Type} {C : Nat} {I : β → World → Prop} (h : OwnFrom C I) {s : β} {A B : World} (hs : I s A) (g : Gr A B) : I s B := h s A B none hs (gr_grown g) (fun r e => by cases e)

/-- The loop's record at l is r, and the block at D for its rounds' deferred calls is empty. -/
def LoopAt (l D : Nat) (r : Loop) (W : World) : Prop := W.heap[l]? = some (.loop r) ∧ W.heap[D]? = some (.deferred (some []))
theorem LoopAt.turn {l D : Nat} {r : Loop} {W : World} (h : LoopAt l D r W) (hne : l ≠ D) (r' : Loop) : LoopAt l D r' (W.putObj l (.loop r')) :=
  ⟨World.putObj_heap_same (Array.getElem?_eq_some_iff.1 h.1).1, (World.putObj_heap_other (Ne.symm hne)).trans h.2⟩
theorem LoopAt.kept {C l D : Nat} {r : Loop} {A B : World} (h : LoopAt l D r A) (hl : C ≤ l) (hD : C ≤ D) (k : KeepsFrom C A B) : LoopAt l D r B := ⟨k.same _ _ hl h.1 rfl, k.same _ _ hD h.2 rfl⟩
theorem LoopAt.gr {l D : Nat} {r : Loop} {A B : World} (h : LoopAt l D r A) (g : Gr A B) : LoopAt l D r B :=
  ⟨(g.block l (Array.getElem?_eq_some_iff.1 h.1).1).trans h.1, (g.block D (Array.getElem?_eq_some_iff.1 h.2).1).trans h.2⟩
/-- What a jump out of a body leaves to be done. -/
def JumpOf : Exit → Option (Option Code)
  | .normal => some none
  | .ret => some (some .ret)
  | .exit id => some (some (.exit id))
  | .goto t => some (some (.goto t))
  | .panic _ => none
  | .outgrown => none
/-- What a body's walk owes, by the jump by which it is left: none: it goes on. -/
def ToldPost {α : Type} (C : Nat) (Kp : World → World → Prop) (I : List α → World → Prop) (Ix : Code → List α → World → Prop) (xs : List α) (W : World) (e : Exit) (_ : Act) (W' : World) : Prop :=
  ∃ j, JumpOf e = some j ∧ KeepsFrom C W W' ∧ (j = none → Kp W W' ∧ I xs W') ∧ (∀ c, j = some c → Ix c xs W')
theorem told_on {α : Type} {C : Nat} {Kp : World → World → Prop} {I : List α → World → Prop} {Ix : Code → List α → World → Prop} {xs : List α} {W W' : World} {a : Act} (h1 : KeepsFrom C W W') (h2 : Kp W W') (h3 : I xs W') : ToldPost C Kp I Ix xs W .normal a W' :=
  ⟨none, rfl, h1, fun _ => ⟨h2, h3⟩, fun c e => by cases e⟩
theorem told_exit {α : Type} {C : Nat} {Kp : World → World → Prop} {I : List α → World → Prop} {Ix : Code → List α → World → Prop} {xs : List α} {W W' : World} {a : Act} {id : Nat} (h1 : KeepsFrom C W W') (h3 : Ix (.exit id) xs W') : ToldPost C Kp I Ix xs W (.exit id) a W' :=
  ⟨some (.exit id), rfl, h1, fun e => (by cases e), fun c e => by cases e; exact h3⟩
theorem told_ret {α : Type} {C : Nat} {Kp : World → World → Prop} {I : List α → World → Prop} {Ix : Code → List α → World → Prop} {xs : List α} {W W' : World} {a : Act} (h1 : KeepsFrom C W W') (h3 : Ix .ret xs W') : ToldPost C Kp I Ix xs W .ret a W' :=
  ⟨some .ret, rfl, h1, fun e => (by cases e), fun c e => by cases e; exact h3⟩

section
variable {α : Type} {n : Nat} {P : Program} {gf : Nat} {lb : Array Value} {encs : α → Array Value} {Pr : List α → α → World → Prop} {Kp : World → World → Prop} {S Sp : List α → Prop}
/-- A round that has come to its end by the jump j. -/
theorem told_end {C l D : Nat} {r : Loop} {I : List α → World → Prop} {Ix : Code → List α → World → Prop} {xs : List α} {W1 W3 : World} (hC : C ≤ l) (hne : l ≠ D)
    (hI : OwnFrom C I) (hIx : ∀ c, OwnFrom C (Ix c)) (hKb : ∀ (W : World) (o o' : Obj), W.heap[l]? = some o → o.isCells = false → Kp W (W.putObj l o')) (hKt : ∀ {A B C : World}, Kp A B → Kp B C → Kp A C)
    (hl : LoopAt l D r W3) (j : Option Code) (h1 : j = none → Kp W1 W3 ∧ I xs W3) (h2 : ∀ c, j = some c → Ix c xs W3) :
    ∃ v w', (Instr.endRound l j).run P W3 = .ok v w' ∧ ((Ending.returned v = .returned (.bool true) ∧ (I xs w' ∧ LoopAt l D { r with state := .ready, pending := none } w') ∧ Kp W1 w') ∨
      (Ending.returned v = .returned (.bool false) ∧ ∃ c, Ix c xs w' ∧ LoopAt l D { r with state := .done, pending := some c } w')) := by
  refine ⟨_, _, run_endRound j hl.1, ?_⟩
  cases j with
  | none => exact .inl ⟨rfl, ⟨hI.putObj _ (h1 rfl).2 hC hl.1 rfl, hl.turn hne _⟩, hKt (h1 rfl).1 (hKb _ _ _ hl.1 rfl)⟩
  | some c => exact .inr ⟨rfl, c, (hIx c).putObj _ (h2 c rfl) hC hl.1 rfl, hl.turn hne _⟩
/-- The statement 'for .. := range g', where g is a closure. -/
theorem wpIn_told {g : Operand} {ps : Array Tmp} {assign body : Code} {Q : Exit → Act → World → Prop} {a : Act} {w w0 : World}
    (h1 : 1 ≤ n) (hg : a.eval g = .func (.func gf) #[] lb) (eg : ∀ args w, (callFunc gf args).run P w = .ok (.enter gf args) w)
    (hseq : SeqTold (n - 1) P gf lb encs Pr Kp S Sp w0) (hKt : ∀ {A B C : World}, Kp A B → Kp B C → Kp A C)
    (hKb : ∀ (W : World) (l : Nat) (o o' : Obj), w.heap.size ≤ l → W.heap[l]? = some o → o.isCells = false → Kp W (W.putObj l o'))
    (hb0 : Below w0.heap.size w0 w) (hps : ∀ x, (encs x).size = ps.size)
    (I : List α → World → Prop) (Ix : Code → List α → World → Prop) (hI : OwnFrom w.heap.size I) (hIx : ∀ c, OwnFrom w.heap.size (Ix c)) (hPr : ∀ pre, OwnFrom w.heap.size (Pr pre)) (h0 : I [] w) (a₁ : α → Act)
    (hassign : ∀ (l : Nat) (x : α) (W : World) (K : Act → World → Prop), K (a₁ x) W →
      assign.wpIn (Fence.wide.inRound l) (n - 1 - 1) P (Exit.then K (fun _ _ _ => False)) { tmps := (ps.zip (encs x)).foldl (fun t (p, v) => t.setIfInBounds p v) a.tmps, defers := [] } W)
    (hbody : ∀ (l : Nat) (pre : List α) (x : α) (W : World), I pre W → Pr pre x W → body.wpIn (Fence.wide.inRound l) (n - 1 - 1) P (ToldPost w.heap.size Kp I Ix (pre ++ [x]) W) (a₁ x) W)
    (hdone : ∀ (D : Nat) (xs : List α) (W : World), w.heap.size ≤ D → S xs → I xs W → W.heap[D]? = some (.deferred (some [])) → Q .normal { a with defers := { target := .collected D, args := #[] } :: a.defers } W)
    (hstop : ∀ (D : Nat) (c : Code) (pre : List α) (W : World), w.heap.size ≤ D → Sp pre → Ix c pre W → W.heap[D]? = some (.deferred (some [])) → c.wpIn Fence.wide n P Q { a with defers := { target := .collected D, args := #[] } :: a.defers } W) :
    (Code.rangeFunc g ps assign body).wpIn Fence.wide n P Q a w := by
  refine wpIn_rangeFunc fun fn hfn => ?_
  obtain ⟨D, hD⟩ : ∃ D, D = w.heap.size := ⟨_, rfl⟩
  obtain ⟨l, hl⟩ : ∃ l, l = w.heap.size + 1 := ⟨_, rfl⟩
  have hne : l ≠ D := by omega
  obtain ⟨r, hr⟩ : ∃ r : Loop, r = { state := .ready, pending := none, fn, tmps := a.tmps, params := ps, assign, body, defers := w.heap.size } := ⟨_, rfl⟩
  obtain ⟨W1, hW1⟩ : ∃ W1, W1 = (w.alloc (.deferred (some []))).alloc (.loop r) := ⟨_, rfl⟩
  have hg1 : Gr w W1 := by rw [hW1]; exact ((Gr.refl w).alloc (Nat.le_refl _) _).alloc (by simp) _
  have hL1 : LoopAt l D r W1 := by
    rw [hW1, hl, hD]
    refine ⟨?_, (Below.heap_alloc _ _ _ (by simp)).trans (World.alloc_heap_new w _)⟩
    have := World.alloc_heap_new (w.alloc (.deferred (some []))) (.loop r)
    rwa [World.size_alloc] at this
  refine ⟨l, [{ target := .collected w.heap.size, args := #[] }], W1, { target := .fn (.func gf) lb, args := #[.func (.yield l) #[] #[]] }, W1, gf, #[.func (.yield l) #[] #[]] ++ lb, W1, ?_, ?_, fun _ _ => trivial, ?_, fun _ => h1, ?_⟩
  · rw [hW1, hr, hl]; exact run_enterLoop_outer _ _ _ _ _
  · simp only [resolve, hg]; simp [go_sem]
  · simp [invoke, go_sem, eg]
  refine (hseq l (fun pre W => I pre W ∧ LoopAt l D r W) (fun pre W => ∃ c, Ix c pre W ∧ LoopAt l D { r with state := .done, pending := some c } W) W1
    (hb0.trans (Below.mono hg1 hb0.size)) (fun s A B hs g => ⟨own_gr hI hs.1 g, hs.2.gr g⟩) ?_ ⟨own_gr hI h0 hg1, hL1⟩).mono ?_
  · rintro pre x W ⟨hi, hla⟩ hx
    have hCl : w.heap.size ≤ l := by omega
    have hy := run_yield (P := P) (args := encs x) hla.1 (by rw [hr]; exact hps x)
    obtain ⟨W2, hW2⟩ : ∃ W2, W2 = W.putObj l (.loop { r with state := .busy }) := ⟨_, rfl⟩
    have hbeg : (Instr.beginRound l).run P W = .ok () W2 := by rw [hW2]; exact run_beginRound hla.1 (by rw [hr])
    have hl2 : LoopAt l D { r with state := .busy } W2 := by rw [hW2]; exact hla.turn hne _
    have hk2 : Kp W W2 := by rw [hW2]; exact hKb _ _ _ _ hCl hla.1 rfl
    have hi2 : I pre W2 := by rw [hW2]; exact hI.putObj _ hi hCl hla.1 rfl
    have hx2 : Pr pre x W2 := by rw [hW2]; exact (hPr pre).putObj _ hx hCl hla.1 rfl
    have hrt : r.tmps = a.tmps ∧ r.params = ps ∧ r.assign = assign ∧ r.body = body ∧ r.fn = fn := by rw [hr]; exact ⟨rfl, rfl, rfl, rfl, rfl⟩
    rw [hrt.1, hrt.2.1, hrt.2.2.1, hrt.2.2.2.1, hrt.2.2.2.2] at hy
    refine ⟨fn, _, assign, body, hy, roundIn_of_wpIn hfn (hassign _ x W _ ⟨W2, hbeg, ?_⟩)⟩
    refine wpIn_mono (hbody l pre x W2 hi2 hx2) ?_
    rintro e a3 W3 ⟨j, hj, hk3, hn, hc⟩
    have hend := told_end (P := P) (W1 := W) (Ix := Ix) hCl hne hI hIx (fun W o o' h ho => hKb W l o o' hCl h ho) hKt (hl2.kept hCl (by omega) hk3) j (fun e => ⟨hKt hk2 (hn e).1, (hn e).2⟩) hc
    have hready : ({ ({ r with state := .busy } : Loop) with state := .ready, pending := none } : Loop) = r := by rw [hr]
    have hdn : ∀ c, ({ ({ r with state := .busy } : Loop) with state := .done, pending := some c } : Loop) = { r with state := .done, pending := some c } := fun c => rfl
    rw [hready] at hend
    cases e <;> simp only [JumpOf, Option.some.injEq, reduceCtorEq] at hj <;> subst hj <;> exact hend
  · have hCl : w.heap.size ≤ l := by omega
    subst hD
    rintro e W2 ⟨⟨v, rfl⟩, (⟨xs, hS, hi, hla⟩ | ⟨pre, hSp, c, hi, hla⟩)⟩
    · have hpe : r.pending = none := by rw [hr]
      have := run_endLoop (P := P) hla.1 (by rw [hr]; simp)
      rw [hpe] at this
      exact ⟨none, _, this, hdone _ xs _ (Nat.le_refl _) hS (hI.putObj _ hi hCl hla.1 rfl) (hla.turn hne _).2⟩
    · have := run_endLoop (P := P) hla.1 (by simp)
      exact ⟨some c, _, this, hstop _ c pre _ (Nat.le_refl _) hSp ((hIx c).putObj _ hi hCl hla.1 rfl) (hla.turn hne _).2⟩
end
end Go.Proofs.Ytipfdildnnfmkaa
