/- In one text: Told, Chunk, Build, RecLay. -/
import Derived.Test.YtpmglnghnelenaaGreatP00
import Derived.RangeFuncNested
import Derived.RangeFuncBox
import Derived.Test.YtpmglnghnelenaaGreatP14
import Derived.RangeFuncBound
import Derived.RangeFuncCalls
import Derived.RangeFuncLeaves
import Derived.Shelf.Abstract
import Derived.Shelf.RegionOpen
import Derived.OwnWalkIn
import Derived.TacticsInMore
import Derived.LoopNIn
import Derived.LoopIn
import Derived.Shelf.Strings.BuilderK
import Derived.Test.YtpmglnghnelenaaGreatP02
import Derived.Test.YtpmglnghnelenaaGreatP08
import Derived.Test.YtpmglnghnelenaaGreatP06
/- A range over a function that hands out what lies in new memory: the loop's body is told what holds of it then (Pr). Beside the library's law: there a body knows of a value no more than its type. -/
namespace Go.Proofs.YtpmglnghnelenaaGreat
open Go.RowKit
set_option linter.unusedVariables false
set_option linter.unusedSimpArgs false
set_option maxRecDepth 20000
/-- The iterator's word: behind pre it asks for a round of x only where Pr holds of both. -/
def SeqTold {α : Type} (n : Nat) (P : Program) (g : Nat) (lb : Array Value) (encs : α → Array Value) (Pr : List α → α → World → Prop) (Kp : World → World → Prop) (S Sp : List α → Prop) (w : World) : Prop :=
  ∀ (l : Nat) (J Jx : List α → World → Prop) (W : World), Below w.heap.size w W → (∀ s A B, J s A → Gr A B → J s B) →
    (∀ pre x W1, J pre W1 → Pr pre x W1 → YieldAt Fence.wide (n - 1) P l (encs x) W1 fun e W' =>
      (e = .returned (.bool true) ∧ J (pre ++ [x]) W' ∧ Kp W1 W') ∨ (e = .returned (.bool false) ∧ Jx (pre ++ [x]) W')) →
    J [] W →
    CallsIn Fence.wide n P g (#[.func (.yield l) #[] #[]] ++ lb) W fun e W' => (∃ v, e = .returned v) ∧ ((∃ xs, S xs ∧ J xs W') ∨ (∃ pre, Sp pre ∧ Jx pre W'))

theorem gr_grown {A B : World} (h : Gr A B) : A.grownBy B none := ⟨h.1, h.2, h.3, h.size, fun k hk _ => h.block k hk⟩
theorem own_gr {β : Type} {C : Nat} {I : β → World → Prop} (h : OwnFrom C I) {s : β} {A B : World} (hs : I s A) (g : Gr A B) : I s B := h s A B none hs (gr_grown g) (fun r e => by cases e)

/-- The loop's record at l is r, and the block at D for its rounds' deferred calls is empty. -/
def LoopAt (l D : Nat) (r : Loop) (W : World) : Prop := W.heap[l]? = some (.loop r) ∧ W.heap[D]? = some (.deferred (some []))
theorem LoopAt.turn {l D : Nat} {r : Loop} {W : World} (h : LoopAt l D r W) (hne : l ≠ D) (r' : Loop) : LoopAt l D r' (W.putObj l (.loop r')) :=
  ⟨World.putObj_heap_same (Array.getElem?_eq_some_iff.1 h.1).1, (World.putObj_heap_other (Ne.symm hne)).trans h.2⟩
theorem LoopAt.kept {C l D : Nat} {r : Loop} {A B : World} (h : LoopAt l D r A) (hl : C ≤ l) (hD : C ≤ D) (k : KeepsFrom C A B) : LoopAt l D r B := ⟨k.same _ _ hl h.1 rfl, k.same _ _ hD h.2 rfl⟩
theorem LoopAt.gr {l D : Nat} {r : Loop} {A B : World} (h : LoopAt l D r A) (g : Gr A B) : LoopAt l D r B :=
  ⟨(g.block l (Array.getElem?_eq_some_iff.1 h.1).1).trans h.1, (g.block D (Array.getElem?_eq_some_iff.1 h.2).1).trans h.2⟩
/-- What a jump out of a body leaves to be done. -/
def JumpOf : Exit → Option (Option Code)
  | .normal => some none
  | .ret => some (some .ret)
  | .exit id => some (some (.exit id))
  | .goto t => some (some (.goto t))
  | .panic _ => none
  | .outgrown => none
/-- What a body's walk owes, by the jump by which it is left: none: it goes on. -/
def ToldPost {α : Type} (C : Nat) (Kp : World → World → Prop) (I : List α → World → Prop) (Ix : Code → List α → World → Prop) (xs : List α) (W : World) (e : Exit) (_ : Act) (W' : World) : Prop :=
  ∃ j, JumpOf e = some j ∧ KeepsFrom C W W' ∧ (j = none → Kp W W' ∧ I xs W') ∧ (∀ c, j = some c → Ix c xs W')
theorem told_on {α : Type} {C : Nat} {Kp : World → World → Prop} {I : List α → World → Prop} {Ix : Code → List α → World → Prop} {xs : List α} {W W' : World} {a : Act} (h1 : KeepsFrom C W W') (h2 : Kp W W') (h3 : I xs W') : ToldPost C Kp I Ix xs W .normal a W' :=
  ⟨none, rfl, h1, fun _ => ⟨h2, h3⟩, fun c e => by cases e⟩
theorem told_exit {α : Type} {C : Nat} {Kp : World → World → Prop} {I : List α → World → Prop} {Ix : Code → List α → World → Prop} {xs : List α} {W W' : World} {a : Act} {id : Nat} (h1 : KeepsFrom C W W') (h3 : Ix (.exit id) xs W') : ToldPost C Kp I Ix xs W (.exit id) a W' :=
  ⟨some (.exit id), rfl, h1, fun e => (by cases e), fun c e => by cases e; exact h3⟩
theorem told_ret {α : Type} {C : Nat} {Kp : World → World → Prop} {I : List α → World → Prop} {Ix : Code → List α → World → Prop} {xs : List α} {W W' : World} {a : Act} (h1 : KeepsFrom C W W') (h3 : Ix .ret xs W') : ToldPost C Kp I Ix xs W .ret a W' :=
  ⟨some .ret, rfl, h1, fun e => (by cases e), fun c e => by cases e; exact h3⟩

section
variable {α : Type} {n : Nat} {P : Program} {gf : Nat} {lb : Array Value} {encs : α → Array Value} {Pr : List α → α → World → Prop} {Kp : World → World → Prop} {S Sp : List α → Prop}
/-- A round that has come to its end by the jump j. -/
theorem told_end {C l D : Nat} {r : Loop} {I : List α → World → Prop} {Ix : Code → List α → World → Prop} {xs : List α} {W1 W3 : World} (hC : C ≤ l) (hne : l ≠ D)
    (hI : OwnFrom C I) (hIx : ∀ c, OwnFrom C (Ix c)) (hKb : ∀ (W : World) (o o' : Obj), W.heap[l]? = some o → o.isCells = false → Kp W (W.putObj l o')) (hKt : ∀ {A B C : World}, Kp A B → Kp B C → Kp A C)
    (hl : LoopAt l D r W3) (j : Option Code) (h1 : j = none → Kp W1 W3 ∧ I xs W3) (h2 : ∀ c, j = some c → Ix c xs W3) :
    ∃ v w', (Instr.endRound l j).run P W3 = .ok v w' ∧ ((Ending.returned v = .returned (.bool true) ∧ (I xs w' ∧ LoopAt l D { r with state := .ready, pending := none } w') ∧ Kp W1 w') ∨
      (Ending.returned v = .returned (.bool false) ∧ ∃ c, Ix c xs w' ∧ LoopAt l D { r with state := .done, pending := some c } w')) := by
  refine ⟨_, _, run_endRound j hl.1, ?_⟩
  cases j with
  | none => exact .inl ⟨rfl, ⟨hI.putObj _ (h1 rfl).2 hC hl.1 rfl, hl.turn hne _⟩, hKt (h1 rfl).1 (hKb _ _ _ hl.1 rfl)⟩
  | some c => exact .inr ⟨rfl, c, (hIx c).putObj _ (h2 c rfl) hC hl.1 rfl, hl.turn hne _⟩
/-- The statement 'for .. := range g', where g is a closure. -/
theorem wpIn_told {g : Operand} {ps : Array Tmp} {assign body : Code} {Q : Exit → Act → World → Prop} {a : Act} {w w0 : World}
    (h1 : 1 ≤ n) (hg : a.eval g = .func (.func gf) #[] lb) (eg : ∀ args w, (callFunc gf args).run P w = .ok (.enter gf args) w)
    (hseq : SeqTold (n - 1) P gf lb encs Pr Kp S Sp w0) (hKt : ∀ {A B C : World}, Kp A B → Kp B C → Kp A C)
    (hKb : ∀ (W : World) (l : Nat) (o o' : Obj), w.heap.size ≤ l → W.heap[l]? = some o → o.isCells = false → Kp W (W.putObj l o'))
    (hb0 : Below w0.heap.size w0 w) (hps : ∀ x, (encs x).size = ps.size)
    (I : List α → World → Prop) (Ix : Code → List α → World → Prop) (hI : OwnFrom w.heap.size I) (hIx : ∀ c, OwnFrom w.heap.size (Ix c)) (hPr : ∀ pre, OwnFrom w.heap.size (Pr pre)) (h0 : I [] w) (a₁ : α → Act)
    (hassign : ∀ (l : Nat) (x : α) (W : World) (K : Act → World → Prop), K (a₁ x) W →
      assign.wpIn (Fence.wide.inRound l) (n - 1 - 1) P (Exit.then K (fun _ _ _ => False)) { tmps := (ps.zip (encs x)).foldl (fun t (p, v) => t.setIfInBounds p v) a.tmps, defers := [] } W)
    (hbody : ∀ (l : Nat) (pre : List α) (x : α) (W : World), I pre W → Pr pre x W → body.wpIn (Fence.wide.inRound l) (n - 1 - 1) P (ToldPost w.heap.size Kp I Ix (pre ++ [x]) W) (a₁ x) W)
    (hdone : ∀ (D : Nat) (xs : List α) (W : World), w.heap.size ≤ D → S xs → I xs W → W.heap[D]? = some (.deferred (some [])) → Q .normal { a with defers := { target := .collected D, args := #[] } :: a.defers } W)
    (hstop : ∀ (D : Nat) (c : Code) (pre : List α) (W : World), w.heap.size ≤ D → Sp pre → Ix c pre W → W.heap[D]? = some (.deferred (some [])) → c.wpIn Fence.wide n P Q { a with defers := { target := .collected D, args := #[] } :: a.defers } W) :
    (Code.rangeFunc g ps assign body).wpIn Fence.wide n P Q a w := by
  refine wpIn_rangeFunc fun fn hfn => ?_
  obtain ⟨D, hD⟩ : ∃ D, D = w.heap.size := ⟨_, rfl⟩
  obtain ⟨l, hl⟩ : ∃ l, l = w.heap.size + 1 := ⟨_, rfl⟩
  have hne : l ≠ D := by omega
  obtain ⟨r, hr⟩ : ∃ r : Loop, r = { state := .ready, pending := none, fn, tmps := a.tmps, params := ps, assign, body, defers := w.heap.size } := ⟨_, rfl⟩
  obtain ⟨W1, hW1⟩ : ∃ W1, W1 = (w.alloc (.deferred (some []))).alloc (.loop r) := ⟨_, rfl⟩
  have hg1 : Gr w W1 := by rw [hW1]; exact ((Gr.refl w).alloc (Nat.le_refl _) _).alloc (by simp) _
  have hL1 : LoopAt l D r W1 := by
    rw [hW1, hl, hD]
    refine ⟨?_, (Below.heap_alloc _ _ _ (by simp)).trans (World.alloc_heap_new w _)⟩
    have := World.alloc_heap_new (w.alloc (.deferred (some []))) (.loop r)
    rwa [World.size_alloc] at this
  refine ⟨l, [{ target := .collected w.heap.size, args := #[] }], W1, { target := .fn (.func gf) lb, args := #[.func (.yield l) #[] #[]] }, W1, gf, #[.func (.yield l) #[] #[]] ++ lb, W1, ?_, ?_, fun _ _ => trivial, ?_, fun _ => h1, ?_⟩
  · rw [hW1, hr, hl]; exact run_enterLoop_outer _ _ _ _ _
  · simp only [resolve, hg]; simp [go_sem]
  · simp [invoke, go_sem, eg]
  refine (hseq l (fun pre W => I pre W ∧ LoopAt l D r W) (fun pre W => ∃ c, Ix c pre W ∧ LoopAt l D { r with state := .done, pending := some c } W) W1
    (hb0.trans (Below.mono hg1 hb0.size)) (fun s A B hs g => ⟨own_gr hI hs.1 g, hs.2.gr g⟩) ?_ ⟨own_gr hI h0 hg1, hL1⟩).mono ?_
  · rintro pre x W ⟨hi, hla⟩ hx
    have hCl : w.heap.size ≤ l := by omega
    have hy := run_yield (P := P) (args := encs x) hla.1 (by rw [hr]; exact hps x)
    obtain ⟨W2, hW2⟩ : ∃ W2, W2 = W.putObj l (.loop { r with state := .busy }) := ⟨_, rfl⟩
    have hbeg : (Instr.beginRound l).run P W = .ok () W2 := by rw [hW2]; exact run_beginRound hla.1 (by rw [hr])
    have hl2 : LoopAt l D { r with state := .busy } W2 := by rw [hW2]; exact hla.turn hne _
    have hk2 : Kp W W2 := by rw [hW2]; exact hKb _ _ _ _ hCl hla.1 rfl
    have hi2 : I pre W2 := by rw [hW2]; exact hI.putObj _ hi hCl hla.1 rfl
    have hx2 : Pr pre x W2 := by rw [hW2]; exact (hPr pre).putObj _ hx hCl hla.1 rfl
    have hrt : r.tmps = a.tmps ∧ r.params = ps ∧ r.assign = assign ∧ r.body = body ∧ r.fn = fn := by rw [hr]; exact ⟨rfl, rfl, rfl, rfl, rfl⟩
    rw [hrt.1, hrt.2.1, hrt.2.2.1, hrt.2.2.2.1, hrt.2.2.2.2] at hy
    refine ⟨fn, _, assign, body, hy, roundIn_of_wpIn hfn (hassign _ x W _ ⟨W2, hbeg, ?_⟩)⟩
    refine wpIn_mono (hbody l pre x W2 hi2 hx2) ?_
    rintro e a3 W3 ⟨j, hj, hk3, hn, hc⟩
    have hend := told_end (P := P) (W1 := W) (Ix := Ix) hCl hne hI hIx (fun W o o' h ho => hKb W l o o' hCl h ho) hKt (hl2.kept hCl (by omega) hk3) j (fun e => ⟨hKt hk2 (hn e).1, (hn e).2⟩) hc
    have hready : ({ ({ r with state := .busy } : Loop) with state := .ready, pending := none } : Loop) = r := by rw [hr]
    have hdn : ∀ c, ({ ({ r with state := .busy } : Loop) with state := .done, pending := some c } : Loop) = { r with state := .done, pending := some c } := fun c => rfl
    rw [hready] at hend
    cases e <;> simp only [JumpOf, Option.some.injEq, reduceCtorEq] at hj <;> subst hj <;> exact hend
  · have hCl : w.heap.size ≤ l := by omega
    subst hD
    rintro e W2 ⟨⟨v, rfl⟩, (⟨xs, hS, hi, hla⟩ | ⟨pre, hSp, c, hi, hla⟩)⟩
    · have hpe : r.pending = none := by rw [hr]
      have := run_endLoop (P := P) hla.1 (by rw [hr]; simp)
      rw [hpe] at this
      exact ⟨none, _, this, hdone _ xs _ (Nat.le_refl _) hS (hI.putObj _ hi hCl hla.1 rfl) (hla.turn hne _).2⟩
    · have := run_endLoop (P := P) hla.1 (by simp)
      exact ⟨some c, _, this, hstop _ c pre _ (Nat.le_refl _) hSp ((hIx c).putObj _ hi hCl hla.1 rfl) (hla.turn hne _).2⟩
end
end Go.Proofs.YtpmglnghnelenaaGreat
/- slices.Chunk of a slice of strings, by fours: its call, and its iterator. -/
namespace Go.Proofs.YtpmglnghnelenaaGreat
open Go.RowKit Go.Shelf CrcPlain OctPlain FramePlain RecPlain
set_option linter.unusedVariables false
set_option linter.unusedSimpArgs false
set_option maxRecDepth 20000
attribute [local go_sem] Oper.semAt_some
/-- The j-th four of a slice, as a slice. -/
def fourV (b off n j : Nat) : Value := .slice (some ⟨b, off + 4 * j, none⟩) (min 4 (n - 4 * j)) (min 4 (n - 4 * j))
theorem addr_add (b off j : Nat) : Addr.add ⟨b, off, none⟩ j = ⟨b, off + j, none⟩ := by by_cases h : j = 0 <;> simp [Addr.add, h]
theorem from_run (b off n c i : Nat) (h1 : i < n) (h2 : n ≤ c) (w : World) :
    (Instr.slice 26 (.slice (some ⟨b, off, none⟩) n c) (some (.int .i64 (i : Int))) none none).run Tryz.prog w = .ok (.slice (some ⟨b, off + i, none⟩) (n - i) (c - i)) w := by
  have hne : c ≠ i := by omega
  have h3 : (i : Int) ≤ (n : Int) := by omega
  have h4 : i ≤ n := by omega
  simp [Instr.slice, Instr.sliceBounds, run_underlying Tryz.underlying26, run_underlying Tryz.underlying9, go_sem, sliced, hne, h3, h4, addr_add, show Tryz.prog.cellsOf 9 = 1 by kernel_rfl]
theorem full_run (b off n c i e : Nat) (h1 : 1 ≤ e) (h2 : i + e ≤ n) (h3 : n ≤ c) (w : World) :
    (Instr.slice 26 (.slice (some ⟨b, off, none⟩) n c) (some (.int .i64 (i : Int))) (some (.int .i64 ((i : Int) + (e : Int)))) (some (.int .i64 ((i : Int) + (e : Int))))).run Tryz.prog w = .ok (.slice (some ⟨b, off + i, none⟩) e e) w := by
  have hne : i + e ≠ i := by omega
  have k1 : (i : Int) + (e : Int) ≤ (c : Int) := by omega
  have k2 : (i : Int) ≤ (i : Int) + (e : Int) := by omega
  have k3 : ((i : Int) + (e : Int)).toNat = i + e := by omega
  have k4 : (0 : Int) ≤ (i : Int) + (e : Int) := by omega
  simp [Instr.slice, Instr.sliceBounds, run_underlying Tryz.underlying26, run_underlying Tryz.underlying9, go_sem, sliced, hne, k1, k2, k3, k4, addr_add, show ¬ e = 0 by omega, show Tryz.prog.cellsOf 9 = 1 by kernel_rfl]
/-- What the iterator reads between two rounds. -/
def ChunkKeep (Bs Bn : Nat) (W W' : World) : Prop := W.heap.size ≤ W'.heap.size ∧ W'.heap[Bs]? = W.heap[Bs]? ∧ W'.heap[Bn]? = W.heap[Bn]?
def ChunkAt (a : Option Addr) (n c Bs Bn : Nat) (J : List Nat → World → Prop) (i : Value) (wr : World) : Prop :=
  ∃ k : Nat, 4 * k ≤ n + 3 ∧ i = .int .i64 ((4 * k : Nat) : Int) ∧ J (List.range k) wr ∧ wr.heap[Bs]? = some (.cells #[.slice a n c] 26 (0, 0)) ∧ wr.heap[Bn]? = some (.cells #[.int .i64 4] 3 (0, 0))
end Go.Proofs.YtpmglnghnelenaaGreat
/- strings.Builder of the call's own: WriteString and String, by the library's contracts; a builder as one word. -/
namespace Go.Proofs.YtpmglnghnelenaaGreat
open Go.RowKit FramePlain
set_option linter.unusedVariables false
set_option linter.unusedSimpArgs false
set_option maxRecDepth 20000
/-- At b there is a builder of the call's own that holds these bytes. -/
def Bld (n0 b : Nat) (l : List UInt8) (w : World) : Prop := Lib.IsBuilderF 190 5 n0 b (Lib.byteCells l) w ∧ n0 ≤ w.heap.size
/-- What a write to it leaves: blocks that are neither the builder nor rows of bytes. -/
def BKept (b : Nat) (w w' : World) : Prop := Lib.OthersKept 5 (some b) w w'
theorem bld_new (w : World) : Bld w.heap.size w.heap.size [] (w.alloc (.cells #[.pointer none, .slice none 0 0] 190)) :=
  ⟨Lib.IsBuilderF.of (Lib.fresh_isBuilder _ _ w), by simp⟩
theorem byteCells_app (a b : List UInt8) : Lib.byteCells (a ++ b) = Lib.byteCells a ++ Lib.byteCells b := by simp [Lib.byteCells]
theorem bwrite_c (n0 b : Nat) (l : List UInt8) (s : ByteArray) (w : World) (h : Bld n0 b l w) (hlen : l.length + s.size ≤ 100000000) :
    Calls Tryz.prog 150 #[.pointer (some ⟨b, 0, none⟩), .string s] w fun e w' => e = .returned (.tuple #[.int .i64 s.size, .nilIface]) ∧ Bld n0 b (l ++ s.data.toList) w' ∧ Below n0 w w' ∧ BKept b w w' := by
  have L : Go.Proofs.Lays.n166 Tryz.prog joinRen := { joinLaid with }
  refine (Any.Builder_WriteString_k L joinExtra n0 b (Lib.byteCells l) s w h.1 (by rw [Lib.byteCells_length]; omega) h.2).mono ?_
  rintro e w' ⟨he, hb, hbel, ho⟩
  refine ⟨he, ⟨?_, Nat.le_trans h.2 hbel.size⟩, hbel, ho⟩
  rw [byteCells_app]
  exact .inr hb
theorem bstring_c (n0 b : Nat) (l : List UInt8) (w : World) (h : Bld n0 b l w) :
    Calls Tryz.prog 151 #[.pointer (some ⟨b, 0, none⟩)] w fun e w' => e = .returned (.string (bs l)) ∧ Bld n0 b l w' ∧ Below n0 w w' ∧ BKept b w w' := by
  have L : Go.Proofs.Lays.n169 Tryz.prog joinRen := { joinLaid with }
  refine (Any.Builder_String_any_k L joinExtra n0 b l w h.1 h.2).mono ?_
  rintro e w' ⟨he, hb, hbel, ho⟩
  exact ⟨he, ⟨hb, Nat.le_trans h.2 hbel.size⟩, hbel, ho⟩
/-- What is neither the builder nor a row of bytes stands behind a write. -/
theorem BKept.block {b : Nat} {w w' : World} (h : BKept b w w') {k : Nat} {c : Array Value} {T : TypeId} {fz : Nat × Nat} (hk : w.heap[k]? = some (.cells c T fz)) (hb : k ≠ b) (hT : T ≠ 5) : w'.heap[k]? = some (.cells c T fz) :=
  h k _ hk (fun e => hb (Option.some.inj e)) (fun c' fz' e => by injection e with _ e2 _; exact hT e2)
theorem BKept.keeps {b C : Nat} {w w' : World} (h : BKept b w w') (hs : w.heap.size ≤ w'.heap.size) (hb : ∃ c T fz, w.heap[b]? = some (.cells c T fz)) : KeepsFrom C w w' :=
  ⟨hs, fun k o _ hk ho => h k o hk (fun e => by
    obtain ⟨c, T, fz, hc⟩ := hb
    obtain rfl : k = b := Option.some.inj e
    rw [hc] at hk; cases hk; cases ho) (fun c fz e => by rw [e] at ho; cases ho)⟩
theorem Bld.cells {n0 b : Nat} {l : List UInt8} {w : World} (h : Bld n0 b l w) : ∃ c T fz, w.heap[b]? = some (.cells c T fz) := by
  rcases h.1 with h1 | h1
  · obtain ⟨_, v, hb, _⟩ := h1; exact ⟨_, _, _, hb⟩
  · obtain ⟨_, v, hb, _⟩ := h1; exact ⟨_, _, _, hb⟩
theorem Bld.lt {n0 b : Nat} {l : List UInt8} {w : World} (h : Bld n0 b l w) : b < w.heap.size := by
  obtain ⟨c, T, fz, hc⟩ := h.cells
  exact (Array.getElem?_eq_some_iff.1 hc).1
end Go.Proofs.YtpmglnghnelenaaGreat
/- The contract of Lay. -/
namespace Go.Proofs.YtpmglnghnelenaaGreat
open Go.RowKit Go.Shelf CrcPlain OctPlain FramePlain RecPlain
set_option linter.unusedVariables false
set_option linter.unusedSimpArgs false
set_option maxRecDepth 20000
attribute [local go_sem] Oper.semAt_some
theorem grown_cells {W W' : World} {row : Option Nat} (hg : W.grownBy W' row) (hr : ∀ r, row = some r → ∃ o : Obj, W.heap[r]? = some o ∧ o.isCells = false) {k : Nat} {c : Array Value} {T : TypeId} {fz : Nat × Nat} (h : W.heap[k]? = some (.cells c T fz)) : W'.heap[k]? = some (.cells c T fz) :=
  (hg.block k (blk_lt h) (fun e => by obtain ⟨o, ho, hc⟩ := hr k e.symm; rw [h] at ho; cases ho; cases hc)).trans h
theorem Bld.grown {n0 b : Nat} {l : List UInt8} {W W' : World} {row : Option Nat} (h : Bld n0 b l W) (hg : W.grownBy W' row) (hr : ∀ r, row = some r → ∃ o : Obj, W.heap[r]? = some o ∧ o.isCells = false) : Bld n0 b l W' := by
  have one : ∀ p, Lib.BuilderAtF 190 5 n0 b p (Lib.byteCells l) W → Lib.BuilderAtF 190 5 n0 b p (Lib.byteCells l) W' := by
    rintro p ⟨h1, v, hb, ho, hv⟩
    refine ⟨h1, v, grown_cells hg hr hb, ho.kept hg ?_, hv⟩
    rcases ho.2 with ⟨rfl, _⟩ | ⟨g, cap, cur, fz, rfl, _, hgb, _⟩
    · exact .inl rfl
    · refine .inr fun e => ?_
      obtain ⟨o, h1, h2⟩ := hr g (by simpa [Value.ownBlock] using e.symm)
      rw [hgb] at h1; cases h1; cases h2
  exact ⟨h.1.imp (one _) (one _), Nat.le_trans h.2 hg.size⟩
theorem Bld.gr {n0 b : Nat} {l : List UInt8} {W W' : World} (h : Bld n0 b l W) (g : Gr W W') : Bld n0 b l W' := h.grown (gr_grown g) (fun r e => by cases e)
/-- Where Lay is: what its builder holds, and its own variables. -/
structure LaySt (size : Int) (w : World) (b : Nat) (l : List UInt8) (W : World) : Prop where
  bld : Bld b b l W
  z : W.heap[w.heap.size]? = some (.cells #[.int .i64 size] 3 (0, 0))
  r1 : W.heap[w.heap.size + 1]? = some (.cells #[.string ⟨#[]⟩] 9 (0, 0))
  r2 : W.heap[w.heap.size + 2]? = some (.cells #[.bool false] 4 (0, 0))
  bel : Below w.heap.size w W
  lb : w.heap.size + 3 ≤ b
theorem LaySt.grown {size : Int} {w : World} {b : Nat} {l : List UInt8} {W W' : World} {row : Option Nat} (h : LaySt size w b l W) (hg : W.grownBy W' row) (hr : ∀ r, row = some r → w.heap.size ≤ r ∧ ∃ o : Obj, W.heap[r]? = some o ∧ o.isCells = false) : LaySt size w b l W' :=
  ⟨h.bld.grown hg (fun r e => (hr r e).2), grown_cells hg (fun r e => (hr r e).2) h.z, grown_cells hg (fun r e => (hr r e).2) h.r1, grown_cells hg (fun r e => (hr r e).2) h.r2, h.bel.grown hg h.bel.size (fun k e => (hr k e).1), h.lb⟩
theorem LaySt.gr {size : Int} {w : World} {b : Nat} {l : List UInt8} {W W' : World} (h : LaySt size w b l W) (g : Gr W W') : LaySt size w b l W' := h.grown (gr_grown g) (fun r e => by cases e)
/-- Behind a write to the builder. -/
theorem LaySt.wrote {size : Int} {w : World} {b : Nat} {l l' : List UInt8} {W W' : World} (h : LaySt size w b l W) (hb : Bld b b l' W') (hbel : Below b W W') (hk : BKept b W W') : LaySt size w b l' W' := by
  have hlb := h.lb
  exact ⟨hb, hk.block h.z (by omega) (by decide), hk.block h.r1 (by omega) (by decide), hk.block h.r2 (by omega) (by decide), h.bel.trans (hbel.mono (by omega)), hlb⟩
def Boxes (Bs : Nat) (W : World) : Prop := (∃ s, W.heap[Bs]? = some (.cells s 26 (0, 0))) ∧ ∃ s, W.heap[Bs + 1]? = some (.cells s 3 (0, 0))
def LayI (size : Int) (L : List ByteArray) (w : World) (b Bs : Nat) (pre : List Nat) (W : World) : Prop :=
  LaySt size w b ((headS size).data.toList ++ blks (pre.map (four L))) W ∧ (∀ j ∈ pre, blkB size (four L j) = true) ∧ Boxes Bs W
theorem Boxes.grown {Bs : Nat} {W W' : World} {row : Option Nat} (h : Boxes Bs W) (hg : W.grownBy W' row) (hr : ∀ r, row = some r → ∃ o : Obj, W.heap[r]? = some o ∧ o.isCells = false) : Boxes Bs W' :=
  ⟨h.1.imp fun _ h => grown_cells hg hr h, h.2.imp fun _ h => grown_cells hg hr h⟩
theorem Boxes.gr {Bs : Nat} {W W' : World} (h : Boxes Bs W) (g : Gr W W') : Boxes Bs W' := ⟨h.1.imp fun _ h => blk_gr h g, h.2.imp fun _ h => blk_gr h g⟩
theorem Boxes.wrote {Bs b : Nat} {W W' : World} (h : Boxes Bs W) (k : BKept b W W') (hb : b < Bs) : Boxes Bs W' :=
  ⟨h.1.imp fun _ h => k.block h (by omega) (by decide), h.2.imp fun _ h => k.block h (by omega) (by decide)⟩
def LayX (size : Int) (L : List ByteArray) (w : World) (c : Code) (pre : List Nat) (W : World) : Prop :=
  c = .ret ∧ layB size L = false ∧ W.heap[w.heap.size + 1]? = some (.cells #[.string ⟨#[]⟩] 9 (0, 0)) ∧ W.heap[w.heap.size + 2]? = some (.cells #[.bool false] 4 (0, 0)) ∧ Below w.heap.size w W
theorem layI_own (size : Int) (L : List ByteArray) (w : World) (b Bs C : Nat) (hC : w.heap.size ≤ C) : OwnFrom C (LayI size L w b Bs) :=
  fun s W W' row hs hg hr => ⟨hs.1.grown hg (fun r e => ⟨Nat.le_trans hC (hr r e).1, (hr r e).2⟩), hs.2.1, hs.2.2.grown hg (fun r e => (hr r e).2)⟩
theorem layX_own (size : Int) (L : List ByteArray) (w : World) (C : Nat) (hC : w.heap.size ≤ C) (c : Code) : OwnFrom C (LayX size L w c) :=
  fun s W W' row hs hg hr => ⟨hs.1, hs.2.1, grown_cells hg (fun r e => (hr r e).2) hs.2.2.1, grown_cells hg (fun r e => (hr r e).2) hs.2.2.2.1, hs.2.2.2.2.grown hg hs.2.2.2.2.size (fun k e => Nat.le_trans hC (hr k e).1)⟩
theorem four_lies {w W : World} {L : List ByteArray} {b off : Nat} (hv : L = [] ∨ SRow w b off L) (g : Gr w W) {j : Nat} (hj : 4 * j < L.length) : Lies W (fourV b off L.length j) (four L j) := by
  have hl := four_length L j
  refine ⟨some ⟨b, off + 4 * j, none⟩, min 4 (L.length - 4 * j), by unfold fourV; rw [hl], by omega, .inr ⟨b, off + 4 * j, rfl, ?_⟩⟩
  rcases hv with rfl | hr
  · simp at hj
  · have hr' := hr.gr g
    refine ⟨hr'.1, fun i x hi => ?_⟩
    have hx : L[4 * j + i]? = some x := by
      unfold four at hi
      have hlt := (List.getElem?_eq_some_iff.1 hi).1
      rw [List.getElem?_take_of_lt (by rw [List.length_take] at hlt; omega), List.getElem?_drop] at hi
      exact hi
    have := hr'.2 _ x hx
    rwa [show off + (4 * j + i) = off + 4 * j + i by omega] at this
theorem lay_start (w : World) (size : Int) {u : World} (g : Gr (((w.alloc (.cells #[.int .i64 size] 3)).alloc (.cells #[.string ⟨#[]⟩] 9)).alloc (.cells #[.bool false] 4)) u) :
    LaySt size w u.heap.size [] (u.alloc (.cells #[.pointer none, .slice none 0 0] 190)) := by
  have h0 : (((w.alloc (.cells #[.int .i64 size] 3)).alloc (.cells #[.string ⟨#[]⟩] 9)).alloc (.cells #[.bool false] 4)).heap[w.heap.size]? = some (.cells #[.int .i64 size] 3 (0, 0)) :=
    (Below.heap_alloc _ _ _ (by simp; omega)).trans ((Below.heap_alloc _ _ _ (by simp)).trans (heap_alloc_new w _))
  have h1 : (((w.alloc (.cells #[.int .i64 size] 3)).alloc (.cells #[.string ⟨#[]⟩] 9)).alloc (.cells #[.bool false] 4)).heap[w.heap.size + 1]? = some (.cells #[.string ⟨#[]⟩] 9 (0, 0)) := by
    refine (Below.heap_alloc _ _ _ (by simp)).trans ?_
    have := heap_alloc_new (w.alloc (.cells #[.int .i64 size] 3)) (.cells #[.string ⟨#[]⟩] 9)
    rwa [World.size_alloc] at this
  have h2 : (((w.alloc (.cells #[.int .i64 size] 3)).alloc (.cells #[.string ⟨#[]⟩] 9)).alloc (.cells #[.bool false] 4)).heap[w.heap.size + 2]? = some (.cells #[.bool false] 4 (0, 0)) := by
    have := heap_alloc_new ((w.alloc (.cells #[.int .i64 size] 3)).alloc (.cells #[.string ⟨#[]⟩] 9)) (.cells #[.bool false] 4)
    rwa [World.size_alloc, World.size_alloc] at this
  have hs := g.size
  simp only [World.size_alloc] at hs
  have ga : Gr u (u.alloc (.cells #[.pointer none, .slice none 0 0] 190)) := gral _ _
  have gg : Gr w (((w.alloc (.cells #[.int .i64 size] 3)).alloc (.cells #[.string ⟨#[]⟩] 9)).alloc (.cells #[.bool false] 4)) := ((gral _ _).trans (gral _ _)).trans (gral _ _)
  exact ⟨bld_new u, blk_gr (blk_gr h0 g) ga, blk_gr (blk_gr h1 g) ga, blk_gr (blk_gr h2 g) ga, (gg.trans g).trans ga, by omega⟩
theorem gr_keeps {C : Nat} {A B : World} (g : Gr A B) : KeepsFrom C A B := ⟨g.size, fun k o _ hk _ => blk_gr hk g⟩
theorem set_keeps {C : Nat} (A : World) (p : Addr) (v : Value) : KeepsFrom C A (A.setCell p v) := (KeepsOthers.setCell A p v).from C
theorem chunkK_t {Bs Bn : Nat} {A B C : World} (h : ChunkKeep Bs Bn A B) (k : ChunkKeep Bs Bn B C) : ChunkKeep Bs Bn A C := ⟨Nat.le_trans h.1 k.1, k.2.1.trans h.2.1, k.2.2.trans h.2.2⟩
theorem chunkK_b {Bs Bn N : Nat} (h1 : Bs < N) (h2 : Bn < N) (W : World) (l : Nat) (o o' : Obj) (hl : N ≤ l) (h : W.heap[l]? = some o) (_ : o.isCells = false) : ChunkKeep Bs Bn W (W.putObj l o') :=
  ⟨by simp, World.putObj_heap_other (by omega), World.putObj_heap_other (by omega)⟩
theorem chunkK_gr {Bs Bn : Nat} {A B : World} (g : Gr A B) (h1 : Bs < A.heap.size) (h2 : Bn < A.heap.size) : ChunkKeep Bs Bn A B := ⟨g.size, g.block Bs h1, g.block Bn h2⟩
/-- Both boxes of the iterator, and the builder's other neighbours, stand behind a write. -/
theorem chunkK_w {Bs b : Nat} {A B : World} (h : BKept b A B) (hs : A.heap.size ≤ B.heap.size) (hx : Boxes Bs A) (hb : b < Bs) : ChunkKeep Bs (Bs + 1) A B := by
  obtain ⟨⟨s1, h1⟩, ⟨s2, h2⟩⟩ := hx
  exact ⟨hs, (h.block h1 (by omega) (by decide)).trans h1.symm, (h.block h2 (by omega) (by decide)).trans h2.symm⟩
theorem blk_le {size : Int} {p : List ByteArray} (h : blkB size p = true) : (cl (blk p)).size ≤ 261 := by
  obtain ⟨n, hn, _, h2, _⟩ := blk_cl h
  omega
theorem blks_le {size : Int} : ∀ ps : List (List ByteArray), (∀ p ∈ ps, blkB size p = true) → (blks ps).length ≤ 261 * ps.length
  | [], _ => by simp [blks_nil]
  | p :: ps, h => by
    have h1 := blk_le (h p (by simp))
    have h2 := blks_le ps fun q hq => h q (by simp [hq])
    rw [blks_cons, List.length_append, data_length, List.length_cons]
    omega
theorem lay_len {size : Int} {L : List ByteArray} {pre : List Nat} (h : ∀ j ∈ pre, blkB size (four L j) = true) {N : Nat} (hN : pre.length ≤ N) : ((headS size).data.toList ++ blks (pre.map (four L))).length ≤ 11 + 261 * N := by
  have := blks_le (size := size) (pre.map (four L)) (fun p hp => by obtain ⟨j, hj, rfl⟩ := List.mem_map.1 hp; exact h j hj)
  rw [List.length_map] at this
  rw [List.length_append, headS_length]
  omega
theorem layB_no {size : Int} {L : List ByteArray} {x : Nat} (hs : sizeB size = true) (hx : 4 * x < L.length) (h : blkB size (four L x) = false) : layB size L = false := by
  cases hb : layB size L
  · rfl
  · rw [four_blk hb (show x < cnt4 L by unfold cnt4; omega)] at h; cases h
theorem layB_yes {size : Int} {L : List ByteArray} (hs : sizeB size = true) (h : ∀ j ∈ List.range (cnt4 L), blkB size (four L j) = true) : layB size L = true := by
  unfold layB
  rw [hs, Bool.true_and]
  refine allB_iff.2 fun s hsl => ?_
  rw [← ups_all L] at hsl
  obtain ⟨p, hp, hsp⟩ := List.mem_flatten.1 hsl
  unfold ups at hp
  obtain ⟨j, hj, rfl⟩ := List.mem_map.1 hp
  exact (blk_parts (h j hj)).2.2 s hsp
theorem peB_len {n : Nat} (h : n ≤ 1000000) : peB (n : Int) = true := by unfold peB; rw [decide_eq_true_iff]; omega
theorem set_heap {W : World} {k i : Nat} {c : Array Value} {T : TypeId} {v : Value} (h : W.heap[k]? = some (.cells c T (0, 0))) (hv : c.setIfInBounds i v = c) : (W.setCell ⟨k, i, none⟩ v).heap[k]? = some (.cells c T (0, 0)) := by
  have := blk_set h i v
  rwa [hv] at this
theorem put_blk {W : World} {D k : Nat} {c : Array Value} {T : TypeId} {fz : Nat × Nat} {o o' : Obj} (h : W.heap[k]? = some (.cells c T fz)) (hK : W.heap[D]? = some o) (ho : o.isCells = false) : (W.putObj D o').heap[k]? = some (.cells c T fz) :=
  (World.putObj_heap_other (fun e => by subst e; rw [h] at hK; cases hK; cases ho)).trans h
theorem put_below {w W : World} {D : Nat} {o : Obj} (h : Below w.heap.size w W) (hD : w.heap.size ≤ D) (hK : W.heap[D]? = some o) (o' : Obj) : Gr w (W.putObj D o') :=
  Below.grown h (grownBy_putObj' W D o') h.size (fun k e => by cases e; exact hD)
end Go.Proofs.YtpmglnghnelenaaGreat
