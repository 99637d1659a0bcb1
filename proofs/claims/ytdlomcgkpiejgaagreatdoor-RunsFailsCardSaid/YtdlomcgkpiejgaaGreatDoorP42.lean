/- In one text: RnLaw, Told, Chunk, Build. -/
import Derived.Test.YtdlomcgkpiejgaaGreatDoorP22
import Derived.Test.YtdlomcgkpiejgaaGreatDoorP00
import Derived.RangeFuncNested
import Derived.RangeFuncBox
import Derived.Test.YtdlomcgkpiejgaaGreatDoorP27
import Derived.RangeFuncBound
import Derived.RangeFuncCalls
import Derived.RangeFuncLeaves
import Derived.Shelf.Abstract
import Derived.Shelf.RegionOpen
import Derived.OwnWalkIn
import Derived.TacticsInMore
import Derived.LoopNIn
import Derived.LoopIn
import Derived.Shelf.Strings.BuilderK
import Derived.Test.YtdlomcgkpiejgaaGreatDoorP03
/- The law's own disk, and its look at a file. -/
namespace Go.Proofs.YtdlomcgkpiejgaaGreatDoor
open Go.RowKit FsPlain CrcPlain OctPlain FramePlain RecPlain RdPlain RnPlain WrPlain
set_option linter.unusedVariables false
set_option linter.unusedSimpArgs false
set_option maxRecDepth 20000
theorem ret_pb16 {a b : Value} {p q : Bool} (h : a = b) (k : p = q) : Ending.returned (.tuple #[a, .bool p]) = .returned (.tuple #[b, .bool q]) := by rw [h, k]
/-- A disk with the file a of these bytes, in new blocks. -/
def Made16 (r : Int) (S : ByteArray) (w : World) (e : Ending) (w' : World) : Prop :=
  ∃ p B, e = .returned (.tuple #[.pointer (some ⟨p, 0, none⟩), .bool true]) ∧ DiskA p (stA r S) w' B ∧ Gr w w' ∧ ∀ b, B b → w.heap.size ≤ b
theorem disk16_c {r : Int} {S : ByteArray} (h1 : r ≤ 16777216) (hS : (S.size : Int) ≤ r) (w : World) : Calls Tryz.prog 8 #[.int .i64 r, .string ⟨#[97]⟩, .string S] w (Made16 r S w) := by
  have C := Lib.hid (new_c r (by omega) h1)
  have HS := Lib.hid hS
  have hz : S.size ≤ 1000000000 := by omega
  have CC := Lib.hid (fun p (u : World) (B : Nat → Prop) (h : DiskA p (fresh r) u B) => d_create p (fresh r) nmA (by decide) nmA_right (by show (0 : Int) ≤ _; decide) u B h)
  have CA := Lib.hid (fun p (u : World) (B : Nat → Prop) (h : DiskA p (stC r) u B) => d_append p (stC r) nmA S (by decide) nmA_right (by show (1 : Int) ≤ _; decide) hz u B h)
  rw [st_create] at CC
  rw [st_append r S hS] at CA
  clear hS hz
  go_enter Tryz.func8, Tryz.ntmps8
  go_wp2_with fail
  refine (C.out w).mono ?_; rintro e u ⟨p, B, rfl, hd, g, hn⟩
  have H := Lib.hid hd
  have HN := Lib.hid hn
  have G := Lib.hid g
  clear hd hn g
  go_wp2_with fail
  refine (CC.out p _ _ H.out).mono ?_; rintro e u1 ⟨rfl, B1, k1, n1⟩
  have K1 := Lib.hid k1
  have N1 := Lib.hid n1
  clear k1 n1
  go_wp2_with fail
  refine (CA.out p _ _ K1.out).mono ?_; rintro e u2 ⟨rfl, B2, k2, n2⟩
  have K2 := Lib.hid k2
  have N2 := Lib.hid n2
  clear k2 n2
  go_wp2_with fail
  go_ret2
  have nn : Nx (fun _ => False) w B u := ⟨Only.ofGr G.out, fun b hb => .inr (HN.out b hb)⟩
  have nn2 := (nn.trans N1.out).trans N2.out
  exact ⟨p, B2, rfl, K2.out, nx_gr nn2, fun b hb => (nn2.new b hb).resolve_left (fun h => h)⟩
/-- A look at a file that is there. -/
theorem whole16_c {p : Nat} {s : St} {n C : ByteArray} (hC : HasD s n.data.toList C) (hu : s.down = false) (ha : s.ahead = -1) (hc : s.calls ≤ 100000000000) (hn : n.size ≤ 24) (hm : rightB n.data.toList = true) (hz : C.size ≤ 100000000) (w : World) (B : Nat → Prop) (h : DiskA p s w B) :
    Calls Tryz.prog 15 #[.pointer (some ⟨p, 0, none⟩), .string n] w (Does w B (DiskA p s.call.call) (.tuple #[.string C, .bool true])) := by
  have hst : Stands s n.data.toList C := ⟨hC, hu, ha⟩
  have C1 := Lib.hid (d_size p s n (by omega) hm (by omega) w B h)
  have C2 := Lib.hid (fun (u : World) (B : Nat → Prop) (h : DiskA p s.call u B) => d_read p s.call n 0 C.size (by omega) hm (by have := hc; show s.calls + 1 ≤ _; omega) (by decide) (by omega) u B h)
  rw [hst.size] at C1
  rw [hst.call.1.read C.size (Nat.le_refl _)] at C2
  have e : bs (List.take C.size C.data.toList) = C := by rw [List.take_of_length_le (by rw [Array.length_toList]; exact Nat.le_refl _)]; exact bs_toList C
  simp only [e] at C2
  simp only [] at C1
  clear e hst hC h hm hn
  obtain ⟨cn, hcn⟩ : ∃ cn, C.size = cn := ⟨_, rfl⟩
  rw [hcn] at C1 C2
  rw [hcn] at hz
  clear hcn
  go_enter Tryz.func15, Tryz.ntmps15
  go_wp2_with fail
  refine (C1.out).mono ?_; rintro e u1 ⟨rfl, B1, k1, n1⟩
  have K1 := Lib.hid k1
  have N1 := Lib.hid n1
  clear k1 n1
  go_wp2_with fail
  refine (C2.out _ _ K1.out).mono ?_; rintro e u2 ⟨rfl, B2, k2, n2⟩
  have K2 := Lib.hid k2
  have N2 := Lib.hid n2
  clear k2 n2
  go_wp2_with fail
  go_ret2
  exact ⟨rfl, B2, K2.out, N1.out.trans N2.out⟩
end Go.Proofs.YtdlomcgkpiejgaaGreatDoor
/- A range over a function that hands out what lies in new memory: the loop's body is told what holds of it then (Pr). Beside the library's law: there a body knows of a value no more than its type. -/
namespace Go.Proofs.YtdlomcgkpiejgaaGreatDoor
open Go.RowKit
set_option linter.unusedVariables false
set_option linter.unusedSimpArgs false
set_option maxRecDepth 20000
/-- The iterator's word: behind pre it asks for a round of x only where Pr holds of both. -/
def SeqTold {α : Type} (n : Nat) (P : Program) (g : Nat) (lb : Array Value) (encs : α → Array Value) (Pr : List α → α → World → Prop) (Kp : World → World → Prop) (S Sp : List α → Prop) (w : World) : Prop :=
  ∀ (l : Nat) (J Jx : List α → World → Prop) (W : World), Below w.heap.size w W → (∀ s A B, J s A → Gr A B → J s B) →
    (∀ pre x W1, J pre W1 → Pr pre x W1 → YieldAt Fence.wide (n - 1) P l (encs x) W1 fun e W' =>
      (e = .returned (.bool true) ∧ J (pre ++ [x]) W' ∧ Kp W1 W') ∨ (e = .returned (.bool false) ∧ Jx (pre ++ [x]) W')) →
    J [] W →
    CallsIn Fence.wide n P g (#[.func (.yield l) #[] #[]] ++ lb) W fun e W' => (∃ v, e = .returned v) ∧ ((∃ xs, S xs ∧ J xs W') ∨ (∃ pre, Sp pre ∧ Jx pre W'))

theorem gr_grown {A B : World} (h : Gr A B) : A.grownBy B none := ⟨h.1, h.2, h.3, h.size, fun k hk _ => h.block k hk⟩
theorem own_gr {β : Type} {C : Nat} {I : β → World → Prop} (h : OwnFrom C I) {s : β} {A B : World} (hs : I s A) (g : Gr A B) : I s B := h s A B none hs (gr_grown g) (fun r e => by cases e)

/-- The loop's record at l is r, and the block at D for its rounds' deferred calls is empty. -/
def LoopAt (l D : Nat) (r : Loop) (W : World) : Prop := W.heap[l]? = some (.loop r) ∧ W.heap[D]? = some (.deferred (some []))
theorem LoopAt.turn {l D : Nat} {r : Loop} {W : World} (h : LoopAt l D r W) (hne : l ≠ D) (r' : Loop) : LoopAt l D r' (W.putObj l (.loop r')) :=
  ⟨World.putObj_heap_same (Array.getElem?_eq_some_iff.1 h.1).1, (World.putObj_heap_other (Ne.symm hne)).trans h.2⟩
theorem LoopAt.kept {C l D : Nat} {r : Loop} {A B : World} (h : LoopAt l D r A) (hl : C ≤ l) (hD : C ≤ D) (k : KeepsFrom C A B) : LoopAt l D r B := ⟨k.same _ _ hl h.1 rfl, k.same _ _ hD h.2 rfl⟩
theorem LoopAt.gr {l D : Nat} {r : Loop} {A B : World} (h : LoopAt l D r A) (g : Gr A B) : LoopAt l D r B :=
  ⟨(g.block l (Array.getElem?_eq_some_iff.1 h.1).1).trans h.1, (g.block D (Array.getElem?_eq_some_iff.1 h.2).1).trans h.2⟩
/-- What a jump out of a body leaves to be done. -/
def JumpOf : Exit → Option (Option Code)
  | .normal => some none
  | .ret => some (some .ret)
  | .exit id => some (some (.exit id))
  | .goto t => some (some (.goto t))
  | .panic _ => none
  | .outgrown => none
/-- What a body's walk owes, by the jump by which it is left: none: it goes on. -/
def ToldPost {α : Type} (C : Nat) (Kp : World → World → Prop) (I : List α → World → Prop) (Ix : Code → List α → World → Prop) (xs : List α) (W : World) (e : Exit) (_ : Act) (W' : World) : Prop :=
  ∃ j, JumpOf e = some j ∧ KeepsFrom C W W' ∧ (j = none → Kp W W' ∧ I xs W') ∧ (∀ c, j = some c → Ix c xs W')
theorem told_on {α : Type} {C : Nat} {Kp : World → World → Prop} {I : List α → World → Prop} {Ix : Code → List α → World → Prop} {xs : List α} {W W' : World} {a : Act} (h1 : KeepsFrom C W W') (h2 : Kp W W') (h3 : I xs W') : ToldPost C Kp I Ix xs W .normal a W' :=
  ⟨none, rfl, h1, fun _ => ⟨h2, h3⟩, fun c e => by cases e⟩
theorem told_exit {α : Type} {C : Nat} {Kp : World → World → Prop} {I : List α → World → Prop} {Ix : Code → List α → World → Prop} {xs : List α} {W W' : World} {a : Act} {id : Nat} (h1 : KeepsFrom C W W') (h3 : Ix (.exit id) xs W') : ToldPost C Kp I Ix xs W (.exit id) a W' :=
  ⟨some (.exit id), rfl, h1, fun e => (by cases e), fun c e => by cases e; exact h3⟩
theorem told_ret {α : Type} {C : Nat} {Kp : World → World → Prop} {I : List α → World → Prop} {Ix : Code → List α → World → Prop} {xs : List α} {W W' : World} {a : Act} (h1 : KeepsFrom C W W') (h3 : Ix .ret xs W') : ToldPost C Kp I Ix xs W .ret a W' :=
  ⟨some .ret, rfl, h1, fun e => (by cases e), fun c e => by cases e; exact h3⟩

section
variable {α : Type} {n : Nat} {P : Program} {gf : Nat} {lb : Array Value} {encs : α → Array Value} {Pr : List α → α → World → Prop} {Kp : World → World → Prop} {S Sp : List α → Prop}
/-- A round that has come to its end by the jump j. -/
theorem told_end {C l D : Nat} {r : Loop} {I : List α → World → Prop} {Ix : Code → List α → World → Prop} {xs : List α} {W1 W3 : World} (hC : C ≤ l) (hne : l ≠ D)
    (hI : OwnFrom C I) (hIx : ∀ c, OwnFrom C (Ix c)) (hKb : ∀ (W : World) (o o' : Obj), W.heap[l]? = some o → o.isCells = false → Kp W (W.putObj l o')) (hKt : ∀ {A B C : World}, Kp A B → Kp B C → Kp A C)
    (hl : LoopAt l D r W3) (j : Option Code) (h1 : j = none → Kp W1 W3 ∧ I xs W3) (h2 : ∀ c, j = some c → Ix c xs W3) :
    ∃ v w', (Instr.endRound l j).run P W3 = .ok v w' ∧ ((Ending.returned v = .returned (.bool true) ∧ (I xs w' ∧ LoopAt l D { r with state := .ready, pending := none } w') ∧ Kp W1 w') ∨
      (Ending.returned v = .returned (.bool false) ∧ ∃ c, Ix c xs w' ∧ LoopAt l D { r with state := .done, pending := some c } w')) := by
  refine ⟨_, _, run_endRound j hl.1, ?_⟩
  cases j with
  | none => exact .inl ⟨rfl, ⟨hI.putObj _ (h1 rfl).2 hC hl.1 rfl, hl.turn hne _⟩, hKt (h1 rfl).1 (hKb _ _ _ hl.1 rfl)⟩
  | some c => exact .inr ⟨rfl, c, (hIx c).putObj _ (h2 c rfl) hC hl.1 rfl, hl.turn hne _⟩
/-- The statement 'for .. := range g', where g is a closure. -/
theorem wpIn_told {g : Operand} {ps : Array Tmp} {assign body : Code} {Q : Exit → Act → World → Prop} {a : Act} {w w0 : World}
    (h1 : 1 ≤ n) (hg : a.eval g = .func (.func gf) #[] lb) (eg : ∀ args w, (callFunc gf args).run P w = .ok (.enter gf args) w)
    (hseq : SeqTold (n - 1) P gf lb encs Pr Kp S Sp w0) (hKt : ∀ {A B C : World}, Kp A B → Kp B C → Kp A C)
    (hKb : ∀ (W : World) (l : Nat) (o o' : Obj), w.heap.size ≤ l → W.heap[l]? = some o → o.isCells = false → Kp W (W.putObj l o'))
    (hb0 : Below w0.heap.size w0 w) (hps : ∀ x, (encs x).size = ps.size)
    (I : List α → World → Prop) (Ix : Code → List α → World → Prop) (hI : OwnFrom w.heap.size I) (hIx : ∀ c, OwnFrom w.heap.size (Ix c)) (hPr : ∀ pre, OwnFrom w.heap.size (Pr pre)) (h0 : I [] w) (a₁ : α → Act)
    (hassign : ∀ (l : Nat) (x : α) (W : World) (K : Act → World → Prop), K (a₁ x) W →
      assign.wpIn (Fence.wide.inRound l) (n - 1 - 1) P (Exit.then K (fun _ _ _ => False)) { tmps := (ps.zip (encs x)).foldl (fun t (p, v) => t.setIfInBounds p v) a.tmps, defers := [] } W)
    (hbody : ∀ (l : Nat) (pre : List α) (x : α) (W : World), I pre W → Pr pre x W → body.wpIn (Fence.wide.inRound l) (n - 1 - 1) P (ToldPost w.heap.size Kp I Ix (pre ++ [x]) W) (a₁ x) W)
    (hdone : ∀ (D : Nat) (xs : List α) (W : World), w.heap.size ≤ D → S xs → I xs W → W.heap[D]? = some (.deferred (some [])) → Q .normal { a with defers := { target := .collected D, args := #[] } :: a.defers } W)
    (hstop : ∀ (D : Nat) (c : Code) (pre : List α) (W : World), w.heap.size ≤ D → Sp pre → Ix c pre W → W.heap[D]? = some (.deferred (some [])) → c.wpIn Fence.wide n P Q { a with defers := { target := .collected D, args := #[] } :: a.defers } W) :
    (Code.rangeFunc g ps assign body).wpIn Fence.wide n P Q a w := by
  refine wpIn_rangeFunc fun fn hfn => ?_
  obtain ⟨D, hD⟩ : ∃ D, D = w.heap.size := ⟨_, rfl⟩
  obtain ⟨l, hl⟩ : ∃ l, l = w.heap.size + 1 := ⟨_, rfl⟩
  have hne : l ≠ D := by omega
  obtain ⟨r, hr⟩ : ∃ r : Loop, r = { state := .ready, pending := none, fn, tmps := a.tmps, params := ps, assign, body, defers := w.heap.size } := ⟨_, rfl⟩
  obtain ⟨W1, hW1⟩ : ∃ W1, W1 = (w.alloc (.deferred (some []))).alloc (.loop r) := ⟨_, rfl⟩
  have hg1 : Gr w W1 := by rw [hW1]; exact ((Gr.refl w).alloc (Nat.le_refl _) _).alloc (by simp) _
  have hL1 : LoopAt l D r W1 := by
    rw [hW1, hl, hD]
    refine ⟨?_, (Below.heap_alloc _ _ _ (by simp)).trans (World.alloc_heap_new w _)⟩
    have := World.alloc_heap_new (w.alloc (.deferred (some []))) (.loop r)
    rwa [World.size_alloc] at this
  refine ⟨l, [{ target := .collected w.heap.size, args := #[] }], W1, { target := .fn (.func gf) lb, args := #[.func (.yield l) #[] #[]] }, W1, gf, #[.func (.yield l) #[] #[]] ++ lb, W1, ?_, ?_, fun _ _ => trivial, ?_, fun _ => h1, ?_⟩
  · rw [hW1, hr, hl]; exact run_enterLoop_outer _ _ _ _ _
  · simp only [resolve, hg]; simp [go_sem]
  · simp [invoke, go_sem, eg]
  refine (hseq l (fun pre W => I pre W ∧ LoopAt l D r W) (fun pre W => ∃ c, Ix c pre W ∧ LoopAt l D { r with state := .done, pending := some c } W) W1
    (hb0.trans (Below.mono hg1 hb0.size)) (fun s A B hs g => ⟨own_gr hI hs.1 g, hs.2.gr g⟩) ?_ ⟨own_gr hI h0 hg1, hL1⟩).mono ?_
  · rintro pre x W ⟨hi, hla⟩ hx
    have hCl : w.heap.size ≤ l := by omega
    have hy := run_yield (P := P) (args := encs x) hla.1 (by rw [hr]; exact hps x)
    obtain ⟨W2, hW2⟩ : ∃ W2, W2 = W.putObj l (.loop { r with state := .busy }) := ⟨_, rfl⟩
    have hbeg : (Instr.beginRound l).run P W = .ok () W2 := by rw [hW2]; exact run_beginRound hla.1 (by rw [hr])
    have hl2 : LoopAt l D { r with state := .busy } W2 := by rw [hW2]; exact hla.turn hne _
    have hk2 : Kp W W2 := by rw [hW2]; exact hKb _ _ _ _ hCl hla.1 rfl
    have hi2 : I pre W2 := by rw [hW2]; exact hI.putObj _ hi hCl hla.1 rfl
    have hx2 : Pr pre x W2 := by rw [hW2]; exact (hPr pre).putObj _ hx hCl hla.1 rfl
    have hrt : r.tmps = a.tmps ∧ r.params = ps ∧ r.assign = assign ∧ r.body = body ∧ r.fn = fn := by rw [hr]; exact ⟨rfl, rfl, rfl, rfl, rfl⟩
    rw [hrt.1, hrt.2.1, hrt.2.2.1, hrt.2.2.2.1, hrt.2.2.2.2] at hy
    refine ⟨fn, _, assign, body, hy, roundIn_of_wpIn hfn (hassign _ x W _ ⟨W2, hbeg, ?_⟩)⟩
    refine wpIn_mono (hbody l pre x W2 hi2 hx2) ?_
    rintro e a3 W3 ⟨j, hj, hk3, hn, hc⟩
    have hend := told_end (P := P) (W1 := W) (Ix := Ix) hCl hne hI hIx (fun W o o' h ho => hKb W l o o' hCl h ho) hKt (hl2.kept hCl (by omega) hk3) j (fun e => ⟨hKt hk2 (hn e).1, (hn e).2⟩) hc
    have hready : ({ ({ r with state := .busy } : Loop) with state := .ready, pending := none } : Loop) = r := by rw [hr]
    have hdn : ∀ c, ({ ({ r with state := .busy } : Loop) with state := .done, pending := some c } : Loop) = { r with state := .done, pending := some c } := fun c => rfl
    rw [hready] at hend
    cases e <;> simp only [JumpOf, Option.some.injEq, reduceCtorEq] at hj <;> subst hj <;> exact hend
  · have hCl : w.heap.size ≤ l := by omega
    subst hD
    rintro e W2 ⟨⟨v, rfl⟩, (⟨xs, hS, hi, hla⟩ | ⟨pre, hSp, c, hi, hla⟩)⟩
    · have hpe : r.pending = none := by rw [hr]
      have := run_endLoop (P := P) hla.1 (by rw [hr]; simp)
      rw [hpe] at this
      exact ⟨none, _, this, hdone _ xs _ (Nat.le_refl _) hS (hI.putObj _ hi hCl hla.1 rfl) (hla.turn hne _).2⟩
    · have := run_endLoop (P := P) hla.1 (by simp)
      exact ⟨some c, _, this, hstop _ c pre _ (Nat.le_refl _) hSp ((hIx c).putObj _ hi hCl hla.1 rfl) (hla.turn hne _).2⟩
end
end Go.Proofs.YtdlomcgkpiejgaaGreatDoor
/- slices.Chunk of a slice of strings, by fours: its call, and its iterator. -/
namespace Go.Proofs.YtdlomcgkpiejgaaGreatDoor
open Go.RowKit Go.Shelf CrcPlain OctPlain FramePlain RecPlain
set_option linter.unusedVariables false
set_option linter.unusedSimpArgs false
set_option maxRecDepth 20000
attribute [local go_sem] Oper.semAt_some
/-- The j-th four of a slice, as a slice. -/
def fourV (b off n j : Nat) : Value := .slice (some ⟨b, off + 4 * j, none⟩) (min 4 (n - 4 * j)) (min 4 (n - 4 * j))
theorem addr_add (b off j : Nat) : Addr.add ⟨b, off, none⟩ j = ⟨b, off + j, none⟩ := by by_cases h : j = 0 <;> simp [Addr.add, h]
theorem from_run (b off n c i : Nat) (h1 : i < n) (h2 : n ≤ c) (w : World) :
    (Instr.slice 22 (.slice (some ⟨b, off, none⟩) n c) (some (.int .i64 (i : Int))) none none).run Tryz.prog w = .ok (.slice (some ⟨b, off + i, none⟩) (n - i) (c - i)) w := by
  have hne : c ≠ i := by omega
  have h3 : (i : Int) ≤ (n : Int) := by omega
  have h4 : i ≤ n := by omega
  simp [Instr.slice, Instr.sliceBounds, run_underlying Tryz.underlying22, run_underlying Tryz.underlying9, go_sem, sliced, hne, h3, h4, addr_add, show Tryz.prog.cellsOf 9 = 1 by kernel_rfl]
theorem full_run (b off n c i e : Nat) (h1 : 1 ≤ e) (h2 : i + e ≤ n) (h3 : n ≤ c) (w : World) :
    (Instr.slice 22 (.slice (some ⟨b, off, none⟩) n c) (some (.int .i64 (i : Int))) (some (.int .i64 ((i : Int) + (e : Int)))) (some (.int .i64 ((i : Int) + (e : Int))))).run Tryz.prog w = .ok (.slice (some ⟨b, off + i, none⟩) e e) w := by
  have hne : i + e ≠ i := by omega
  have k1 : (i : Int) + (e : Int) ≤ (c : Int) := by omega
  have k2 : (i : Int) ≤ (i : Int) + (e : Int) := by omega
  have k3 : ((i : Int) + (e : Int)).toNat = i + e := by omega
  have k4 : (0 : Int) ≤ (i : Int) + (e : Int) := by omega
  simp [Instr.slice, Instr.sliceBounds, run_underlying Tryz.underlying22, run_underlying Tryz.underlying9, go_sem, sliced, hne, k1, k2, k3, k4, addr_add, show ¬ e = 0 by omega, show Tryz.prog.cellsOf 9 = 1 by kernel_rfl]
/-- What the iterator reads between two rounds. -/
def ChunkKeep (Bs Bn : Nat) (W W' : World) : Prop := W.heap.size ≤ W'.heap.size ∧ W'.heap[Bs]? = W.heap[Bs]? ∧ W'.heap[Bn]? = W.heap[Bn]?
def ChunkAt (a : Option Addr) (n c Bs Bn : Nat) (J : List Nat → World → Prop) (i : Value) (wr : World) : Prop :=
  ∃ k : Nat, 4 * k ≤ n + 3 ∧ i = .int .i64 ((4 * k : Nat) : Int) ∧ J (List.range k) wr ∧ wr.heap[Bs]? = some (.cells #[.slice a n c] 22 (0, 0)) ∧ wr.heap[Bn]? = some (.cells #[.int .i64 4] 3 (0, 0))
end Go.Proofs.YtdlomcgkpiejgaaGreatDoor
/- strings.Builder of the call's own: WriteString and String, by the library's contracts; a builder as one word. -/
namespace Go.Proofs.YtdlomcgkpiejgaaGreatDoor
open Go.RowKit FramePlain
set_option linter.unusedVariables false
set_option linter.unusedSimpArgs false
set_option maxRecDepth 20000
/-- At b there is a builder of the call's own that holds these bytes. -/
def Bld (n0 b : Nat) (l : List UInt8) (w : World) : Prop := Lib.IsBuilderF 184 5 n0 b (Lib.byteCells l) w ∧ n0 ≤ w.heap.size
/-- What a write to it leaves: blocks that are neither the builder nor rows of bytes. -/
def BKept (b : Nat) (w w' : World) : Prop := Lib.OthersKept 5 (some b) w w'
theorem bld_new (w : World) : Bld w.heap.size w.heap.size [] (w.alloc (.cells #[.pointer none, .slice none 0 0] 184)) :=
  ⟨Lib.IsBuilderF.of (Lib.fresh_isBuilder _ _ w), by simp⟩
theorem byteCells_app (a b : List UInt8) : Lib.byteCells (a ++ b) = Lib.byteCells a ++ Lib.byteCells b := by simp [Lib.byteCells]
theorem bwrite_c (n0 b : Nat) (l : List UInt8) (s : ByteArray) (w : World) (h : Bld n0 b l w) (hlen : l.length + s.size ≤ 100000000) :
    Calls Tryz.prog 159 #[.pointer (some ⟨b, 0, none⟩), .string s] w fun e w' => e = .returned (.tuple #[.int .i64 s.size, .nilIface]) ∧ Bld n0 b (l ++ s.data.toList) w' ∧ Below n0 w w' ∧ BKept b w w' := by
  have L : Go.Proofs.Lays.n166 Tryz.prog joinRen := { joinLaid with }
  refine (Any.Builder_WriteString_k L joinExtra n0 b (Lib.byteCells l) s w h.1 (by rw [Lib.byteCells_length]; omega) h.2).mono ?_
  rintro e w' ⟨he, hb, hbel, ho⟩
  refine ⟨he, ⟨?_, Nat.le_trans h.2 hbel.size⟩, hbel, ho⟩
  rw [byteCells_app]
  exact .inr hb
theorem bstring_c (n0 b : Nat) (l : List UInt8) (w : World) (h : Bld n0 b l w) :
    Calls Tryz.prog 160 #[.pointer (some ⟨b, 0, none⟩)] w fun e w' => e = .returned (.string (bs l)) ∧ Bld n0 b l w' ∧ Below n0 w w' ∧ BKept b w w' := by
  have L : Go.Proofs.Lays.n169 Tryz.prog joinRen := { joinLaid with }
  refine (Any.Builder_String_any_k L joinExtra n0 b l w h.1 h.2).mono ?_
  rintro e w' ⟨he, hb, hbel, ho⟩
  exact ⟨he, ⟨hb, Nat.le_trans h.2 hbel.size⟩, hbel, ho⟩
/-- What is neither the builder nor a row of bytes stands behind a write. -/
theorem BKept.block {b : Nat} {w w' : World} (h : BKept b w w') {k : Nat} {c : Array Value} {T : TypeId} {fz : Nat × Nat} (hk : w.heap[k]? = some (.cells c T fz)) (hb : k ≠ b) (hT : T ≠ 5) : w'.heap[k]? = some (.cells c T fz) :=
  h k _ hk (fun e => hb (Option.some.inj e)) (fun c' fz' e => by injection e with _ e2 _; exact hT e2)
theorem BKept.keeps {b C : Nat} {w w' : World} (h : BKept b w w') (hs : w.heap.size ≤ w'.heap.size) (hb : ∃ c T fz, w.heap[b]? = some (.cells c T fz)) : KeepsFrom C w w' :=
  ⟨hs, fun k o _ hk ho => h k o hk (fun e => by
    obtain ⟨c, T, fz, hc⟩ := hb
    obtain rfl : k = b := Option.some.inj e
    rw [hc] at hk; cases hk; cases ho) (fun c fz e => by rw [e] at ho; cases ho)⟩
theorem Bld.cells {n0 b : Nat} {l : List UInt8} {w : World} (h : Bld n0 b l w) : ∃ c T fz, w.heap[b]? = some (.cells c T fz) := by
  rcases h.1 with h1 | h1
  · obtain ⟨_, v, hb, _⟩ := h1; exact ⟨_, _, _, hb⟩
  · obtain ⟨_, v, hb, _⟩ := h1; exact ⟨_, _, _, hb⟩
theorem Bld.lt {n0 b : Nat} {l : List UInt8} {w : World} (h : Bld n0 b l w) : b < w.heap.size := by
  obtain ⟨c, T, fz, hc⟩ := h.cells
  exact (Array.getElem?_eq_some_iff.1 hc).1
end Go.Proofs.YtdlomcgkpiejgaaGreatDoor
