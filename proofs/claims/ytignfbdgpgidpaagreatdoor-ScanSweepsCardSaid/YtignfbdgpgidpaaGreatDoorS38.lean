/- In one text: Build, RecLay, RecBlocks, RecParse, RecRlay, RecRparse, ScWhole, ScRead, ScRt, RecLen. -/
import Derived.Shelf.Strings.BuilderK
import Derived.Test.YtignfbdgpgidpaaGreatDoorS34
import Derived.Test.YtignfbdgpgidpaaGreatDoorS37
import Derived.Test.YtignfbdgpgidpaaGreatDoorS36
import Derived.Test.YtignfbdgpgidpaaGreatDoorS35
import Derived.RangeFuncBox
import Derived.Maps.AppendAt
import Derived.Deep.RegionHeld3
import Derived.Test.YtignfbdgpgidpaaGreatDoorS11
import Derived.Deep.DeepCutAuto
import Derived.Test.YtignfbdgpgidpaaGreatDoorS09
/- strings.Builder of the call's own: WriteString and String, by the library's contracts; a builder as one word. -/
namespace Go.Proofs.YtignfbdgpgidpaaGreatDoor
open Go.RowKit FramePlain
set_option linter.unusedVariables false
set_option linter.unusedSimpArgs false
set_option maxRecDepth 20000
def BKept (b : Nat) (w w' : World) : Prop := Lib.OthersKept 5 (some b) w w'
theorem BKept.block {b : Nat} {w w' : World} (h : BKept b w w') {k : Nat} {c : Array Value} {T : TypeId} {fz : Nat × Nat} (hk : w.heap[k]? = some (.cells c T fz)) (hb : k ≠ b) (hT : T ≠ 5) : w'.heap[k]? = some (.cells c T fz) :=
  h k _ hk (fun e => hb (Option.some.inj e)) (fun c' fz' e => by injection e with _ e2 _; exact hT e2)
end Go.Proofs.YtignfbdgpgidpaaGreatDoor
/- The contract of Lay. -/
namespace Go.Proofs.YtignfbdgpgidpaaGreatDoor
open Go.RowKit Go.Shelf CrcPlain OctPlain FramePlain RecPlain
set_option linter.unusedVariables false
set_option linter.unusedSimpArgs false
set_option maxRecDepth 20000
attribute [local go_sem] Oper.semAt_some
theorem grown_cells {W W' : World} {row : Option Nat} (hg : W.grownBy W' row) (hr : ∀ r, row = some r → ∃ o : Obj, W.heap[r]? = some o ∧ o.isCells = false) {k : Nat} {c : Array Value} {T : TypeId} {fz : Nat × Nat} (h : W.heap[k]? = some (.cells c T fz)) : W'.heap[k]? = some (.cells c T fz) :=
  (hg.block k (blk_lt h) (fun e => by obtain ⟨o, ho, hc⟩ := hr k e.symm; rw [h] at ho; cases ho; cases hc)).trans h
def Boxes (Bs : Nat) (W : World) : Prop := (∃ s, W.heap[Bs]? = some (.cells s 23 (0, 0))) ∧ ∃ s, W.heap[Bs + 1]? = some (.cells s 3 (0, 0))
theorem Boxes.grown {Bs : Nat} {W W' : World} {row : Option Nat} (h : Boxes Bs W) (hg : W.grownBy W' row) (hr : ∀ r, row = some r → ∃ o : Obj, W.heap[r]? = some o ∧ o.isCells = false) : Boxes Bs W' :=
  ⟨h.1.imp fun _ h => grown_cells hg hr h, h.2.imp fun _ h => grown_cells hg hr h⟩
end Go.Proofs.YtignfbdgpgidpaaGreatDoor
/- The iterator of a file's blocks; what stands behind a head. -/
namespace Go.Proofs.YtignfbdgpgidpaaGreatDoor
open Go.RowKit Go.Shelf CrcPlain OctPlain FramePlain RecPlain
set_option linter.unusedVariables false
set_option linter.unusedSimpArgs false
set_option maxRecDepth 20000
attribute [local go_sem] Oper.semAt_some
end Go.Proofs.YtignfbdgpgidpaaGreatDoor
/- The contract of Parse. -/
namespace Go.Proofs.YtignfbdgpgidpaaGreatDoor
open Go.RowKit Go.Shelf CrcPlain OctPlain FramePlain RecPlain
set_option linter.unusedVariables false
set_option linter.unusedSimpArgs false
set_option maxRecDepth 20000
attribute [local go_sem] Oper.semAt_some
structure ParSt (w : World) (b : Nat) (acc : List ByteArray) (r : ByteArray) (lv : Value) (W : World) : Prop where
  p5 : W.heap[w.heap.size]? = some (.cells #[.int .i64 0, .int .u32 0] 50 (0, 0))
  p7 : Boxed W b 9 (.string r)
  p9 : Boxed W (b + 1) 23 lv
  row : W.ownsRow (b + 4) 9 1 lv acc.length (strs acc)
  bel : Below w.heap.size w W
  lo : w.heap.size + 1 ≤ b
theorem ownsRow_grown {W W' : World} {row : Option Nat} {base k : Nat} {e : TypeId} {sz : Nat} {v : Value} {xs : List Value} (h : W.ownsRow base e sz v k xs) (hg : W.grownBy W' row) (hr : ∀ r, row = some r → ∃ o : Obj, W.heap[r]? = some o ∧ o.isCells = false) : W'.ownsRow base e sz v k xs := by
  refine h.kept hg ?_
  rcases h.2 with ⟨rfl, _⟩ | ⟨g, cap, cur, rfl, _, hgb, _⟩
  · exact .inl rfl
  · refine .inr fun e => ?_
    obtain ⟨o, h1, h2⟩ := hr g (by simpa [Value.ownBlock] using e.symm)
    rw [hgb] at h1; cases h1; cases h2
theorem ParSt.grown {w : World} {b : Nat} {acc : List ByteArray} {r : ByteArray} {lv : Value} {W W' : World} {row : Option Nat} (h : ParSt w b acc r lv W) (hg : W.grownBy W' row) (hr : ∀ r, row = some r → w.heap.size ≤ r ∧ ∃ o : Obj, W.heap[r]? = some o ∧ o.isCells = false) : ParSt w b acc r lv W' :=
  ⟨grown_cells hg (fun r e => (hr r e).2) h.p5, grown_cells hg (fun r e => (hr r e).2) h.p7, grown_cells hg (fun r e => (hr r e).2) h.p9, ownsRow_grown h.row hg (fun r e => (hr r e).2), h.bel.grown hg h.bel.size (fun k e => (hr k e).1), h.lo⟩
def PBoxes (b : Nat) (W : World) : Prop := (∃ c, W.heap[b + 3]? = some (.cells c 9 (0, 0))) ∧ ∃ c, W.heap[b + 2]? = some (.cells c 3 (0, 0))
theorem PBoxes.grown {b : Nat} {W W' : World} {row : Option Nat} (h : PBoxes b W) (hg : W.grownBy W' row) (hr : ∀ r, row = some r → ∃ o : Obj, W.heap[r]? = some o ∧ o.isCells = false) : PBoxes b W' :=
  ⟨h.1.imp fun _ h => grown_cells hg hr h, h.2.imp fun _ h => grown_cells hg hr h⟩
theorem row_ne {W : World} {base k n : Nat} {e : TypeId} {sz : Nat} {v : Value} {xs : List Value} (h : W.ownsRow base e sz v n xs) (hk : k < base) : some k ≠ v.ownBlock := fun e => by have := (h.lt k e.symm).1; omega
end Go.Proofs.YtignfbdgpgidpaaGreatDoor
/- The contract of the document's own Lay. -/
namespace Go.Proofs.YtignfbdgpgidpaaGreatDoor
open Go.RowKit CrcPlain OctPlain FramePlain RecPlain
set_option linter.unusedVariables false
set_option linter.unusedSimpArgs false
set_option maxRecDepth 20000
end Go.Proofs.YtignfbdgpgidpaaGreatDoor
/- The contract of the document's own Parse. -/
namespace Go.Proofs.YtignfbdgpgidpaaGreatDoor
open Go.RowKit CrcPlain OctPlain FramePlain RecPlain
set_option linter.unusedVariables false
set_option linter.unusedSimpArgs false
set_option maxRecDepth 20000
end Go.Proofs.YtignfbdgpgidpaaGreatDoor
/- The document's Whole of a disk, and of a file. -/
namespace Go.Proofs.YtignfbdgpgidpaaGreatDoor
open Go.RowKit FsPlain CrcPlain OctPlain FramePlain RecPlain
set_option linter.unusedVariables false
set_option linter.unusedSimpArgs false
set_option maxRecDepth 20000
def bytes22 (s : St) (n : List UInt8) : List UInt8 := match s.get n with
  | none => []
  | some f => f.data
theorem gr22 (w : World) (o : Obj) : Gr w (w.alloc o) := (Gr.refl w).alloc (Nat.le_refl _) o
theorem grd22 {a b : World} (g : Gr a b) : Gr a b.drew := g.drew
theorem info_cells {u : World} {q : Nat} {x y : Value} (h : u.heap[q]? = some (.cells #[x, y] 50 (0, 0))) : u.cell? ⟨q, 0, none⟩ = some x ∧ u.cell? ⟨q, 1, none⟩ = some y ∧ u.frozen? ⟨q, 0, none⟩ = false ∧ u.frozen? ⟨q, 1, none⟩ = false :=
  ⟨by rw [cells_at h]; rfl, by rw [cells_at h]; rfl, cells_free h 0, cells_free h 1⟩
end Go.Proofs.YtignfbdgpgidpaaGreatDoor
/- A file read through on a disk that does not fall: plain facts; the parts that a reader leaves. -/
namespace Go.Proofs.YtignfbdgpgidpaaGreatDoor
open Go.RowKit FsPlain CrcPlain OctPlain FramePlain RecPlain RdPlain
set_option linter.unusedVariables false
set_option linter.unusedSimpArgs false
set_option maxRecDepth 20000
namespace ScPlain
end ScPlain
end Go.Proofs.YtignfbdgpgidpaaGreatDoor
/- The program's layer 22: a file read through; Whole. -/
namespace Go.Proofs.YtignfbdgpgidpaaGreatDoor
open Go.RowKit FsPlain CrcPlain OctPlain FramePlain RecPlain RdPlain ScPlain
set_option linter.unusedVariables false
set_option linter.unusedSimpArgs false
set_option maxRecDepth 20000
section
variable {A : Nat → Prop} {x p q : Nat} {s : St} {b : Bu} {m : N3} {N : List Asn} {w u : World}
end
theorem info_ret1 {fn : Func} {p : Tmp} (hfn : fn.results = #[.cell p 50]) {tmps : Array Value} {o : Nat} {x y : Value} {w : World} (hp : tmps.getD p undef = .pointer (some ⟨o, 0, none⟩)) (hb : w.heap[o]? = some (.cells #[x, y] 50 (0, 0))) :
    (results fn tmps).run Tryz.prog w = .ok (.agg #[x, y]) w := by
  have c0 : w.cell? ⟨o, 0, none⟩ = some x := by rw [cells_at hb]; rfl
  have c1 : w.cell? ⟨o, 1, none⟩ = some y := by rw [cells_at hb]; rfl
  have hp2 := hp
  rw [Array.getD_eq_getD_getElem?] at hp2
  simp [results, hfn, hp2, go_sem, c0, c1]
theorem told22_c (nm : ByteArray) (size count sum : Int) (w : World) : Calls Tryz.prog 67 #[.agg #[.string nm, .int .i64 size, .int .i64 count, .int .u32 sum]] w fun e w' => e = .returned (.agg #[.int .i64 count, .int .u32 sum]) ∧ Gr w w' := by
  have y0 := heap_alloc_new w (.cells #[.string nm, .int .i64 size, .int .i64 count, .int .u32 sum] 48)
  have g1 := gr22 w (.cells #[.string nm, .int .i64 size, .int .i64 count, .int .u32 sum] 48)
  obtain ⟨V, hV⟩ : ∃ V, w.alloc (.cells #[.string nm, .int .i64 size, .int .i64 count, .int .u32 sum] 48) = V := ⟨_, rfl⟩
  have hVz : V.heap.size = w.heap.size + 1 := by rw [← hV]; simp
  rw [hV] at y0 g1
  have y1 := heap_alloc_new V (.cells #[.int .i64 count, .int .u32 sum] 50)
  have g2 := gr22 V (.cells #[.int .i64 count, .int .u32 sum] 50)
  rw [hVz] at y1
  have x2 : V.cell? ⟨w.heap.size, 2, none⟩ = some (.int .i64 count) := by rw [cells_at y0]; rfl
  have x3 : V.cell? ⟨w.heap.size, 3, none⟩ = some (.int .u32 sum) := by rw [cells_at y0]; rfl
  have ST := Lib.hid y1
  have GF := Lib.hid (g1.trans g2)
  have HV := Lib.hid hV
  clear y0 g1 hV hVz y1 g2
  go_enter Tryz.func67, Tryz.ntmps67
  go_wp2_with fail
  rw [HV.out]
  exact bodyPost_ret (by exact info_ret1 rfl rfl ST.out) rfl ⟨rfl, GF.out⟩
theorem info_eqd (n m n' m' : Int) (r : Bool) (h : decide (n = n' ∧ m = m') = r) (w : World) : (binOp .eql 50 (.agg #[.int .i64 n, .int .u32 m]) (.agg #[.int .i64 n', .int .u32 m'])).run Tryz.prog w = .ok (.bool r) w := by
  subst h
  rw [run_eql_struct]
  by_cases h : n = n' ∧ m = m'
  · rw [h.1, h.2, info_same]
    simp [go_sem]
  · rw [info_off n m n' m' h, decide_eq_false h]
    rfl
end Go.Proofs.YtignfbdgpgidpaaGreatDoor
/- Contracts of both Lengths. -/
namespace Go.Proofs.YtignfbdgpgidpaaGreatDoor
open Go.RowKit CrcPlain OctPlain FramePlain RecPlain
set_option linter.unusedVariables false
set_option linter.unusedSimpArgs false
set_option maxRecDepth 20000
def lenB (size n : Int) : Bool := sizeB size && decide (0 ≤ n ∧ n ≤ 1099511627776)
def lenN (size n : Int) : Int := if lenB size n = true then 28 + 5 * ((n + 3) / 4) + n * size else 0
theorem lenN_no {size n : Int} (h : lenB size n = false) : lenN size n = 0 := by simp [lenN, h]
theorem lenN_yes {size n : Int} (h : lenB size n = true) : lenN size n = 28 + 5 * ((n + 3) / 4) + n * size := by simp [lenN, h]
theorem mul_le {a b c d : Int} (ha : 0 ≤ a) (hac : a ≤ c) (hb : 0 ≤ b) (hbd : b ≤ d) : 0 ≤ a * b ∧ a * b ≤ c * d :=
  ⟨Int.mul_nonneg ha hb, Int.mul_le_mul hac hbd hb (Int.le_trans ha hac)⟩
set_option maxHeartbeats 1000000 in
theorem length_c (k n : Int) (hk : I64 k) (hn : I64 n) (w : World) :
    Calls Tryz.prog 124 #[.int .i64 k, .int .i64 n] w fun e w' => e = .returned (.int .i64 (lenN k n)) ∧ w = w' := by
  have R := fun w => rsized_c k hk w
  cases hs : sizeB k
  · rw [hs] at R
    have HR := Lib.hid (lenN_no (show lenB k n = false by unfold lenB; rw [hs]; rfl))
    clear hs
    go_enter Tryz.func124, Tryz.ntmps124
    go_wp2_with fail
    refine (R _).mono ?_; rintro e u ⟨rfl, rfl⟩
    go_wp2_with fail
    go_ret
    exact ⟨ret_i HR.out.symm, rfl⟩
  · rw [hs] at R
    by_cases h : 0 ≤ n ∧ n ≤ 1099511627776
    · have hb : lenB k n = true := by unfold lenB; rw [hs, decide_eq_true h]; rfl
      have HR := Lib.hid (lenN_yes hb)
      have Q := fun w => room_c k hk w
      have hr : roomN k = 5 + 4 * k := by unfold roomN; rw [if_pos hs]
      simp only [sizeB, decide_eq_true_eq] at hs
      obtain ⟨h0, h1⟩ := h
      have hr0 : 0 ≤ roomN k ∧ roomN k ≤ 261 := by omega
      obtain ⟨r, hrr⟩ : ∃ r, r = roomN k := ⟨_, rfl⟩
      rw [← hrr] at Q hr hr0
      have HRR := Lib.hid hr
      clear hrr hr hb
      go_enter Tryz.func124, Tryz.ntmps124
      go_wp2_with fail
      refine (R _).mono ?_; rintro e u ⟨rfl, rfl⟩
      go_wp2_with fail
      refine (Q _).mono ?_; rintro e u ⟨rfl, rfl⟩
      go_wp2_with fail
      go_ret
      have hB := mul_le h0 h1 (show 0 ≤ k by omega) hs.2
      have hq : n + 4 - 1 = n + 3 := by omega
      have hq0 : 0 ≤ (n + 3) / 4 ∧ (n + 3) / 4 ≤ 274877906944 := by omega
      have hA := mul_le hq0.1 hq0.2 (show 0 ≤ k by omega) hs.2
      have hP : (n + 3) / 4 * r = 5 * ((n + 3) / 4) + 4 * ((n + 3) / 4 * k) := by
        rw [HRR.out, Int.mul_add, Int.mul_comm _ 5, ← Int.mul_assoc, Int.mul_comm _ 4, Int.mul_assoc]
      have hM : ((n + 3) / 4 * 4 - n) * k = 4 * ((n + 3) / 4 * k) - n * k := by
        rw [Int.sub_mul, Int.mul_comm ((n + 3) / 4) 4, Int.mul_assoc]
      have hout := HR.out
      refine ⟨ret_i ?_, rfl⟩
      rw [hout, hq, hP, hM]
      generalize (n + 3) / 4 * k = A at hA ⊢
      generalize n * k = B at hB ⊢
      unfold wrap64
      omega
    · have hb : lenB k n = false := by unfold lenB; rw [decide_eq_false h, Bool.and_false]
      have HR := Lib.hid (lenN_no hb)
      by_cases h0 : n < 0
      · clear h hs hb
        go_enter Tryz.func124, Tryz.ntmps124
        go_wp2_with fail
        refine (R _).mono ?_; rintro e u ⟨rfl, rfl⟩
        go_wp2_with fail
        go_ret
        exact ⟨ret_i HR.out.symm, rfl⟩
      · have h1 : 1099511627776 < n := by omega
        clear h hs hb
        go_enter Tryz.func124, Tryz.ntmps124
        go_wp2_with fail
        refine (R _).mono ?_; rintro e u ⟨rfl, rfl⟩
        go_wp2_with fail
        go_ret
        exact ⟨ret_i HR.out.symm, rfl⟩
end Go.Proofs.YtignfbdgpgidpaaGreatDoor
