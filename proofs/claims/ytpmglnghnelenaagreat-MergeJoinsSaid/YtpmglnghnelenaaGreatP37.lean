/- In one text: RecBlocks, RecParse, RecRlay, RecRparse, RecLen. -/
import Derived.Test.YtpmglnghnelenaaGreatP07
import Derived.Test.YtpmglnghnelenaaGreatP36
import Derived.RangeFuncBox
import Derived.Maps.AppendAt
import Derived.Deep.RegionHeld3
import Derived.Test.YtpmglnghnelenaaGreatP06
import Derived.Test.YtpmglnghnelenaaGreatP08
/- The iterator of a file's blocks; what stands behind a head. -/
namespace Go.Proofs.YtpmglnghnelenaaGreat
open Go.RowKit Go.Shelf CrcPlain OctPlain FramePlain RecPlain
set_option linter.unusedVariables false
set_option linter.unusedSimpArgs false
set_option maxRecDepth 20000
attribute [local go_sem] Oper.semAt_some
/-- What is handed out at once: a block's records, as a slice that holds them, and what stands behind it. -/
abbrev Piece := Value × List ByteArray × ByteArray
def pcs (pre : List Piece) : List (List ByteArray) := pre.map (·.2.1)
def BlkPr (size : Int) (s : ByteArray) (pre : List Piece) (x : Piece) (W : World) : Prop :=
  Lies W x.1 x.2.1 ∧ blkB size x.2.1 = true ∧ s.data.toList = blks (pcs pre ++ [x.2.1]) ++ x.2.2.data.toList
def BlkKeep (Bs Bz : Nat) (W W' : World) : Prop := W.heap.size ≤ W'.heap.size ∧ W'.heap[Bs]? = W.heap[Bs]? ∧ W'.heap[Bz]? = W.heap[Bz]?
def BlkS (size : Int) (s : ByteArray) (xs : List Piece) : Prop := ∃ r : ByteArray, s.data.toList = blks (pcs xs) ++ r.data.toList ∧ gB size r = false
def BlkAt (size : Int) (s : ByteArray) (Bs Bz : Nat) (J : List Piece → World → Prop) (i : Value) (wr : World) : Prop :=
  ∃ (pre : List Piece) (r : ByteArray), i = .string r ∧ J pre wr ∧ s.data.toList = blks (pcs pre) ++ r.data.toList ∧ r.size ≤ s.size ∧ wr.heap[Bs]? = some (.cells #[.string s] 9 (0, 0)) ∧ wr.heap[Bz]? = some (.cells #[.int .i64 size] 3 (0, 0))
def strLen : Value → Nat
  | .string s => s.size
  | _ => 0
theorem cut_run (s : ByteArray) (n : Nat) (h : n ≤ s.size) (w : World) :
    (Instr.slice 9 (.string s) (some (.int .i64 (n : Int))) none none).run Tryz.prog w = .ok (.string (s.extract n s.size)) w := by
  rw [run_slice_string_from_if w 9 s .i64 (n : Int) Tryz.underlying9, if_pos ⟨by omega, by omega⟩, Int.toNat_natCast]
/-- Does s begin with p? -/
def preB (s p : ByteArray) : Bool := decide (p.size ≤ s.size ∧ s.extract 0 p.size = p)
theorem hasprefix_c (s p : ByteArray) (w : World) :
    Calls Tryz.prog 159 #[.string s, .string p] w fun e w' => e = .returned (.bool (preB s p)) ∧ w = w' := by
  by_cases h : p.size ≤ s.size
  · have hsl := slice_to s p.size h
    have ht : ((s.extract 0 p.size).toList == p.toList) = preB s p := by
      rw [eq_list]; unfold preB
      exact decide_eq_decide.2 ⟨fun h2 => ⟨h, h2⟩, fun h2 => h2.2⟩
    have d1 : (p.size : Int) ≤ (s.size : Int) := by omega
    clear h
    go_enter Tryz.func159, Tryz.ntmps159
    go_wp2_with fail
    go_ret
    exact ⟨rfl, rfl⟩
  · have hb : preB s p = false := by unfold preB; rw [decide_eq_false_iff_not]; exact fun h2 => h h2.1
    have HB := Lib.hid hb
    have d1 : ¬ (p.size : Int) ≤ (s.size : Int) := by omega
    clear h hb
    go_enter Tryz.func159, Tryz.ntmps159
    go_wp2_with fail
    go_ret
    exact ⟨retb HB.out.symm, rfl⟩
def cutS (s p : ByteArray) : ByteArray := if preB s p = true then s.extract p.size s.size else s
/-- Does s begin with the head of that size? -/
def bhB (size : Int) (s : ByteArray) : Bool := sizeB size && preB s (headS size)
def bhS (size : Int) (s : ByteArray) : ByteArray := if sizeB size = true then cutS s (headS size) else ⟨#[]⟩
end Go.Proofs.YtpmglnghnelenaaGreat
/- The contract of Parse. -/
namespace Go.Proofs.YtpmglnghnelenaaGreat
open Go.RowKit Go.Shelf CrcPlain OctPlain FramePlain RecPlain
set_option linter.unusedVariables false
set_option linter.unusedSimpArgs false
set_option maxRecDepth 20000
attribute [local go_sem] Oper.semAt_some
theorem ret_pie {v v' : Value} {a a' b b' c c' : Int} (h : v = v') (h1 : a = a') (h2 : b = b') (h3 : c = c') :
    Ending.returned (.tuple #[v, .agg #[.int .i64 a, .int .u32 b], .int .i64 c]) = .returned (.tuple #[v', .agg #[.int .i64 a', .int .u32 b'], .int .i64 c']) := by rw [h, h1, h2, h3]
/-- What Parse comes to. -/
def PGot (size : Int) (s : ByteArray) (w : World) (e : Ending) (w' : World) : Prop :=
  (∃ L v, IsFile size s L ∧ e = .returned (.tuple #[v, .agg #[.int .i64 (L.length : Nat), .int .u32 (sumN L : Nat)], .int .i64 0]) ∧ Lies w' v L ∧ Gr w w') ∨
  ((∀ L, ¬ IsFile size s L) ∧ e = .returned (.tuple #[.slice none 0 0, .agg #[.int .i64 0, .int .u32 0], .int .i64 6]) ∧ Gr w w')
theorem bh_no {size : Int} {s : ByteArray} (h : bhB size s = false) (l : List ByteArray) : ¬ IsFile size s l := by
  rintro ⟨hB, hs⟩
  unfold layB at hB
  rw [Bool.and_eq_true] at hB
  unfold bhB preB at h
  rw [hB.1, Bool.true_and, decide_eq_false_iff_not] at h
  have hl : (headS size).size ≤ s.size := by
    rw [← data_length, ← data_length, hs]
    unfold layL
    rw [List.length_append]; omega
  refine h ⟨hl, ext_toList ?_⟩
  rw [extract_data, List.drop_zero, hs]
  unfold layL
  rw [List.take_append_of_le_length (by rw [data_length]; omega), List.take_of_length_le (by rw [data_length]; omega)]
theorem bh_yes {size : Int} {s : ByteArray} (h : bhB size s = true) : sizeB size = true ∧ s.data.toList = (headS size).data.toList ++ (bhS size s).data.toList ∧ (bhS size s).size ≤ s.size := by
  unfold bhB at h
  rw [Bool.and_eq_true] at h
  have hS : bhS size s = s.extract (headS size).size s.size := by unfold bhS cutS; rw [if_pos h.1, if_pos h.2]
  have h2 := h.2
  unfold preB at h2
  rw [decide_eq_true_iff] at h2
  have e : s.data.toList.take s.size = s.data.toList := List.take_of_length_le (by rw [data_length]; omega)
  refine ⟨h.1, ?_, by rw [hS, ByteArray.size_extract]; omega⟩
  have h3 := congrArg (fun x => x.data.toList) h2.2
  simp only [extract_data, List.drop_zero] at h3
  rw [hS, extract_data, e, ← h3]
  exact (List.take_append_drop _ _).symm
/-- Where Parse is behind some blocks. -/
structure ParSt (w : World) (b : Nat) (acc : List ByteArray) (r : ByteArray) (lv : Value) (W : World) : Prop where
  p5 : W.heap[w.heap.size]? = some (.cells #[.int .i64 0, .int .u32 0] 33 (0, 0))
  p7 : Boxed W b 9 (.string r)
  p9 : Boxed W (b + 1) 26 lv
  row : W.ownsRow (b + 4) 9 1 lv acc.length (strs acc)
  bel : Below w.heap.size w W
  lo : w.heap.size + 1 ≤ b
theorem ownsRow_grown {W W' : World} {row : Option Nat} {base k : Nat} {e : TypeId} {sz : Nat} {v : Value} {xs : List Value} (h : W.ownsRow base e sz v k xs) (hg : W.grownBy W' row) (hr : ∀ r, row = some r → ∃ o : Obj, W.heap[r]? = some o ∧ o.isCells = false) : W'.ownsRow base e sz v k xs := by
  refine h.kept hg ?_
  rcases h.2 with ⟨rfl, _⟩ | ⟨g, cap, cur, rfl, _, hgb, _⟩
  · exact .inl rfl
  · refine .inr fun e => ?_
    obtain ⟨o, h1, h2⟩ := hr g (by simpa [Value.ownBlock] using e.symm)
    rw [hgb] at h1; cases h1; cases h2
theorem ParSt.grown {w : World} {b : Nat} {acc : List ByteArray} {r : ByteArray} {lv : Value} {W W' : World} {row : Option Nat} (h : ParSt w b acc r lv W) (hg : W.grownBy W' row) (hr : ∀ r, row = some r → w.heap.size ≤ r ∧ ∃ o : Obj, W.heap[r]? = some o ∧ o.isCells = false) : ParSt w b acc r lv W' :=
  ⟨grown_cells hg (fun r e => (hr r e).2) h.p5, grown_cells hg (fun r e => (hr r e).2) h.p7, grown_cells hg (fun r e => (hr r e).2) h.p9, ownsRow_grown h.row hg (fun r e => (hr r e).2), h.bel.grown hg h.bel.size (fun k e => (hr k e).1), h.lo⟩
theorem ParSt.gr {w : World} {b : Nat} {acc : List ByteArray} {r : ByteArray} {lv : Value} {W W' : World} (h : ParSt w b acc r lv W) (g : Gr W W') : ParSt w b acc r lv W' := h.grown (gr_grown g) (fun r e => by cases e)
/-- The blocks that were walked, and what stands behind them. -/
def Walked (size : Int) (s : ByteArray) (ps : List (List ByteArray)) (r : ByteArray) : Prop := s.data.toList = blks ps ++ r.data.toList ∧ (∀ p ∈ ps, blkB size p = true) ∧ Full ps
def PBoxes (b : Nat) (W : World) : Prop := (∃ c, W.heap[b + 3]? = some (.cells c 9 (0, 0))) ∧ ∃ c, W.heap[b + 2]? = some (.cells c 3 (0, 0))
def ParI (size : Int) (s : ByteArray) (w : World) (b : Nat) (pre : List Piece) (W : World) : Prop :=
  (∃ lv r, ParSt w b (pcs pre).flatten r lv W ∧ Walked size s (pcs pre) r ∧ ∀ p ∈ pcs pre, p.length = 4) ∧ PBoxes b W
def ParX (size : Int) (s : ByteArray) (w : World) (b : Nat) (id : Nat) (c : Code) (pre : List Piece) (W : World) : Prop :=
  c = .exit id ∧ ∃ lv r, ParSt w b (pcs pre).flatten r lv W ∧ Walked size s (pcs pre) r ∧ ∃ p, (pcs pre).getLast? = some p ∧ p.length < 4
theorem PBoxes.grown {b : Nat} {W W' : World} {row : Option Nat} (h : PBoxes b W) (hg : W.grownBy W' row) (hr : ∀ r, row = some r → ∃ o : Obj, W.heap[r]? = some o ∧ o.isCells = false) : PBoxes b W' :=
  ⟨h.1.imp fun _ h => grown_cells hg hr h, h.2.imp fun _ h => grown_cells hg hr h⟩
theorem parI_own (size : Int) (s : ByteArray) (w : World) (b C : Nat) (hC : w.heap.size ≤ C) : OwnFrom C (ParI size s w b) := by
  rintro p W W' row ⟨⟨lv, r, h1, h2⟩, hx⟩ hg hr
  exact ⟨⟨lv, r, h1.grown hg (fun k e => ⟨Nat.le_trans hC (hr k e).1, (hr k e).2⟩), h2⟩, hx.grown hg (fun k e => (hr k e).2)⟩
theorem parX_own (size : Int) (s : ByteArray) (w : World) (b id C : Nat) (hC : w.heap.size ≤ C) (c : Code) : OwnFrom C (ParX size s w b id c) := by
  rintro p W W' row ⟨hc, lv, r, h1, h2⟩ hg hr
  exact ⟨hc, lv, r, h1.grown hg (fun k e => ⟨Nat.le_trans hC (hr k e).1, (hr k e).2⟩), h2⟩
theorem row_ne {W : World} {base k n : Nat} {e : TypeId} {sz : Nat} {v : Value} {xs : List Value} (h : W.ownsRow base e sz v n xs) (hk : k < base) : some k ≠ v.ownBlock := fun e => by have := (h.lt k e.symm).1; omega
theorem pcs_snoc (pre : List Piece) (x : Piece) : pcs (pre ++ [x]) = pcs pre ++ [x.2.1] := by simp [pcs]
theorem flat_snoc (ps : List (List ByteArray)) (p : List ByteArray) : (ps ++ [p]).flatten = ps.flatten ++ p := by simp
theorem full_snoc {ps : List (List ByteArray)} (h : ∀ p ∈ ps, p.length = 4) (p : List ByteArray) : Full (ps ++ [p]) := by
  intro j q hq hj
  rw [List.length_append] at hj
  simp at hj
  rw [List.getElem?_append_left (by omega)] at hq
  exact h q (List.mem_of_getElem? hq)
theorem blks_ge {size : Int} : ∀ ps : List (List ByteArray), (∀ p ∈ ps, blkB size p = true) → ps.flatten.length ≤ (blks ps).length
  | [], _ => by simp [blks_nil]
  | p :: ps, h => by
    have h2 := blks_ge ps fun q hq => h q (by simp [hq])
    obtain ⟨n, hn, _, _, h5, _⟩ := blk_cl (h p (by simp))
    obtain ⟨h1, _, _⟩ := blk_parts (h p (by simp))
    simp only [sizeB, decide_eq_true_eq] at h1
    have h6 : (p.length : Int) ≤ p.length * size := by
      have := Int.mul_le_mul_of_nonneg_left h1.1 (Int.natCast_nonneg p.length)
      omega
    rw [blks_cons, List.length_append, data_length, List.flatten_cons, List.length_append]
    omega
theorem walked_len {size : Int} {s : ByteArray} {ps : List (List ByteArray)} {r : ByteArray} (h : Walked size s ps r) : ps.flatten.length ≤ s.size := by
  have h1 := blks_ge ps h.2.1
  have h2 := congrArg List.length h.1
  rw [List.length_append, data_length] at h2
  omega
theorem box_blk {W : World} {b : Nat} {T : TypeId} {v : Value} (h : Boxed W b T v) : W.heap[b]? = some (.cells #[v] T (0, 0)) := h
/-- Behind 'l = append(l, piece...); rest = behind'. -/
theorem par_append {w : World} {b : Nat} {acc p : List ByteArray} {r r2 : ByteArray} {lv v' : Value} {W w1 : World} (h : ParSt w b acc r lv W) (hx : PBoxes b W) (ho : w1.ownsRow (b + 4) 9 1 v' (acc ++ p).length (strs (acc ++ p))) (hg : W.grownBy w1 lv.ownBlock) :
    ParSt w b (acc ++ p) r2 v' ((w1.setCell ⟨b + 1, 0, none⟩ v').setCell ⟨b, 0, none⟩ (.string r2)) ∧ PBoxes b ((w1.setCell ⟨b + 1, 0, none⟩ v').setCell ⟨b, 0, none⟩ (.string r2)) ∧
      (∀ C, KeepsFrom C W ((w1.setCell ⟨b + 1, 0, none⟩ v').setCell ⟨b, 0, none⟩ (.string r2))) ∧ BlkKeep (b + 3) (b + 2) W ((w1.setCell ⟨b + 1, 0, none⟩ v').setCell ⟨b, 0, none⟩ (.string r2)) := by
  have hlo := h.lo
  have old : ∀ k o, k < b + 4 → W.heap[k]? = some o → w1.heap[k]? = some o := fun k o hk ho' => (hg.block k (blk_lt ho') (row_ne h.row hk)).trans ho'
  have q7 : w1.heap[b]? = some (.cells #[.string r] 9 (0, 0)) := old _ _ (by omega) h.p7
  have q9 : w1.heap[b + 1]? = some (.cells #[lv] 26 (0, 0)) := old _ _ (by omega) h.p9
  have ne : ∀ k, k ≠ b → k ≠ b + 1 → ∀ o, w1.heap[k]? = some o → ((w1.setCell ⟨b + 1, 0, none⟩ v').setCell ⟨b, 0, none⟩ (.string r2)).heap[k]? = some o := fun k h1 h2 o ho' => blk_other (blk_other ho' _ _ (fun e => h2 e.symm)) _ _ (fun e => h1 e.symm)
  have hx1 : PBoxes b w1 := ⟨hx.1.imp fun _ h => old _ _ (by omega) h, hx.2.imp fun _ h => old _ _ (by omega) h⟩
  have hsz : W.heap.size ≤ w1.heap.size := hg.size
  have kk : ∀ C, KeepsFrom C W ((w1.setCell ⟨b + 1, 0, none⟩ v').setCell ⟨b, 0, none⟩ (.string r2)) := fun C => by
    refine ⟨by simp [World.setCell]; exact hsz, fun k o _ hk ho' => ?_⟩
    have h1 : w1.heap[k]? = some o := (hg.block k (blk_lt hk) (fun e => by
      rcases h.row.2 with ⟨e2, _⟩ | ⟨g, cap, cur, e2, _, hgb, _⟩
      · rw [e2] at e; cases e
      · rw [e2] at e
        have : k = g := by simpa [Value.ownBlock] using e
        subst this
        rw [hgb] at hk; cases hk; cases ho')).trans hk
    refine blk_other (blk_other h1 _ _ (fun e => ?_)) _ _ (fun e => ?_)
    · simp at e; subst e; rw [q9] at h1; cases h1; cases ho'
    · simp at e; subst e; rw [q7] at h1; cases h1; cases ho'
  refine ⟨⟨ne _ (by omega) (by omega) _ (old _ _ (by omega) h.p5), ?_, ?_, ?_, ?_, hlo⟩, ⟨hx1.1.imp fun _ h => ne _ (by omega) (by omega) _ h, hx1.2.imp fun _ h => ne _ (by omega) (by omega) _ h⟩, kk, ?_⟩
  · exact Boxed.set (.string r2) (box_blk (blk_other q7 ⟨b + 1, 0, none⟩ v' (by simp)))
  · exact blk_other (by simpa using blk_set q9 0 v') _ _ (by simp)
  · refine World.ownsRow.kept (World.ownsRow.kept ho (grownBy_setCell' w1 (b + 1) v') (.inr ?_)) (grownBy_setCell' _ b (.string r2)) (.inr ?_)
    · exact fun e => row_ne ho (show b + 1 < b + 4 by omega) e.symm
    · exact fun e => row_ne ho (show b < b + 4 by omega) e.symm
  · have hb1 : Below w.heap.size w w1 := h.bel.grown hg h.bel.size (fun k e => by have := (h.row.lt k e).1; omega)
    exact (hb1.setCell (p := ⟨b + 1, 0, none⟩) (by simp; omega) _).setCell (p := ⟨b, 0, none⟩) (by simp; omega) _
  · obtain ⟨⟨c1, x1⟩, ⟨c2, x2⟩⟩ := hx
    exact ⟨by simp [World.setCell]; exact hsz, (ne _ (by omega) (by omega) _ (old _ _ (by omega) x1)).trans x1.symm, (ne _ (by omega) (by omega) _ (old _ _ (by omega) x2)).trans x2.symm⟩
theorem blkK_t {Bs Bn : Nat} {A B C : World} (h : BlkKeep Bs Bn A B) (k : BlkKeep Bs Bn B C) : BlkKeep Bs Bn A C := ⟨Nat.le_trans h.1 k.1, k.2.1.trans h.2.1, k.2.2.trans h.2.2⟩
theorem blkK_b {Bs Bn N : Nat} (h1 : Bs < N) (h2 : Bn < N) (W : World) (l : Nat) (o o' : Obj) (hl : N ≤ l) (h : W.heap[l]? = some o) (_ : o.isCells = false) : BlkKeep Bs Bn W (W.putObj l o') :=
  ⟨by simp, World.putObj_heap_other (by omega), World.putObj_heap_other (by omega)⟩
theorem par_start (w u : World) (r : ByteArray) (g : Gr (w.alloc (.cells #[.int .i64 0, .int .u32 0] 33)) u) : ParSt w u.heap.size [] r (.slice none 0 0) ((u.alloc (.cells #[.string r] 9)).alloc (.cells #[.slice none 0 0] 26)) := by
  obtain ⟨h1, h2, h3⟩ := two_blks u (.cells #[.string r] 9) (.cells #[.slice none 0 0] 26)
  have hs := g.size
  simp only [World.size_alloc] at hs
  exact ⟨blk_gr (blk_gr (heap_alloc_new w _) g) h3, h1, h2, World.ownsRow_nil _ _ _ _, (Gr.trans (gral w _) g).trans h3, by omega⟩
theorem info_diff (n m n' m' : Int) (h : ¬ (n = n' ∧ m = m')) (w : World) : (binOp .neq 33 (.agg #[.int .i64 n, .int .u32 m]) (.agg #[.int .i64 n', .int .u32 m'])).run Tryz.prog w = .ok (.bool true) w := by
  have e : (Op.equalIn 10000 33 (.agg #[.int .i64 n, .int .u32 m]) (.agg #[.int .i64 n', .int .u32 m'])).run Tryz.prog w = .ok false w := by
    rw [run_equalIn_agg w 9999 _ _ _ (by kernel_rfl) (by kernel_rfl)]
    by_cases h1 : n = n'
    · have h2 : ¬ m = m' := fun e => h ⟨h1, e⟩
      simp [go_sem, h1, h2]
    · simp [go_sem, h1]
  rw [run_neq_struct, e]
  rfl
theorem grown_set (W : World) (b i : Nat) (v : Value) : W.grownBy (W.setCell ⟨b, i, none⟩ v) (some b) :=
  ⟨rfl, rfl, rfl, by simp [World.setCell], fun k _ hk => Below.heap_setCell _ _ _ k (fun e => hk (by rw [e]))⟩
theorem owns_set {W : World} {base e n k i : Nat} {v x : Value} {xs : List Value} (h : W.ownsRow base e 1 v n xs) (hk : k < base) : (W.setCell ⟨k, i, none⟩ x).ownsRow base e 1 v n xs :=
  h.kept (grown_set W k i x) (.inr fun e => row_ne h hk e.symm)
theorem set_two {Z : World} {k : Nat} {a b x y : Value} {T : TypeId} (h : Z.heap[k]? = some (.cells #[a, b] T (0, 0))) : ((Z.setCell ⟨k, 0, none⟩ x).setCell ⟨k, 1, none⟩ y).heap[k]? = some (.cells #[x, y] T (0, 0)) := by
  simpa using blk_set (blk_set h 0 x) 1 y
theorem set_two_below {w Z : World} {k : Nat} {x y : Value} (h : Below w.heap.size w Z) (hk : w.heap.size ≤ k) : Below w.heap.size w ((Z.setCell ⟨k, 0, none⟩ x).setCell ⟨k, 1, none⟩ y) :=
  (h.setCell (p := ⟨k, 0, none⟩) hk x).setCell (p := ⟨k, 1, none⟩) hk y
theorem set_two_obj {Z : World} {k D : Nat} {x y : Value} {o : Obj} (h : Z.heap[D]? = some o) (ho : o.isCells = false) : ((Z.setCell ⟨k, 0, none⟩ x).setCell ⟨k, 1, none⟩ y).heap[D]? = some o :=
  ((KeepsOthers.setCell Z ⟨k, 0, none⟩ x).trans (KeepsOthers.setCell _ ⟨k, 1, none⟩ y)).same D _ h ho
end Go.Proofs.YtpmglnghnelenaaGreat
/- The contract of the document's own Lay. -/
namespace Go.Proofs.YtpmglnghnelenaaGreat
open Go.RowKit CrcPlain OctPlain FramePlain RecPlain
set_option linter.unusedVariables false
set_option linter.unusedSimpArgs false
set_option maxRecDepth 20000
theorem all_none (a : Option Addr) (c : Nat) (size : Int) (w : World) :
    Calls Tryz.prog 43 #[.int .i64 size, .slice a 0 c] w fun e w' => e = .returned (.bool true) ∧ w = w' := by
  go_enter Tryz.func43, Tryz.ntmps43
  go_wp2_with fail
  go_rounds 1
  go_ret
  exact ⟨rfl, rfl⟩
theorem rall_c {w : World} {v : Value} {l : List ByteArray} (h : Lies w v l) (size : Int) (hk : I64 size) (hl : l.length ≤ 3000) :
    Calls Tryz.prog 43 #[.int .i64 size, v] w fun e w' => e = .returned (.bool (allB size l)) ∧ w = w' := by
  obtain ⟨a, c, rfl, hc, h⟩ := h
  rcases h with rfl | ⟨b, off, rfl, hr⟩
  · exact all_none a c size w
  · exact all_c b off c l size hk hl w hr
theorem mid_run (b off n c i e : Nat) (h1 : 1 ≤ e) (h2 : i + e ≤ n) (h3 : n ≤ c) (w : World) :
    (Instr.slice 26 (.slice (some ⟨b, off, none⟩) n c) (some (.int .i64 (i : Int))) (some (.int .i64 ((i : Int) + (e : Int)))) none).run Tryz.prog w = .ok (.slice (some ⟨b, off + i, none⟩) e (c - i)) w := by
  have hne : c ≠ i := by omega
  have k1 : (i : Int) + (e : Int) ≤ (c : Int) := by omega
  have k2 : (i : Int) ≤ (i : Int) + (e : Int) := by omega
  have k3 : ((i : Int) + (e : Int)).toNat = i + e := by omega
  have k4 : (0 : Int) ≤ (i : Int) + (e : Int) := by omega
  simp [Instr.slice, Instr.sliceBounds, run_underlying Tryz.underlying26, run_underlying Tryz.underlying9, go_sem, sliced, hne, k1, k2, k3, k4, addr_add, show Tryz.prog.cellsOf 9 = 1 by kernel_rfl]
theorem four_liesC {w W : World} {L : List ByteArray} {b off c e : Nat} (hr : SRow w b off L) (g : Gr w W) {j : Nat} (he : e = min 4 (L.length - 4 * j)) (hj : 4 * j < L.length) (hc : e ≤ c) : Lies W (.slice (some ⟨b, off + 4 * j, none⟩) e c) (four L j) := by
  obtain ⟨a', c', h1, h2, h3⟩ := four_lies (.inr hr) g hj
  unfold fourV at h1
  have hl := four_length L j
  rw [← he] at hl
  injection h1 with e1 e2 e3
  subst e1
  exact ⟨_, c, by rw [hl], by omega, h3⟩
def RlayAt (size : Int) (L : List ByteArray) (n : Nat) (w : World) (s i : Value) (wr : World) : Prop :=
  ∃ k : Nat, 4 * k ≤ n + 3 ∧ i = .int .i64 ((4 * k : Nat) : Int) ∧ s = .string (bs ((headS size).data.toList ++ blks (ups L k))) ∧ Below w.heap.size w wr
theorem ups_bound {size : Int} {L : List ByteArray} (hB : layB size L = true) {k : Nat} (hk : k ≤ cnt4 L) : (bs ((headS size).data.toList ++ blks (ups L k))).size ≤ 11 + 261 * k := by
  rw [bs_size]
  have := lay_len (size := size) (L := L) (pre := List.range k) (N := k) (fun j hj => four_blk hB (by have := List.mem_range.1 hj; omega)) (by rw [List.length_range]; omega)
  exact this
set_option maxHeartbeats 4000000 in
theorem rlay_c {w : World} {v : Value} {L : List ByteArray} (h : Lies w v L) (size : Int) (hk : I64 size) (hl : L.length ≤ 3000) (hz : ∀ s ∈ L, s.size ≤ 1000) :
    Calls Tryz.prog 20 #[.int .i64 size, v] w fun e w' => e = .returned (.tuple #[.string (layR size L), .bool (layB size L)]) ∧ Gr w w' := by
  have P := fun w => rputhead_c size hk w
  cases hs : sizeB size
  · have hB : layB size L = false := by unfold layB; rw [hs]; rfl
    rw [hs, headR_no hs] at P
    have HB := Lib.hid hB
    have HR := Lib.hid (layR_no hB)
    obtain ⟨a, c, rfl, _⟩ := h
    clear hs hB
    go_enter Tryz.func20, Tryz.ntmps20
    go_wp2_with fail
    refine (P _).mono ?_; rintro e u ⟨rfl, g⟩
    go_wp2_with fail
    go_ret2
    exact ⟨ret_sb HR.out.symm HB.out.symm, g⟩
  · rw [hs, headR_yes hs] at P
    cases ha : allB size L
    · have hB : layB size L = false := by unfold layB; rw [ha, Bool.and_false]
      have HB := Lib.hid hB
      have HR := Lib.hid (layR_no hB)
      have A := fun (u : World) (g : Gr w u) => rall_c (h.gr g) size hk hl
      rw [ha] at A
      have AA := Lib.hid A
      obtain ⟨a, c, rfl, _⟩ := h
      obtain ⟨hd, hhd⟩ : ∃ hd, hd = headS size := ⟨_, rfl⟩
      rw [← hhd] at P
      clear hs hB ha hhd A
      go_enter Tryz.func20, Tryz.ntmps20
      go_wp2_with fail
      refine (P _).mono ?_; rintro e u ⟨rfl, g⟩
      go_wp2_with fail
      refine (AA.out _ g).mono ?_; rintro e u2 ⟨rfl, rfl⟩
      go_wp2_with fail
      go_ret2
      exact ⟨ret_sb HR.out.symm HB.out.symm, g⟩
    · have hB : layB size L = true := by unfold layB; rw [ha, hs]; rfl
      have HB := Lib.hid hB
      have A := fun (u : World) (g : Gr w u) => rall_c (h.gr g) size hk hl
      rw [ha] at A
      have AA := Lib.hid A
      have HL := Lib.hid h
      obtain ⟨a, c, rfl, hc, h⟩ := h
      obtain ⟨n, hn⟩ : ∃ n, L.length = n := ⟨_, rfl⟩
      have HN := Lib.hid hn
      have H0 : 1 ≤ n → ∃ b off, a = some ⟨b, off, none⟩ ∧ SRow w b off L := fun h1 => h.elim (fun h0 => by rw [h0] at hn; simp at hn; omega) id
      have H := Lib.hid H0
      rw [hn] at hl hc HL AA ⊢
      have HZ := Lib.hid hz
      obtain ⟨hd, hhd⟩ : ∃ hd, hd = headS size := ⟨_, rfl⟩
      have hd11 : hd.size = 11 := by rw [hhd, headS_size]
      rw [← hhd] at P
      have HD := Lib.hid hhd
      clear hs hB ha hhd A hn h H0 hz
      go_enter Tryz.func20, Tryz.ntmps20
      go_wp2_with fail
      refine (P _).mono ?_; rintro e u ⟨rfl, g⟩
      go_wp2_with fail
      refine (AA.out _ g).mono ?_; rintro e u2 ⟨rfl, rfl⟩
      go_wp2_with fail
      go_loopw [6, 8] (fun s i wr => RlayAt size L n w s i wr) (fun _ i _ => n + 3 - (intOf i).toNat)
      case atStart => exact ⟨0, by omega, rfl, by rw [← HD.out]; simp [ups, blks_nil, bs_toList], g⟩
      case round =>
        obtain ⟨k, hk4, rfl, rfl, hb⟩ := hrel
        obtain ⟨i, hi⟩ : ∃ i, i = 4 * k := ⟨_, rfl⟩
        rw [← hi] at hk4 ⊢
        have HI := Lib.hid hi
        by_cases hlt : i < n
        · obtain ⟨b, off, rfl, hr⟩ := H.out (by omega)
          obtain ⟨e, he⟩ : ∃ e, e = min 4 (n - i) := ⟨_, rfl⟩
          have hmr := mid_run b off n c i e (by omega) (by omega) hc
          have hli := four_liesC hr (Gr.of hb) (c := c - i) (e := e) (j := k) (by have := HN.out; omega) (by have := HN.out; omega) (by omega)
          rw [← hi] at hli
          have hbk := four_blk HB.out (show k < cnt4 L by unfold cnt4; rw [HN.out]; omega)
          have F := rfput_c hli size hk (by have := four_le L k; omega)
          rw [hbk, blkS_yes hbk] at F
          have hmin : min ((i : Int) + 4) (n : Int) = (i : Int) + (e : Int) := by omega
          have hbd := ups_bound HB.out (show k ≤ cnt4 L by unfold cnt4; rw [HN.out]; omega)
          have hbz := blk_le hbk
          have hnext : bs ((headS size).data.toList ++ blks (ups L k)) ++ cl (blk (four L k)) = bs ((headS size).data.toList ++ blks (ups L (k + 1))) := by
            apply ext_toList
            rw [app_data, bs_data, bs_data, ups_succ, blks_app, List.append_assoc]
            simp [blks]
          have HX := Lib.hid hnext
          have HE := Lib.hid he
          generalize bs ((headS size).data.toList ++ blks (ups L k)) = S at hbd HX ⊢
          generalize cl (blk (four L k)) = B at F hbz HX
          have hi2 : (i : Int) ≤ 3010 := by omega
          have hS2 : (S.size : Int) ≤ 200000 := by omega
          have hB2 : (B.size : Int) ≤ 261 := by omega
          clear hi he hr hli hbk hnext hbd hbz hl hk4
          go_wp2_with fail
          refine F.mono ?_; rintro e2 u3 ⟨rfl, g3⟩
          go_wp2_with fail
          refine ⟨⟨k + 1, by have := HI.out; omega, by have := HI.out; congr 1; omega, by rw [HX.out], (Gr.of hb).trans g3⟩, ?_⟩
          simp [intOf]; omega
        · have hkc : k = cnt4 L := by unfold cnt4; rw [HN.out]; omega
          have hbd := ups_bound HB.out (show k ≤ cnt4 L by omega)
          have SC := rsum_c (HL.out.gr (Gr.of hb)) (by have := HN.out; omega) HZ.out
          have hpb := peB_len (show L.length ≤ 1000000 by have := HN.out; omega)
          have PE := fun w => rfputend_c (L.length : Int) (by have := HN.out; unfold I64; omega) (sumN L) (sumN_lt L) w
          rw [hpb, peS_yes hpb, Int.toNat_natCast] at PE
          have hze : (cl (endS L.length (sumN L))).size = 17 := by rw [cl_size, endS_size]
          have hfin : bs ((headS size).data.toList ++ blks (ups L k)) ++ cl (endS L.length (sumN L)) = layR size L := by
            rw [layR_yes HB.out, hkc]
            apply ext_toList
            rw [app_data, bs_data, bs_data]
            unfold layL endL
            rw [List.append_assoc]
          have HF := Lib.hid hfin
          generalize bs ((headS size).data.toList ++ blks (ups L k)) = S at hbd HF ⊢
          generalize cl (endS L.length (sumN L)) = E at PE hze HF
          have hS2 : (S.size : Int) ≤ 200000 := by omega
          have hE2 : (E.size : Int) ≤ 17 := by omega
          have hi2 : ¬ (i : Int) < (n : Int) := by omega
          clear hi hkc hbd hpb hfin hze hl hk4
          go_wp2_with fail
          refine SC.mono ?_; rintro e2 u3 ⟨rfl, g3⟩
          go_wp2_with fail
          refine (PE _).mono ?_; rintro e2 u4 ⟨rfl, g4⟩
          go_wp2_with fail
          go_ret2
          exact ⟨ret_sb HF.out HB.out.symm, ((Gr.of hb).trans g3).trans g4⟩
end Go.Proofs.YtpmglnghnelenaaGreat
/- The contract of the document's own Parse. -/
namespace Go.Proofs.YtpmglnghnelenaaGreat
open Go.RowKit CrcPlain OctPlain FramePlain RecPlain
set_option linter.unusedVariables false
set_option linter.unusedSimpArgs false
set_option maxRecDepth 20000
def RparAt (size : Int) (s : ByteArray) (w : World) (l i : Value) (wr : World) : Prop :=
  ∃ (ps : List (List ByteArray)) (k : Nat), i = .int .i64 k ∧ 11 ≤ k ∧ k ≤ s.size ∧ wr.ownsRow (w.heap.size + 1) 9 1 l ps.flatten.length (strs ps.flatten) ∧ Below w.heap.size w wr ∧
    wr.heap[w.heap.size]? = some (.cells #[.int .i64 0, .int .u32 0] 33 (0, 0)) ∧ s.data.toList.drop 11 = blks ps ++ s.data.toList.drop k ∧ ∀ p ∈ ps, blkB size p = true
theorem file_head {size : Int} {s : ByteArray} {l : List ByteArray} (h : IsFile size s l) : s.data.toList = (headS size).data.toList ++ s.data.toList.drop 11 ∧ 28 ≤ s.size := by
  have hl := headS_length size
  have e := h.2
  unfold layL at e
  refine ⟨?_, ?_⟩
  · have : s.data.toList.drop 11 = blks (ups l (cnt4 l)) ++ endL l := by rw [e, List.drop_append_of_le_length (by omega), List.drop_of_length_le (by omega), List.nil_append]
    rw [this, ← e]
  · have := congrArg List.length e
    rw [data_length, List.length_append, List.length_append, hl, endL_length] at this
    omega
theorem extract_drop (s : ByteArray) (k : Nat) : (s.extract k s.size).data.toList = s.data.toList.drop k := by
  rw [extract_data, List.take_of_length_le (by rw [data_length]; omega)]
theorem cnt_extract {s : ByteArray} {k : Nat} (h : k < s.size) : cntN (s.extract k s.size) = s[k].toNat := by
  have e : (s.extract k s.size).data.toList = s[k] :: s.data.toList.drop (k + 1) := by
    rw [extract_drop]
    exact List.drop_eq_getElem_cons (by rw [data_length]; exact h)
  exact cnt_head e
theorem gB_cnt {size : Int} {s : ByteArray} (h : cntN s = 0) : gB size s = false := by
  unfold gB
  rw [decide_eq_false (by omega), Bool.and_false, Bool.false_and, Bool.false_and]
theorem index_at (s : ByteArray) (k : Nat) (h : k < s.size) (w : World) : (Instr.index 9 (.string s) (.int .i64 (k : Int))).run Tryz.prog w = .ok (.int .u8 (s[k].toNat : Int)) w := by
  rw [run_index_string w 9 s .i64 (k : Int) Tryz.underlying9, dif_pos ⟨by omega, by omega⟩]
  simp
/-- Where the walk has come to an end, there is a file just of what was walked, if any. -/
theorem walk_end {size : Int} {s : ByteArray} {ps : List (List ByteArray)} {k : Nat} (hd : s.data.toList.drop 11 = blks ps ++ s.data.toList.drop k) (hp : ∀ p ∈ ps, blkB size p = true) (hg : gB size (s.extract k s.size) = false) (l : List ByteArray) (h : IsFile size s l) :
    ps.flatten = l ∧ s.data.toList.drop k = endL l := by
  obtain ⟨h1, _⟩ := file_head h
  rw [hd, ← extract_drop s k] at h1
  have := file_not hp h1 (.inl hg) h
  rw [extract_drop] at this
  exact this
theorem ended {size : Int} {s : ByteArray} {ps : List (List ByteArray)} {k : Nat} (hd : s.data.toList.drop 11 = blks ps ++ s.data.toList.drop k) (hp : ∀ p ∈ ps, blkB size p = true) (hg : gB size (s.extract k s.size) = false) :
    (layB size ps.flatten = true ∧ layR size ps.flatten = s → IsFile size s ps.flatten) ∧ (¬ (layB size ps.flatten = true ∧ layR size ps.flatten = s) → ∀ l, ¬ IsFile size s l) := by
  refine ⟨fun h => ⟨h.1, ?_⟩, fun h l hi => ?_⟩
  · have := h.2
    rw [layR_yes h.1] at this
    rw [← this, bs_data]
  · obtain ⟨e, _⟩ := walk_end hd hp hg l hi
    subst e
    refine h ⟨hi.1, ?_⟩
    rw [layR_yes hi.1]
    apply ext_toList
    rw [bs_data]
    exact hi.2.symm
theorem flat_small {size : Int} {ps : List (List ByteArray)} (hp : ∀ p ∈ ps, blkB size p = true) : ∀ x ∈ ps.flatten, x.size ≤ 1000 := fun x hx => by
  obtain ⟨q, h1, h2⟩ := List.mem_flatten.1 hx
  obtain ⟨h3, _, h4⟩ := blk_parts (hp q h1)
  simp only [sizeB, decide_eq_true_eq] at h3
  have := h4 x h2
  omega
/-- What the document's Parse comes to: a row of its own. -/
def PGotN (size : Int) (s : ByteArray) (w : World) (e : Ending) (w' : World) : Prop :=
  (∃ L v, IsFile size s L ∧ e = .returned (.tuple #[v, .agg #[.int .i64 (L.length : Nat), .int .u32 (sumN L : Nat)], .int .i64 0]) ∧ w'.ownsRow w.heap.size 9 1 v L.length (strs L) ∧ Gr w w') ∨
  ((∀ L, ¬ IsFile size s L) ∧ e = .returned (.tuple #[.slice none 0 0, .agg #[.int .i64 0, .int .u32 0], .int .i64 6]) ∧ Gr w w')
theorem own_less {w : World} {B : Nat} {E : TypeId} {z : Nat} {v : Value} {n : Nat} {xs : List Value} (h : w.ownsRow (B + 1) E z v n xs) : w.ownsRow B E z v n xs :=
  ⟨h.1, h.2.imp id fun ⟨g, cap, cur, e, hb, r⟩ => ⟨g, cap, cur, e, Nat.le_of_succ_le hb, r⟩⟩
end Go.Proofs.YtpmglnghnelenaaGreat
/- Contracts of both Lengths. -/
namespace Go.Proofs.YtpmglnghnelenaaGreat
open Go.RowKit CrcPlain OctPlain FramePlain RecPlain
set_option linter.unusedVariables false
set_option linter.unusedSimpArgs false
set_option maxRecDepth 20000
def lenB (size n : Int) : Bool := sizeB size && decide (0 ≤ n ∧ n ≤ 1099511627776)
def lenN (size n : Int) : Int := if lenB size n = true then 28 + 5 * ((n + 3) / 4) + n * size else 0
theorem lenN_no {size n : Int} (h : lenB size n = false) : lenN size n = 0 := by simp [lenN, h]
theorem lenN_yes {size n : Int} (h : lenB size n = true) : lenN size n = 28 + 5 * ((n + 3) / 4) + n * size := by simp [lenN, h]
theorem mul_le {a b c d : Int} (ha : 0 ≤ a) (hac : a ≤ c) (hb : 0 ≤ b) (hbd : b ≤ d) : 0 ≤ a * b ∧ a * b ≤ c * d :=
  ⟨Int.mul_nonneg ha hb, Int.mul_le_mul hac hbd hb (Int.le_trans ha hac)⟩
def tailN (k m : Int) : Int := if m = 0 then 0 else 5 + m * k
end Go.Proofs.YtpmglnghnelenaaGreat
