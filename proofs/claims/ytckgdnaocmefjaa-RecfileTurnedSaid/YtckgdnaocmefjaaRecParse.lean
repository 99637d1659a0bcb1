/- The contract of Parse. -/
import Derived.Test.YtckgdnaocmefjaaRecBlocks
import Derived.RangeFuncBox
import Derived.Maps.AppendAt
import Derived.Deep.RegionHeld3
namespace Go.Proofs.Ytckgdnaocmefjaa
open Go.RowKit Go.Shelf CrcPlain OctPlain FramePlain RecPlain
set_option linter.unusedVariables false
set_option linter.unusedSimpArgs false
attribute [local go_sem] Oper.semAt_some
theorem ret_pie {v v' : Value} {a a' b b' c c' : Int} (h : v = v') (h1 : a = a') (h2 : b = b') (h3 : c = c') :
    Ending.returned (.tuple #[v, .agg #[.int .i64 a, .int .u32 b], .int .i64 c]) = .returned (.tuple #[v', .agg #[.int .i64 a', .int .u32 b'], .int .i64 c']) := by rw [h, h1, h2, h3]
/-- What Parse comes to. -/
def PGot (size : Int) (s : ByteArray) (w : World) (e : Ending) (w' : World) : Prop :=
  (∃ L v, IsFile size s L ∧ e = .returned (.tuple #[v, .agg #[.int .i64 (L.length : Nat), .int .u32 (sumN L : Nat)], .int .i64 0]) ∧ Lies w' v L ∧ Gr w w') ∨
  ((∀ L, ¬ IsFile size s L) ∧ e = .returned (.tuple #[.slice none 0 0, .agg #[.int .i64 0, .int .u32 0], .int .i64 6]) ∧ Gr w w')
theorem bh_no {size : Int} {s : ByteArray} (h : bhB size s = false) (l : List ByteArray) : ¬ IsFile size s l := by
  rintro ⟨hB, hs⟩
  unfold layB at hB
  rw [Bool.and_eq_true] at hB
  unfold bhB preB at h
  rw [hB.1, Bool.true_and, decide_eq_false_iff_not] at h
  have hl : (headS size).size ≤ s.size := by
    rw [← data_length, ← data_length, hs]
    unfold layL
    rw [List.length_append]; omega
  refine h ⟨hl, ext_toList ?_⟩
  rw [extract_data, List.drop_zero, hs]
  unfold layL
  rw [List.take_append_of_le_length (by rw [data_length]; omega), List.take_of_length_le (by rw [data_length]; omega)]
theorem bh_yes {size : Int} {s : ByteArray} (h : bhB size s = true) : sizeB size = true ∧ s.data.toList = (headS size).data.toList ++ (bhS size s).data.toList ∧ (bhS size s).size ≤ s.size := by
  unfold bhB at h
  rw [Bool.and_eq_true] at h
  have hS : bhS size s = s.extract (headS size).size s.size := by unfold bhS cutS; rw [if_pos h.1, if_pos h.2]
  have h2 := h.2
  unfold preB at h2
  rw [decide_eq_true_iff] at h2
  have e : s.data.toList.take s.size = s.data.toList := List.take_of_length_le (by rw [data_length]; omega)
  refine ⟨h.1, ?_, by rw [hS, ByteArray.size_extract]; omega⟩
  have h3 := congrArg (fun x => x.data.toList) h2.2
  simp only [extract_data, List.drop_zero] at h3
  rw [hS, extract_data, e, ← h3]
  exact (List.take_append_drop _ _).symm
/-- Where Parse is behind some blocks. -/
structure ParSt (w : World) (b : Nat) (acc : List ByteArray) (r : ByteArray) (lv : Value) (W : World) : Prop where
  p5 : W.heap[w.heap.size]? = some (.cells #[.int .i64 0, .int .u32 0] 29 (0, 0))
  p7 : Boxed W b 9 (.string r)
  p9 : Boxed W (b + 1) 22 lv
  row : W.ownsRow (b + 4) 9 1 lv acc.length (strs acc)
  bel : Below w.heap.size w W
  lo : w.heap.size + 1 ≤ b
theorem ownsRow_grown {W W' : World} {row : Option Nat} {base k : Nat} {e : TypeId} {sz : Nat} {v : Value} {xs : List Value} (h : W.ownsRow base e sz v k xs) (hg : W.grownBy W' row) (hr : ∀ r, row = some r → ∃ o : Obj, W.heap[r]? = some o ∧ o.isCells = false) : W'.ownsRow base e sz v k xs := by
  refine h.kept hg ?_
  rcases h.2 with ⟨rfl, _⟩ | ⟨g, cap, cur, rfl, _, hgb, _⟩
  · exact .inl rfl
  · refine .inr fun e => ?_
    obtain ⟨o, h1, h2⟩ := hr g (by simpa [Value.ownBlock] using e.symm)
    rw [hgb] at h1; cases h1; cases h2
theorem ParSt.grown {w : World} {b : Nat} {acc : List ByteArray} {r : ByteArray} {lv : Value} {W W' : World} {row : Option Nat} (h : ParSt w b acc r lv W) (hg : W.grownBy W' row) (hr : ∀ r, row = some r → w.heap.size ≤ r ∧ ∃ o : Obj, W.heap[r]? = some o ∧ o.isCells = false) : ParSt w b acc r lv W' :=
  ⟨grown_cells hg (fun r e => (hr r e).2) h.p5, grown_cells hg (fun r e => (hr r e).2) h.p7, grown_cells hg (fun r e => (hr r e).2) h.p9, ownsRow_grown h.row hg (fun r e => (hr r e).2), h.bel.grown hg h.bel.size (fun k e => (hr k e).1), h.lo⟩
theorem ParSt.gr {w : World} {b : Nat} {acc : List ByteArray} {r : ByteArray} {lv : Value} {W W' : World} (h : ParSt w b acc r lv W) (g : Gr W W') : ParSt w b acc r lv W' := h.grown (gr_grown g) (fun r e => by cases e)
/-- The blocks that were walked, and what stands behind them. -/
def Walked (size : Int) (s : ByteArray) (ps : List (List ByteArray)) (r : ByteArray) : Prop := s.data.toList = blks ps ++ r.data.toList ∧ (∀ p ∈ ps, blkB size p = true) ∧ Full ps
def PBoxes (b : Nat) (W : World) : Prop := (∃ c, W.heap[b + 3]? = some (.cells c 9 (0, 0))) ∧ ∃ c, W.heap[b + 2]? = some (.cells c 3 (0, 0))
def ParI (size : Int) (s : ByteArray) (w : World) (b : Nat) (pre : List Piece) (W : World) : Prop :=
  (∃ lv r, ParSt w b (pcs pre).flatten r lv W ∧ Walked size s (pcs pre) r ∧ ∀ p ∈ pcs pre, p.length = 4) ∧ PBoxes b W
def ParX (size : Int) (s : ByteArray) (w : World) (b : Nat) (id : Nat) (c : Code) (pre : List Piece) (W : World) : Prop :=
  c = .exit id ∧ ∃ lv r, ParSt w b (pcs pre).flatten r lv W ∧ Walked size s (pcs pre) r ∧ ∃ p, (pcs pre).getLast? = some p ∧ p.length < 4
theorem PBoxes.grown {b : Nat} {W W' : World} {row : Option Nat} (h : PBoxes b W) (hg : W.grownBy W' row) (hr : ∀ r, row = some r → ∃ o : Obj, W.heap[r]? = some o ∧ o.isCells = false) : PBoxes b W' :=
  ⟨h.1.imp fun _ h => grown_cells hg hr h, h.2.imp fun _ h => grown_cells hg hr h⟩
theorem parI_own (size : Int) (s : ByteArray) (w : World) (b C : Nat) (hC : w.heap.size ≤ C) : OwnFrom C (ParI size s w b) := by
  rintro p W W' row ⟨⟨lv, r, h1, h2⟩, hx⟩ hg hr
  exact ⟨⟨lv, r, h1.grown hg (fun k e => ⟨Nat.le_trans hC (hr k e).1, (hr k e).2⟩), h2⟩, hx.grown hg (fun k e => (hr k e).2)⟩
theorem parX_own (size : Int) (s : ByteArray) (w : World) (b id C : Nat) (hC : w.heap.size ≤ C) (c : Code) : OwnFrom C (ParX size s w b id c) := by
  rintro p W W' row ⟨hc, lv, r, h1, h2⟩ hg hr
  exact ⟨hc, lv, r, h1.grown hg (fun k e => ⟨Nat.le_trans hC (hr k e).1, (hr k e).2⟩), h2⟩
theorem row_ne {W : World} {base k n : Nat} {e : TypeId} {sz : Nat} {v : Value} {xs : List Value} (h : W.ownsRow base e sz v n xs) (hk : k < base) : some k ≠ v.ownBlock := fun e => by have := (h.lt k e.symm).1; omega
theorem pcs_snoc (pre : List Piece) (x : Piece) : pcs (pre ++ [x]) = pcs pre ++ [x.2.1] := by simp [pcs]
theorem flat_snoc (ps : List (List ByteArray)) (p : List ByteArray) : (ps ++ [p]).flatten = ps.flatten ++ p := by simp
theorem full_snoc {ps : List (List ByteArray)} (h : ∀ p ∈ ps, p.length = 4) (p : List ByteArray) : Full (ps ++ [p]) := by
  intro j q hq hj
  rw [List.length_append] at hj
  simp at hj
  rw [List.getElem?_append_left (by omega)] at hq
  exact h q (List.mem_of_getElem? hq)
theorem blks_ge {size : Int} : ∀ ps : List (List ByteArray), (∀ p ∈ ps, blkB size p = true) → ps.flatten.length ≤ (blks ps).length
  | [], _ => by simp [blks_nil]
  | p :: ps, h => by
    have h2 := blks_ge ps fun q hq => h q (by simp [hq])
    obtain ⟨n, hn, _, _, h5, _⟩ := blk_cl (h p (by simp))
    obtain ⟨h1, _, _⟩ := blk_parts (h p (by simp))
    simp only [sizeB, decide_eq_true_eq] at h1
    have h6 : (p.length : Int) ≤ p.length * size := by
      have := Int.mul_le_mul_of_nonneg_left h1.1 (Int.natCast_nonneg p.length)
      omega
    rw [blks_cons, List.length_append, data_length, List.flatten_cons, List.length_append]
    omega
theorem walked_len {size : Int} {s : ByteArray} {ps : List (List ByteArray)} {r : ByteArray} (h : Walked size s ps r) : ps.flatten.length ≤ s.size := by
  have h1 := blks_ge ps h.2.1
  have h2 := congrArg List.length h.1
  rw [List.length_append, data_length] at h2
  omega
theorem box_blk {W : World} {b : Nat} {T : TypeId} {v : Value} (h : Boxed W b T v) : W.heap[b]? = some (.cells #[v] T (0, 0)) := h
/-- Behind 'l = append(l, piece...); rest = behind'. -/
theorem par_append {w : World} {b : Nat} {acc p : List ByteArray} {r r2 : ByteArray} {lv v' : Value} {W w1 : World} (h : ParSt w b acc r lv W) (hx : PBoxes b W) (ho : w1.ownsRow (b + 4) 9 1 v' (acc ++ p).length (strs (acc ++ p))) (hg : W.grownBy w1 lv.ownBlock) :
    ParSt w b (acc ++ p) r2 v' ((w1.setCell ⟨b + 1, 0, none⟩ v').setCell ⟨b, 0, none⟩ (.string r2)) ∧ PBoxes b ((w1.setCell ⟨b + 1, 0, none⟩ v').setCell ⟨b, 0, none⟩ (.string r2)) ∧
      (∀ C, KeepsFrom C W ((w1.setCell ⟨b + 1, 0, none⟩ v').setCell ⟨b, 0, none⟩ (.string r2))) ∧ BlkKeep (b + 3) (b + 2) W ((w1.setCell ⟨b + 1, 0, none⟩ v').setCell ⟨b, 0, none⟩ (.string r2)) := by
  have hlo := h.lo
  have old : ∀ k o, k < b + 4 → W.heap[k]? = some o → w1.heap[k]? = some o := fun k o hk ho' => (hg.block k (blk_lt ho') (row_ne h.row hk)).trans ho'
  have q7 : w1.heap[b]? = some (.cells #[.string r] 9 (0, 0)) := old _ _ (by omega) h.p7
  have q9 : w1.heap[b + 1]? = some (.cells #[lv] 22 (0, 0)) := old _ _ (by omega) h.p9
  have ne : ∀ k, k ≠ b → k ≠ b + 1 → ∀ o, w1.heap[k]? = some o → ((w1.setCell ⟨b + 1, 0, none⟩ v').setCell ⟨b, 0, none⟩ (.string r2)).heap[k]? = some o := fun k h1 h2 o ho' => blk_other (blk_other ho' _ _ (fun e => h2 e.symm)) _ _ (fun e => h1 e.symm)
  have hx1 : PBoxes b w1 := ⟨hx.1.imp fun _ h => old _ _ (by omega) h, hx.2.imp fun _ h => old _ _ (by omega) h⟩
  have hsz : W.heap.size ≤ w1.heap.size := hg.size
  have kk : ∀ C, KeepsFrom C W ((w1.setCell ⟨b + 1, 0, none⟩ v').setCell ⟨b, 0, none⟩ (.string r2)) := fun C => by
    refine ⟨by simp [World.setCell]; exact hsz, fun k o _ hk ho' => ?_⟩
    have h1 : w1.heap[k]? = some o := (hg.block k (blk_lt hk) (fun e => by
      rcases h.row.2 with ⟨e2, _⟩ | ⟨g, cap, cur, e2, _, hgb, _⟩
      · rw [e2] at e; cases e
      · rw [e2] at e
        have : k = g := by simpa [Value.ownBlock] using e
        subst this
        rw [hgb] at hk; cases hk; cases ho')).trans hk
    refine blk_other (blk_other h1 _ _ (fun e => ?_)) _ _ (fun e => ?_)
    · simp at e; subst e; rw [q9] at h1; cases h1; cases ho'
    · simp at e; subst e; rw [q7] at h1; cases h1; cases ho'
  refine ⟨⟨ne _ (by omega) (by omega) _ (old _ _ (by omega) h.p5), ?_, ?_, ?_, ?_, hlo⟩, ⟨hx1.1.imp fun _ h => ne _ (by omega) (by omega) _ h, hx1.2.imp fun _ h => ne _ (by omega) (by omega) _ h⟩, kk, ?_⟩
  · exact Boxed.set (.string r2) (box_blk (blk_other q7 ⟨b + 1, 0, none⟩ v' (by simp)))
  · exact blk_other (by simpa using blk_set q9 0 v') _ _ (by simp)
  · refine World.ownsRow.kept (World.ownsRow.kept ho (grownBy_setCell' w1 (b + 1) v') (.inr ?_)) (grownBy_setCell' _ b (.string r2)) (.inr ?_)
    · exact fun e => row_ne ho (show b + 1 < b + 4 by omega) e.symm
    · exact fun e => row_ne ho (show b < b + 4 by omega) e.symm
  · have hb1 : Below w.heap.size w w1 := h.bel.grown hg h.bel.size (fun k e => by have := (h.row.lt k e).1; omega)
    exact (hb1.setCell (p := ⟨b + 1, 0, none⟩) (by simp; omega) _).setCell (p := ⟨b, 0, none⟩) (by simp; omega) _
  · obtain ⟨⟨c1, x1⟩, ⟨c2, x2⟩⟩ := hx
    exact ⟨by simp [World.setCell]; exact hsz, (ne _ (by omega) (by omega) _ (old _ _ (by omega) x1)).trans x1.symm, (ne _ (by omega) (by omega) _ (old _ _ (by omega) x2)).trans x2.symm⟩
theorem blkK_t {Bs Bn : Nat} {A B C : World} (h : BlkKeep Bs Bn A B) (k : BlkKeep Bs Bn B C) : BlkKeep Bs Bn A C := ⟨Nat.le_trans h.1 k.1, k.2.1.trans h.2.1, k.2.2.trans h.2.2⟩
theorem blkK_b {Bs Bn N : Nat} (h1 : Bs < N) (h2 : Bn < N) (W : World) (l : Nat) (o o' : Obj) (hl : N ≤ l) (h : W.heap[l]? = some o) (_ : o.isCells = false) : BlkKeep Bs Bn W (W.putObj l o') :=
  ⟨by simp, World.putObj_heap_other (by omega), World.putObj_heap_other (by omega)⟩
theorem par_start (w u : World) (r : ByteArray) (g : Gr (w.alloc (.cells #[.int .i64 0, .int .u32 0] 29)) u) : ParSt w u.heap.size [] r (.slice none 0 0) ((u.alloc (.cells #[.string r] 9)).alloc (.cells #[.slice none 0 0] 22)) := by
  obtain ⟨h1, h2, h3⟩ := two_blks u (.cells #[.string r] 9) (.cells #[.slice none 0 0] 22)
  have hs := g.size
  simp only [World.size_alloc] at hs
  exact ⟨blk_gr (blk_gr (heap_alloc_new w _) g) h3, h1, h2, World.ownsRow_nil _ _ _ _, (Gr.trans (gral w _) g).trans h3, by omega⟩
theorem info_diff (n m n' m' : Int) (h : ¬ (n = n' ∧ m = m')) (w : World) : (binOp .neq 29 (.agg #[.int .i64 n, .int .u32 m]) (.agg #[.int .i64 n', .int .u32 m'])).run Try.prog w = .ok (.bool true) w := by
  have e : (Op.equalIn 10000 29 (.agg #[.int .i64 n, .int .u32 m]) (.agg #[.int .i64 n', .int .u32 m'])).run Try.prog w = .ok false w := by
    rw [run_equalIn_agg w 9999 _ _ _ (by kernel_rfl) (by kernel_rfl)]
    by_cases h1 : n = n'
    · have h2 : ¬ m = m' := fun e => h ⟨h1, e⟩
      simp [go_sem, h1, h2]
    · simp [go_sem, h1]
  rw [run_neq_struct, e]
  rfl
theorem grown_set (W : World) (b i : Nat) (v : Value) : W.grownBy (W.setCell ⟨b, i, none⟩ v) (some b) :=
  ⟨rfl, rfl, rfl, by simp [World.setCell], fun k _ hk => Below.heap_setCell _ _ _ k (fun e => hk (by rw [e]))⟩
theorem owns_set {W : World} {base e n k i : Nat} {v x : Value} {xs : List Value} (h : W.ownsRow base e 1 v n xs) (hk : k < base) : (W.setCell ⟨k, i, none⟩ x).ownsRow base e 1 v n xs :=
  h.kept (grown_set W k i x) (.inr fun e => row_ne h hk e.symm)
theorem set_two {Z : World} {k : Nat} {a b x y : Value} {T : TypeId} (h : Z.heap[k]? = some (.cells #[a, b] T (0, 0))) : ((Z.setCell ⟨k, 0, none⟩ x).setCell ⟨k, 1, none⟩ y).heap[k]? = some (.cells #[x, y] T (0, 0)) := by
  simpa using blk_set (blk_set h 0 x) 1 y
theorem set_two_below {w Z : World} {k : Nat} {x y : Value} (h : Below w.heap.size w Z) (hk : w.heap.size ≤ k) : Below w.heap.size w ((Z.setCell ⟨k, 0, none⟩ x).setCell ⟨k, 1, none⟩ y) :=
  (h.setCell (p := ⟨k, 0, none⟩) hk x).setCell (p := ⟨k, 1, none⟩) hk y
theorem set_two_obj {Z : World} {k D : Nat} {x y : Value} {o : Obj} (h : Z.heap[D]? = some o) (ho : o.isCells = false) : ((Z.setCell ⟨k, 0, none⟩ x).setCell ⟨k, 1, none⟩ y).heap[D]? = some o :=
  ((KeepsOthers.setCell Z ⟨k, 0, none⟩ x).trans (KeepsOthers.setCell _ ⟨k, 1, none⟩ y)).same D _ h ho
set_option maxRecDepth 100000 in
set_option maxHeartbeats 4000000 in
theorem parse_c (size : Int) (hk : I64 size) (s : ByteArray) (hz : s.size ≤ 100000) (w : World) :
    Calls Try.prog 10 #[.int .i64 size, .string s] w (PGot size s w) := by
  have P := fun w => behind_c size hk s w
  cases hb : bhB size s
  · have HNO := Lib.hid (bh_no hb)
    rw [hb] at P
    generalize bhS size s = r0 at P
    clear hb
    go_enter Try.func10, Try.ntmps10
    go_wp2_with fail
    refine (P _).mono ?_; rintro e u ⟨rfl, g⟩
    have p5 := blk_gr (heap_alloc_new w (.cells #[.int .i64 0, .int .u32 0] 29)) g
    have gu : Gr w u := (gral w _).trans g
    obtain ⟨X, hX⟩ : ∃ X, X = u.alloc (.cells #[.string r0] 9) := ⟨_, rfl⟩
    have gX : Gr u X := by rw [hX]; exact gral _ _
    have q5 := blk_gr p5 gX
    have HX := Lib.hid hX
    have Q5 := Lib.hid q5
    have BL := gu.trans gX
    have d0 : X.cell? ⟨w.heap.size, 0, none⟩ = some (.int .i64 0) := by rw [blk_at Q5.out]; rfl
    have d1 : X.cell? ⟨w.heap.size, 1, none⟩ = some (.int .u32 0) := by rw [blk_at Q5.out]; rfl
    have f0 : X.frozen? ⟨w.heap.size, 0, none⟩ = false := blk_free Q5.out 0
    have f1 : X.frozen? ⟨w.heap.size, 1, none⟩ = false := blk_free Q5.out 1
    rw [hX] at d0 d1 f0 f1
    clear hX q5 p5
    go_wp2_with fail
    rw [← HX.out]
    have e0 := blk_at (set_two (x := .int .i64 0) (y := .int .u32 0) Q5.out) 0
    have e1 := blk_at (set_two (x := .int .i64 0) (y := .int .u32 0) Q5.out) 1
    exact bodyPost_ret (v := .tuple #[.slice none 0 0, .agg #[.int .i64 0, .int .u32 0], .int .i64 6]) (by simp [results, Try.results10, go_sem, e0, e1]) rfl
      (.inr ⟨HNO.out, rfl, set_two_below BL (Nat.le_refl _)⟩)
  · rw [hb] at P
    obtain ⟨h1, h2, h3⟩ := bh_yes hb
    obtain ⟨r0, hr0⟩ : ∃ r0, r0 = bhS size s := ⟨_, rfl⟩
    rw [← hr0] at P h2 h3
    have H1 := Lib.hid h1
    have H2 := Lib.hid h2
    clear hb h1 h2 hr0
    refine (callsIn_wide (n := 8)).1 ?_
    refine callsIn_of_wp_marks Try.func10 rfl trivial ?_ rfl
    simp only [Try.ntmps10, List.size_toArray, List.length_cons, List.length_nil, Nat.reduceAdd, Nat.reduceSub, Array.replicate_succ, Array.replicate_zero, List.push_toArray, List.append_toArray, List.nil_append, List.cons_append]
    gi_wp2_with fail
    refine ⟨trivial, (callsIn_wide.2 (P _)).mono ?_⟩; rintro e u ⟨rfl, g⟩
    gi_wp2_with fail
    have S0 := par_start w u r0 g
    obtain ⟨U, hU⟩ : ∃ U, U = (u.alloc (.cells #[.string r0] 9)).alloc (.cells #[.slice none 0 0] 22) := ⟨_, rfl⟩
    have hUz : U.heap.size = u.heap.size + 2 := by rw [hU]; simp
    rw [← hU] at S0 ⊢
    clear hU
    refine ⟨trivial, (callsIn_wide.2 (blocks_c size r0 U)).mono ?_⟩; rintro e U2 ⟨rfl, rfl⟩
    gi_wp2_with fail
    obtain ⟨x1, x2, x3⟩ := two_blks U (.cells #[.int .i64 size] 3) (.cells #[.string r0] 9)
    have S1 := S0.gr x3
    obtain ⟨V, hV⟩ : ∃ V, V = (U.alloc (.cells #[.int .i64 size] 3)).alloc (.cells #[.string r0] 9) := ⟨_, rfl⟩
    have hVz : V.heap.size = u.heap.size + 4 := by rw [hV]; simp [hUz]
    rw [← hV] at x1 x2 x3 S1 ⊢
    rw [hUz] at x1 x2
    clear hV S0
    refine wpIn_told (n := 8) (by omega) (gf := 50) (lb := #[.pointer (some ⟨u.heap.size + 2 + 1, 0, none⟩), .pointer (some ⟨u.heap.size + 2, 0, none⟩)]) rfl (enters_of Try.func50 (by kernel_rfl) rfl)
      (blocks_told (n := 7) (by omega) hk (s := r0) (by omega) x2 x1) (fun h k => blkK_t h k) (fun W l o o' hl h ho => blkK_b (by omega) (by omega) W l o o' hl h ho) (Below.refl _ _) (fun _ => rfl)
      (ParI size r0 w u.heap.size) (ParX size r0 w u.heap.size 0) (parI_own size r0 w _ _ S1.bel.size) (fun c => parX_own size r0 w _ _ _ S1.bel.size c) (fun pre => ?hpr)
      ⟨⟨_, r0, S1, ⟨by simp [pcs, blks_nil], by simp [pcs], fun j q hq => by simp [pcs] at hq⟩, by simp [pcs]⟩, ⟨_, x2⟩, ⟨_, x1⟩⟩ ?a1 ?assign ?body ?done ?stop
    case hpr =>
      rintro x W W' row ⟨hL, h2, h3⟩ hg hr
      obtain ⟨a, c, e1, e2, hp⟩ := hL
      refine ⟨⟨a, c, e1, e2, hp.imp id ?_⟩, h2, h3⟩
      rintro ⟨b, off, e3, hrw⟩
      refine ⟨b, off, e3, Nat.lt_of_lt_of_le hrw.1 hg.size, fun j x hj => ?_⟩
      have hcell := hrw.2 j x hj
      exact cell_kept hcell hg (fun r e => (hr r e).2)
    case assign =>
      intro l x W K hK
      gi_wp2
      exact hK
    case body =>
      rintro l pre ⟨v, p, r2⟩ W ⟨⟨lv, r, hS, hW, hall⟩, hX⟩ ⟨hL, hbk, hcat⟩
      dsimp only at hL hbk hcat ⊢
      have hlen := walked_len hW
      have h14 := (blk_parts hbk).2.1
      obtain ⟨pa, pc, rfl, hpc, hp⟩ := hL
      obtain ⟨pb, po, rfl, hpr⟩ : ∃ pb po, pa = some ⟨pb, po, none⟩ ∧ SRow W pb po p := hp.elim (fun e => by rw [e] at h14; simp at h14) id
      obtain ⟨i0, hi, hz0, hz1, hz2⟩ := info_parts info9
      have c7 : W.cell? ⟨u.heap.size, 0, none⟩ = some (.string r) := hS.p7.cell
      have c9 : W.cell? ⟨u.heap.size + 1, 0, none⟩ = some lv := hS.p9.cell
      have hnews : ∀ j x, (strs p)[j]? = some x → W.cell? (Addr.add ⟨pb, po, none⟩ j) = some x := by
        intro j x hx
        rw [addr_add]
        unfold strs at hx
        rw [List.getElem?_map, Option.map_eq_some_iff] at hx
        obtain ⟨y, hy, rfl⟩ := hx
        exact hpr.2 j y hy
      have hone : ∀ x ∈ strs p, x.oneCell' = true := by
        intro x hx
        unfold strs at hx
        obtain ⟨y, _, rfl⟩ := List.mem_map.1 hx
        rfl
      have hsz := hS.bel.size
      have hlo := hS.lo
      have hbz := hX.1.choose_spec
      have hbl := blk_lt hbz
      obtain ⟨N, hN⟩ : ∃ N, (pcs pre).flatten.length = N := ⟨_, rfl⟩
      have next : ∀ (v' : Value) (w1 : World), w1.ownsRow (u.heap.size + 4) 9 1 v' (N + p.length) (strs (pcs pre).flatten ++ strs p) → W.grownBy w1 lv.ownBlock →
          (∃ g cap, v' = .slice (some ⟨g, 0, none⟩) (N + p.length) cap) ∧ w1.cell? ⟨u.heap.size + 1, 0, none⟩ = some lv ∧ w1.frozen? ⟨u.heap.size + 1, 0, none⟩ = false ∧ w1.cell? ⟨u.heap.size, 0, none⟩ = some (.string r) ∧ w1.frozen? ⟨u.heap.size, 0, none⟩ = false ∧
          (ParSt w u.heap.size (pcs (pre ++ [(Value.slice (some ⟨pb, po, none⟩) p.length pc, p, r2)])).flatten r2 v' ((w1.setCell ⟨u.heap.size + 1, 0, none⟩ v').setCell ⟨u.heap.size, 0, none⟩ (.string r2)) ∧ PBoxes u.heap.size ((w1.setCell ⟨u.heap.size + 1, 0, none⟩ v').setCell ⟨u.heap.size, 0, none⟩ (.string r2)) ∧
            (∀ C, KeepsFrom C W ((w1.setCell ⟨u.heap.size + 1, 0, none⟩ v').setCell ⟨u.heap.size, 0, none⟩ (.string r2))) ∧ BlkKeep (u.heap.size + 3) (u.heap.size + 2) W ((w1.setCell ⟨u.heap.size + 1, 0, none⟩ v').setCell ⟨u.heap.size, 0, none⟩ (.string r2))) := by
        intro v' w1 ho hg
        have e1 : N + p.length = ((pcs pre).flatten ++ p).length := by rw [List.length_append, hN]
        have e2 : strs (pcs pre).flatten ++ strs p = strs ((pcs pre).flatten ++ p) := by simp [strs]
        have e3 : (pcs (pre ++ [(Value.slice (some ⟨pb, po, none⟩) p.length pc, p, r2)])).flatten = (pcs pre).flatten ++ p := by rw [pcs_snoc, flat_snoc]
        have hv : ∃ g cap, v' = .slice (some ⟨g, 0, none⟩) (N + p.length) cap := by
          rcases ho.2 with ⟨_, h0⟩ | ⟨g, cap, _, rfl, _⟩
          · omega
          · exact ⟨g, cap, rfl⟩
        rw [e1, e2] at ho
        have old : ∀ k o, k < u.heap.size + 4 → W.heap[k]? = some o → w1.heap[k]? = some o := fun k o hk ho' => (hg.block k (blk_lt ho') (row_ne hS.row hk)).trans ho'
        have q7 : w1.heap[u.heap.size]? = some (.cells #[.string r] 9 (0, 0)) := old _ _ (by omega) hS.p7
        have q9 : w1.heap[u.heap.size + 1]? = some (.cells #[lv] 22 (0, 0)) := old _ _ (by omega) hS.p9
        rw [e3]
        exact ⟨hv, by rw [blk_at q9]; rfl, blk_free q9 0, by rw [blk_at q7]; rfl, blk_free q7 0, par_append hS hX ho hg⟩
      have hwk : Walked size r0 (pcs (pre ++ [(Value.slice (some ⟨pb, po, none⟩) p.length pc, p, r2)])) r2 := by
        refine ⟨by rw [pcs_snoc]; exact hcat, fun q hq => ?_, by rw [pcs_snoc]; exact full_snoc hall p⟩
        rw [pcs_snoc] at hq
        rcases List.mem_append.1 hq with hq | hq
        · exact hW.2.1 q hq
        · simp at hq; subst hq; exact hbk
      have hrow := hS.row
      rw [hN] at hrow
      have NX := Lib.hid next
      have WK := Lib.hid hwk
      have HA := Lib.hid hall
      have hbw : u.heap.size + 4 ≤ W.heap.size := by omega
      have hal : N ≤ 100000 := by omega
      have hp4 : p.length ≤ 4 := h14.2
      clear next hwk hall hS hW hX hcat hbk hpr hp hlen hsz hlo hbz hbl hN
      by_cases h4 : p.length = 4
      · have ht : ¬ (p.length : Int) < 4 := by omega
        have H4 := Lib.hid h4
        clear h4
        gi_wp2_with (gi_at_builtin; refine wpListIn_append_own _ rfl _ _ 22 rfl (u.heap.size + 4) 9 i0 (.string ⟨#[]⟩) 1 16 Try.underlying22 hi hz0 hz1 hz2 rfl (by decide) _ _ _ rfl hrow ⟨pb, po, none⟩ p.length pc (strs p) rfl (by simp [strs]) hnews hone (by unfold maxLen; omega) (by omega) hbw ?_; intro v' w1 hown' hgrow _; obtain ⟨⟨g', cap', rfl⟩, d9, f9, d7, f7, hnext⟩ := NX.out v' w1 hown' hgrow; have HN := Lib.hid hnext; clear hnext hown' hgrow)
        have hn := HN.out
        refine told_on (hn.2.2.1 _) hn.2.2.2 ⟨⟨_, r2, hn.1, WK.out, fun q hq => ?_⟩, hn.2.1⟩
        rw [pcs_snoc] at hq
        rcases List.mem_append.1 hq with hq | hq
        · exact HA.out q hq
        · simp at hq; subst hq; exact H4.out
      · have ht : (p.length : Int) < 4 := by omega
        have H4 := Lib.hid h4
        clear h4
        gi_wp2_with (gi_at_builtin; refine wpListIn_append_own _ rfl _ _ 22 rfl (u.heap.size + 4) 9 i0 (.string ⟨#[]⟩) 1 16 Try.underlying22 hi hz0 hz1 hz2 rfl (by decide) _ _ _ rfl hrow ⟨pb, po, none⟩ p.length pc (strs p) rfl (by simp [strs]) hnews hone (by unfold maxLen; omega) (by omega) hbw ?_; intro v' w1 hown' hgrow _; obtain ⟨⟨g', cap', rfl⟩, d9, f9, d7, f7, hnext⟩ := NX.out v' w1 hown' hgrow; have HN := Lib.hid hnext; clear hnext hown' hgrow)
        have hn := HN.out
        refine told_exit (hn.2.2.1 _) ⟨rfl, _, r2, hn.1, WK.out, p, ?_, by have := H4.out; omega⟩
        rw [pcs_snoc]; simp
    case done =>
      rintro D xs W hD ⟨r', hr', hg'⟩ ⟨⟨lv, r, hS, hW, hall⟩, hX⟩ hK
      have hrr : r' = r := ext_toList (List.append_cancel_left (hr'.symm.trans hW.1))
      rw [hrr] at hg'
      have hstop : gB size r = false ∨ ∃ p, (pcs xs).getLast? = some p ∧ p.length < 4 := .inl hg'
      clear hr' hg' hrr hX hall
      obtain ⟨ps, hps⟩ : ∃ ps, ps = pcs xs := ⟨_, rfl⟩
      rw [← hps] at hS hW hstop
      have he2 : s.data.toList = (headS size).data.toList ++ (blks ps ++ r.data.toList) := by rw [H2.out, hW.1]
      have hlen := walked_len hW
      have hl6 : ps.flatten.length ≤ 1000000 := by omega
      have hfin : tailB ps.flatten r = true → IsFile size s ps.flatten := fun h => file_of H1.out hW.2.1 hW.2.2 he2 hl6 h
      have hnof : tailB ps.flatten r = false → ∀ L, ¬ IsFile size s L := fun h L hi => by
        obtain ⟨e1, e2⟩ := file_not hW.2.1 he2 hstop hi
        rw [← e1] at e2
        rw [(tail_iff hl6 r).2 e2] at h
        cases h
      have hrec : ∀ x ∈ ps.flatten, x.size ≤ 1000 := fun x hx => by
        obtain ⟨q, h1, h2⟩ := List.mem_flatten.1 hx
        obtain ⟨h3, _, h4⟩ := blk_parts (hW.2.1 q h1)
        simp only [sizeB, decide_eq_true_eq] at h3
        have := h4 x h2
        omega
      have hS1 := S1.bel.size
      have c7 : W.cell? ⟨u.heap.size, 0, none⟩ = some (.string r) := hS.p7.cell
      have hbelD : w.heap.size ≤ D := by have := hS.lo; omega
      generalize ps.flatten = acc at hS hlen hl6 hfin hnof hrec
      have HS := Lib.hid hS
      have HF := Lib.hid hfin
      have HNF := Lib.hid hnof
      have HR := Lib.hid hrec
      have HKD := Lib.hid hK
      clear hS hfin hnof hrec hW hstop he2 hps hK
      cases hE : eB r
      · have hno := HNF.out (by unfold tailB; rw [hE]; rfl)
        have HNO := Lib.hid hno
        have HE := Lib.hid hE
        have GE := endgone_c hE
        clear hno hE
        gi_wp2_with fail
        refine ⟨trivial, (callsIn_wide.2 (GE _)).mono ?_⟩; rintro e u4 ⟨rfl, g4⟩
        gi_wp2_with fail
        obtain ⟨X, hX⟩ : ∃ X, X = u4.alloc (.cells #[.int .i64 0, .int .u32 0] 29) := ⟨_, rfl⟩
        have gX : Gr u4 X := by rw [hX]; exact gral _ _
        rw [← hX]
        clear hX
        have S5 := (HS.out.gr g4).gr gX
        have P5 := Lib.hid S5.p5
        have KD := Lib.hid (show X.heap[D]? = some (.deferred (some [])) from blk_gr (blk_gr HKD.out g4) gX)
        have BL := Lib.hid S5.bel
        have d0 : X.cell? ⟨w.heap.size, 0, none⟩ = some (.int .i64 0) := by rw [blk_at P5.out]; rfl
        have d1 : X.cell? ⟨w.heap.size, 1, none⟩ = some (.int .u32 0) := by rw [blk_at P5.out]; rfl
        have f0 : X.frozen? ⟨w.heap.size, 0, none⟩ = false := blk_free P5.out 0
        have f1 : X.frozen? ⟨w.heap.size, 1, none⟩ = false := blk_free P5.out 1
        clear S5
        refine wpIn_wide.2 ?_
        go_region
        gi_wp2_with fail
        obtain ⟨Y, hY⟩ : ∃ Y, Y = ((X.setCell ⟨w.heap.size, 0, none⟩ (.int .i64 0)).setCell ⟨w.heap.size, 1, none⟩ (.int .u32 0)).drew := ⟨_, rfl⟩
        rw [← hY]
        have hk2 : Y.heap[w.heap.size]? = some (.cells #[.int .i64 0, .int .u32 0] 29 (0, 0)) := by rw [hY]; exact set_two (x := .int .i64 0) (y := .int .u32 0) P5.out
        have hkk : Y.heap[D]? = some (.deferred (some [])) := by rw [hY]; exact set_two_obj (k := w.heap.size) (x := .int .i64 0) (y := .int .u32 0) KD.out rfl
        have hbb : Below w.heap.size w Y := by rw [hY]; exact Below.drew (set_two_below (k := w.heap.size) (x := .int .i64 0) (y := .int .u32 0) BL.out (Nat.le_refl _))
        have e0 := blk_at (put_blk (o' := .deferred none) hk2 hkk rfl) 0
        have e1 := blk_at (put_blk (o' := .deferred none) hk2 hkk rfl) 1
        clear hY
        refine ⟨by simp, .inl ⟨_, _, rfl, run_takeDeferred hkk, ?_⟩⟩
        exact ⟨.tuple #[.slice none 0 0, .agg #[.int .i64 0, .int .u32 0], .int .i64 6], by simp [results, Try.f10, go_sem, e0, e1], .inr ⟨HNO.out, rfl, put_below hbb hbelD hkk _⟩⟩
      · have GE := getend_c r
        obtain ⟨cc, hcc⟩ : ∃ cc, cc = eC r := ⟨_, rfl⟩
        obtain ⟨mm, hmm⟩ : ∃ mm, mm = eM r := ⟨_, rfl⟩
        unfold EGot at GE
        rw [hE, ← hcc, ← hmm] at GE
        have htl : tailB acc r = decide (cc = acc.length ∧ mm = (sumN acc : Nat)) := by
          unfold tailB
          rw [hE, ← hcc, ← hmm, Bool.true_and]
          by_cases h1 : cc = (acc.length : Int) <;> by_cases h2 : mm = (sumN acc : Int) <;> simp [h1, h2]
        have HTL := Lib.hid htl
        clear hE hcc hmm htl
        gi_wp2_with fail
        refine ⟨trivial, (callsIn_wide.2 (GE _)).mono ?_⟩; rintro e u4 ⟨rfl, g4⟩
        gi_wp2_with fail
        obtain ⟨X, hX⟩ : ∃ X, X = u4.alloc (.cells #[.int .i64 cc, .int .u32 mm] 29) := ⟨_, rfl⟩
        have gX : Gr u4 X := by rw [hX]; exact gral _ _
        have nX : X.heap[u4.heap.size]? = some (.cells #[.int .i64 cc, .int .u32 mm] 29 (0, 0)) := by rw [hX]; exact heap_alloc_new u4 _
        rw [← hX]
        clear hX
        have S5 := (HS.out.gr g4).gr gX
        have hS : ∀ v, Gr X v → Gr X v ∧ v.cell? ⟨u4.heap.size, 0, none⟩ = some (.int .i64 cc) ∧ v.cell? ⟨u4.heap.size, 1, none⟩ = some (.int .u32 mm) ∧ v.cell? ⟨u.heap.size + 1, 0, none⟩ = some lv :=
          fun v g => ⟨g, by rw [blk_at (blk_gr nX g)]; rfl, by rw [blk_at (blk_gr nX g)]; rfl, by rw [blk_at (blk_gr S5.p9 g)]; rfl⟩
        have H := Lib.hid hS
        obtain ⟨_, c0, c1, c9⟩ := hS _ (Gr.refl _)
        have SC : ∀ v, Gr X v → Calls Try.prog 19 #[lv] v fun e w' => e = .returned (.agg #[.int .i64 (acc.length : Nat), .int .u32 (sumN acc : Nat)]) ∧ Gr X w' ∧ w'.cell? ⟨u4.heap.size, 0, none⟩ = some (.int .i64 cc) ∧ w'.cell? ⟨u4.heap.size, 1, none⟩ = some (.int .u32 mm) ∧ w'.cell? ⟨u.heap.size + 1, 0, none⟩ = some lv := by
          intro v g
          refine (sum_c ((lies_own S5.row).gr g) hl6 HR.out).mono ?_
          rintro e w' ⟨rfl, g2⟩
          exact ⟨rfl, H.out _ (g.trans g2)⟩
        have S5' := Lib.hid S5
        have NX := Lib.hid nX
        have gXX := Gr.refl X
        have gXd : Gr X X.drew := Below.drew gXX
        clear hS S5 nX
        refine wpIn_wide.2 ?_
        cases ht : tailB acc r
        · have hno := HNF.out ht
          have HNO := Lib.hid hno
          have hne : ¬ (cc = acc.length ∧ mm = (sumN acc : Nat)) := by rw [HTL.out, decide_eq_false_iff_not] at ht; exact ht
          have hcmp := info_diff cc mm acc.length (sumN acc) hne
          clear hno hne ht
          go_region_held3 (fun w' => Gr X w' ∧ w'.cell? ⟨u4.heap.size, 0, none⟩ = some (.int .i64 cc) ∧ w'.cell? ⟨u4.heap.size, 1, none⟩ = some (.int .u32 mm) ∧ w'.cell? ⟨u.heap.size + 1, 0, none⟩ = some lv)
            (first | exact H.out _ (Below.drew (by assumption)) | exact H.out _ (by assumption) | go_keep)
            ((first | (go_at_call 19; (with_reducible refine (SC _ (by assumption)).mono ?_); rintro e v ⟨rfl, gu, cu0, cu1, cu9⟩)))
          have S6 := S5'.out.gr gu
          have P5 := Lib.hid (show v.heap[w.heap.size]? = _ from S6.p5)
          have KD := Lib.hid (show v.heap[D]? = some (.deferred (some [])) from blk_gr (blk_gr (blk_gr HKD.out g4) gX) gu)
          have BL := Lib.hid S6.bel
          have d0 : v.cell? ⟨w.heap.size, 0, none⟩ = some (.int .i64 0) := by rw [blk_at P5.out]; rfl
          have d1 : v.cell? ⟨w.heap.size, 1, none⟩ = some (.int .u32 0) := by rw [blk_at P5.out]; rfl
          have f0 : v.frozen? ⟨w.heap.size, 0, none⟩ = false := blk_free P5.out 0
          have f1 : v.frozen? ⟨w.heap.size, 1, none⟩ = false := blk_free P5.out 1
          clear S6
          gi_wp2_with fail
          obtain ⟨Y, hY⟩ : ∃ Y, Y = ((v.setCell ⟨w.heap.size, 0, none⟩ (.int .i64 0)).setCell ⟨w.heap.size, 1, none⟩ (.int .u32 0)) := ⟨_, rfl⟩
          rw [← hY]
          have hk2 : Y.heap[w.heap.size]? = some (.cells #[.int .i64 0, .int .u32 0] 29 (0, 0)) := by rw [hY]; exact set_two (x := .int .i64 0) (y := .int .u32 0) P5.out
          have hkk : Y.heap[D]? = some (.deferred (some [])) := by rw [hY]; exact set_two_obj (k := w.heap.size) (x := .int .i64 0) (y := .int .u32 0) KD.out rfl
          have hbb : Below w.heap.size w Y := by rw [hY]; exact set_two_below (k := w.heap.size) (x := .int .i64 0) (y := .int .u32 0) BL.out (Nat.le_refl _)
          have e0 := blk_at (put_blk (o' := .deferred none) hk2 hkk rfl) 0
          have e1 := blk_at (put_blk (o' := .deferred none) hk2 hkk rfl) 1
          clear hY
          refine ⟨by simp, .inl ⟨_, _, rfl, run_takeDeferred hkk, ?_⟩⟩
          exact ⟨.tuple #[.slice none 0 0, .agg #[.int .i64 0, .int .u32 0], .int .i64 6], by simp [results, Try.f10, go_sem, e0, e1], .inr ⟨HNO.out, rfl, put_below hbb hbelD hkk _⟩⟩
        · have hyes := HF.out ht
          have HFF := Lib.hid hyes
          have heq : cc = acc.length ∧ mm = (sumN acc : Nat) := by rw [HTL.out, decide_eq_true_iff] at ht; exact ht
          have HCC := Lib.hid heq
          have hcmp : ∀ w, (binOp .neq 29 (.agg #[.int .i64 cc, .int .u32 mm]) (.agg #[.int .i64 (acc.length : Nat), .int .u32 (sumN acc : Nat)])).run Try.prog w = .ok (.bool false) w := by
            rw [heq.1, heq.2]; exact info_neq _ _
          clear hyes heq ht
          go_region_held3 (fun w' => Gr X w' ∧ w'.cell? ⟨u4.heap.size, 0, none⟩ = some (.int .i64 cc) ∧ w'.cell? ⟨u4.heap.size, 1, none⟩ = some (.int .u32 mm) ∧ w'.cell? ⟨u.heap.size + 1, 0, none⟩ = some lv)
            (first | exact H.out _ (Below.drew (by assumption)) | exact H.out _ (by assumption) | go_keep)
            ((first | (go_at_call 19; (with_reducible refine (SC _ (by assumption)).mono ?_); rintro e v ⟨rfl, gu, cu0, cu1, cu9⟩)))
          have S6 := S5'.out.gr gu
          have P5 := Lib.hid (show v.heap[w.heap.size]? = _ from S6.p5)
          have KD := Lib.hid (show v.heap[D]? = some (.deferred (some [])) from blk_gr (blk_gr (blk_gr HKD.out g4) gX) gu)
          have BL := Lib.hid S6.bel
          have d0 : v.cell? ⟨w.heap.size, 0, none⟩ = some (.int .i64 0) := by rw [blk_at P5.out]; rfl
          have d1 : v.cell? ⟨w.heap.size, 1, none⟩ = some (.int .u32 0) := by rw [blk_at P5.out]; rfl
          have f0 : v.frozen? ⟨w.heap.size, 0, none⟩ = false := blk_free P5.out 0
          have f1 : v.frozen? ⟨w.heap.size, 1, none⟩ = false := blk_free P5.out 1
          have RW := Lib.hid S6.row
          have hlo6 := S6.lo
          clear S6
          gi_wp2_with fail
          refine wpIn_wide.2 ?_
          go_region
          gi_wp2_with fail
          obtain ⟨Y, hY⟩ : ∃ Y, Y = ((v.setCell ⟨w.heap.size, 0, none⟩ (.int .i64 cc)).setCell ⟨w.heap.size, 1, none⟩ (.int .u32 mm)).drew := ⟨_, rfl⟩
          rw [← hY]
          have hk2 : Y.heap[w.heap.size]? = some (.cells #[.int .i64 cc, .int .u32 mm] 29 (0, 0)) := by rw [hY]; exact set_two (x := .int .i64 cc) (y := .int .u32 mm) P5.out
          have hkk : Y.heap[D]? = some (.deferred (some [])) := by rw [hY]; exact set_two_obj (k := w.heap.size) (x := .int .i64 cc) (y := .int .u32 mm) KD.out rfl
          have hbb : Below w.heap.size w Y := by rw [hY]; exact Below.drew (set_two_below (k := w.heap.size) (x := .int .i64 cc) (y := .int .u32 mm) BL.out (Nat.le_refl _))
          have hrow : Y.ownsRow (u.heap.size + 4) 9 1 lv acc.length (strs acc) := by rw [hY]; exact owns_set (k := w.heap.size) (i := 1) (x := .int .u32 mm) (owns_set (k := w.heap.size) (i := 0) (x := .int .i64 cc) RW.out (by omega)) (by omega)
          have hrow2 := ownsRow_putObj hrow (.deferred none) hkk rfl
          have e0 := blk_at (put_blk (o' := .deferred none) hk2 hkk rfl) 0
          have e1 := blk_at (put_blk (o' := .deferred none) hk2 hkk rfl) 1
          clear hY
          refine ⟨by simp, .inl ⟨_, _, rfl, run_takeDeferred hkk, ?_⟩⟩
          exact ⟨.tuple #[lv, .agg #[.int .i64 cc, .int .u32 mm], .int .i64 0], by simp [results, Try.f10, go_sem, e0, e1], .inl ⟨acc, lv, HFF.out, by rw [← HCC.out.1, ← HCC.out.2], lies_own hrow2, put_below hbb hbelD hkk _⟩⟩
    case stop =>
      rintro D c2 xs W hD _ ⟨rfl, lv, r, hS, hW, hlast⟩ hK
      have hstop : gB size r = false ∨ ∃ p, (pcs xs).getLast? = some p ∧ p.length < 4 := .inr hlast
      clear hlast
      obtain ⟨ps, hps⟩ : ∃ ps, ps = pcs xs := ⟨_, rfl⟩
      rw [← hps] at hS hW hstop
      have he2 : s.data.toList = (headS size).data.toList ++ (blks ps ++ r.data.toList) := by rw [H2.out, hW.1]
      have hlen := walked_len hW
      have hl6 : ps.flatten.length ≤ 1000000 := by omega
      have hfin : tailB ps.flatten r = true → IsFile size s ps.flatten := fun h => file_of H1.out hW.2.1 hW.2.2 he2 hl6 h
      have hnof : tailB ps.flatten r = false → ∀ L, ¬ IsFile size s L := fun h L hi => by
        obtain ⟨e1, e2⟩ := file_not hW.2.1 he2 hstop hi
        rw [← e1] at e2
        rw [(tail_iff hl6 r).2 e2] at h
        cases h
      have hrec : ∀ x ∈ ps.flatten, x.size ≤ 1000 := fun x hx => by
        obtain ⟨q, h1, h2⟩ := List.mem_flatten.1 hx
        obtain ⟨h3, _, h4⟩ := blk_parts (hW.2.1 q h1)
        simp only [sizeB, decide_eq_true_eq] at h3
        have := h4 x h2
        omega
      have hS1 := S1.bel.size
      have c7 : W.cell? ⟨u.heap.size, 0, none⟩ = some (.string r) := hS.p7.cell
      have hbelD : w.heap.size ≤ D := by have := hS.lo; omega
      generalize ps.flatten = acc at hS hlen hl6 hfin hnof hrec
      have HS := Lib.hid hS
      have HF := Lib.hid hfin
      have HNF := Lib.hid hnof
      have HR := Lib.hid hrec
      have HKD := Lib.hid hK
      clear hS hfin hnof hrec hW hstop he2 hps hK
      cases hE : eB r
      · have hno := HNF.out (by unfold tailB; rw [hE]; rfl)
        have HNO := Lib.hid hno
        have HE := Lib.hid hE
        have GE := endgone_c hE
        clear hno hE
        gi_wp2_with fail
        refine ⟨trivial, (callsIn_wide.2 (GE _)).mono ?_⟩; rintro e u4 ⟨rfl, g4⟩
        gi_wp2_with fail
        obtain ⟨X, hX⟩ : ∃ X, X = u4.alloc (.cells #[.int .i64 0, .int .u32 0] 29) := ⟨_, rfl⟩
        have gX : Gr u4 X := by rw [hX]; exact gral _ _
        rw [← hX]
        clear hX
        have S5 := (HS.out.gr g4).gr gX
        have P5 := Lib.hid S5.p5
        have KD := Lib.hid (show X.heap[D]? = some (.deferred (some [])) from blk_gr (blk_gr HKD.out g4) gX)
        have BL := Lib.hid S5.bel
        have d0 : X.cell? ⟨w.heap.size, 0, none⟩ = some (.int .i64 0) := by rw [blk_at P5.out]; rfl
        have d1 : X.cell? ⟨w.heap.size, 1, none⟩ = some (.int .u32 0) := by rw [blk_at P5.out]; rfl
        have f0 : X.frozen? ⟨w.heap.size, 0, none⟩ = false := blk_free P5.out 0
        have f1 : X.frozen? ⟨w.heap.size, 1, none⟩ = false := blk_free P5.out 1
        clear S5
        refine wpIn_wide.2 ?_
        go_region
        gi_wp2_with fail
        obtain ⟨Y, hY⟩ : ∃ Y, Y = ((X.setCell ⟨w.heap.size, 0, none⟩ (.int .i64 0)).setCell ⟨w.heap.size, 1, none⟩ (.int .u32 0)).drew := ⟨_, rfl⟩
        rw [← hY]
        have hk2 : Y.heap[w.heap.size]? = some (.cells #[.int .i64 0, .int .u32 0] 29 (0, 0)) := by rw [hY]; exact set_two (x := .int .i64 0) (y := .int .u32 0) P5.out
        have hkk : Y.heap[D]? = some (.deferred (some [])) := by rw [hY]; exact set_two_obj (k := w.heap.size) (x := .int .i64 0) (y := .int .u32 0) KD.out rfl
        have hbb : Below w.heap.size w Y := by rw [hY]; exact Below.drew (set_two_below (k := w.heap.size) (x := .int .i64 0) (y := .int .u32 0) BL.out (Nat.le_refl _))
        have e0 := blk_at (put_blk (o' := .deferred none) hk2 hkk rfl) 0
        have e1 := blk_at (put_blk (o' := .deferred none) hk2 hkk rfl) 1
        clear hY
        refine ⟨by simp, .inl ⟨_, _, rfl, run_takeDeferred hkk, ?_⟩⟩
        exact ⟨.tuple #[.slice none 0 0, .agg #[.int .i64 0, .int .u32 0], .int .i64 6], by simp [results, Try.f10, go_sem, e0, e1], .inr ⟨HNO.out, rfl, put_below hbb hbelD hkk _⟩⟩
      · have GE := getend_c r
        obtain ⟨cc, hcc⟩ : ∃ cc, cc = eC r := ⟨_, rfl⟩
        obtain ⟨mm, hmm⟩ : ∃ mm, mm = eM r := ⟨_, rfl⟩
        unfold EGot at GE
        rw [hE, ← hcc, ← hmm] at GE
        have htl : tailB acc r = decide (cc = acc.length ∧ mm = (sumN acc : Nat)) := by
          unfold tailB
          rw [hE, ← hcc, ← hmm, Bool.true_and]
          by_cases h1 : cc = (acc.length : Int) <;> by_cases h2 : mm = (sumN acc : Int) <;> simp [h1, h2]
        have HTL := Lib.hid htl
        clear hE hcc hmm htl
        gi_wp2_with fail
        refine ⟨trivial, (callsIn_wide.2 (GE _)).mono ?_⟩; rintro e u4 ⟨rfl, g4⟩
        gi_wp2_with fail
        obtain ⟨X, hX⟩ : ∃ X, X = u4.alloc (.cells #[.int .i64 cc, .int .u32 mm] 29) := ⟨_, rfl⟩
        have gX : Gr u4 X := by rw [hX]; exact gral _ _
        have nX : X.heap[u4.heap.size]? = some (.cells #[.int .i64 cc, .int .u32 mm] 29 (0, 0)) := by rw [hX]; exact heap_alloc_new u4 _
        rw [← hX]
        clear hX
        have S5 := (HS.out.gr g4).gr gX
        have hS : ∀ v, Gr X v → Gr X v ∧ v.cell? ⟨u4.heap.size, 0, none⟩ = some (.int .i64 cc) ∧ v.cell? ⟨u4.heap.size, 1, none⟩ = some (.int .u32 mm) ∧ v.cell? ⟨u.heap.size + 1, 0, none⟩ = some lv :=
          fun v g => ⟨g, by rw [blk_at (blk_gr nX g)]; rfl, by rw [blk_at (blk_gr nX g)]; rfl, by rw [blk_at (blk_gr S5.p9 g)]; rfl⟩
        have H := Lib.hid hS
        obtain ⟨_, c0, c1, c9⟩ := hS _ (Gr.refl _)
        have SC : ∀ v, Gr X v → Calls Try.prog 19 #[lv] v fun e w' => e = .returned (.agg #[.int .i64 (acc.length : Nat), .int .u32 (sumN acc : Nat)]) ∧ Gr X w' ∧ w'.cell? ⟨u4.heap.size, 0, none⟩ = some (.int .i64 cc) ∧ w'.cell? ⟨u4.heap.size, 1, none⟩ = some (.int .u32 mm) ∧ w'.cell? ⟨u.heap.size + 1, 0, none⟩ = some lv := by
          intro v g
          refine (sum_c ((lies_own S5.row).gr g) hl6 HR.out).mono ?_
          rintro e w' ⟨rfl, g2⟩
          exact ⟨rfl, H.out _ (g.trans g2)⟩
        have S5' := Lib.hid S5
        have NX := Lib.hid nX
        have gXX := Gr.refl X
        have gXd : Gr X X.drew := Below.drew gXX
        clear hS S5 nX
        refine wpIn_wide.2 ?_
        cases ht : tailB acc r
        · have hno := HNF.out ht
          have HNO := Lib.hid hno
          have hne : ¬ (cc = acc.length ∧ mm = (sumN acc : Nat)) := by rw [HTL.out, decide_eq_false_iff_not] at ht; exact ht
          have hcmp := info_diff cc mm acc.length (sumN acc) hne
          clear hno hne ht
          go_region_held3 (fun w' => Gr X w' ∧ w'.cell? ⟨u4.heap.size, 0, none⟩ = some (.int .i64 cc) ∧ w'.cell? ⟨u4.heap.size, 1, none⟩ = some (.int .u32 mm) ∧ w'.cell? ⟨u.heap.size + 1, 0, none⟩ = some lv)
            (first | exact H.out _ (Below.drew (by assumption)) | exact H.out _ (by assumption) | go_keep)
            ((first | (go_at_call 19; (with_reducible refine (SC _ (by assumption)).mono ?_); rintro e v ⟨rfl, gu, cu0, cu1, cu9⟩)))
          have S6 := S5'.out.gr gu
          have P5 := Lib.hid (show v.heap[w.heap.size]? = _ from S6.p5)
          have KD := Lib.hid (show v.heap[D]? = some (.deferred (some [])) from blk_gr (blk_gr (blk_gr HKD.out g4) gX) gu)
          have BL := Lib.hid S6.bel
          have d0 : v.cell? ⟨w.heap.size, 0, none⟩ = some (.int .i64 0) := by rw [blk_at P5.out]; rfl
          have d1 : v.cell? ⟨w.heap.size, 1, none⟩ = some (.int .u32 0) := by rw [blk_at P5.out]; rfl
          have f0 : v.frozen? ⟨w.heap.size, 0, none⟩ = false := blk_free P5.out 0
          have f1 : v.frozen? ⟨w.heap.size, 1, none⟩ = false := blk_free P5.out 1
          clear S6
          gi_wp2_with fail
          obtain ⟨Y, hY⟩ : ∃ Y, Y = ((v.setCell ⟨w.heap.size, 0, none⟩ (.int .i64 0)).setCell ⟨w.heap.size, 1, none⟩ (.int .u32 0)) := ⟨_, rfl⟩
          rw [← hY]
          have hk2 : Y.heap[w.heap.size]? = some (.cells #[.int .i64 0, .int .u32 0] 29 (0, 0)) := by rw [hY]; exact set_two (x := .int .i64 0) (y := .int .u32 0) P5.out
          have hkk : Y.heap[D]? = some (.deferred (some [])) := by rw [hY]; exact set_two_obj (k := w.heap.size) (x := .int .i64 0) (y := .int .u32 0) KD.out rfl
          have hbb : Below w.heap.size w Y := by rw [hY]; exact set_two_below (k := w.heap.size) (x := .int .i64 0) (y := .int .u32 0) BL.out (Nat.le_refl _)
          have e0 := blk_at (put_blk (o' := .deferred none) hk2 hkk rfl) 0
          have e1 := blk_at (put_blk (o' := .deferred none) hk2 hkk rfl) 1
          clear hY
          refine ⟨by simp, .inl ⟨_, _, rfl, run_takeDeferred hkk, ?_⟩⟩
          exact ⟨.tuple #[.slice none 0 0, .agg #[.int .i64 0, .int .u32 0], .int .i64 6], by simp [results, Try.f10, go_sem, e0, e1], .inr ⟨HNO.out, rfl, put_below hbb hbelD hkk _⟩⟩
        · have hyes := HF.out ht
          have HFF := Lib.hid hyes
          have heq : cc = acc.length ∧ mm = (sumN acc : Nat) := by rw [HTL.out, decide_eq_true_iff] at ht; exact ht
          have HCC := Lib.hid heq
          have hcmp : ∀ w, (binOp .neq 29 (.agg #[.int .i64 cc, .int .u32 mm]) (.agg #[.int .i64 (acc.length : Nat), .int .u32 (sumN acc : Nat)])).run Try.prog w = .ok (.bool false) w := by
            rw [heq.1, heq.2]; exact info_neq _ _
          clear hyes heq ht
          go_region_held3 (fun w' => Gr X w' ∧ w'.cell? ⟨u4.heap.size, 0, none⟩ = some (.int .i64 cc) ∧ w'.cell? ⟨u4.heap.size, 1, none⟩ = some (.int .u32 mm) ∧ w'.cell? ⟨u.heap.size + 1, 0, none⟩ = some lv)
            (first | exact H.out _ (Below.drew (by assumption)) | exact H.out _ (by assumption) | go_keep)
            ((first | (go_at_call 19; (with_reducible refine (SC _ (by assumption)).mono ?_); rintro e v ⟨rfl, gu, cu0, cu1, cu9⟩)))
          have S6 := S5'.out.gr gu
          have P5 := Lib.hid (show v.heap[w.heap.size]? = _ from S6.p5)
          have KD := Lib.hid (show v.heap[D]? = some (.deferred (some [])) from blk_gr (blk_gr (blk_gr HKD.out g4) gX) gu)
          have BL := Lib.hid S6.bel
          have d0 : v.cell? ⟨w.heap.size, 0, none⟩ = some (.int .i64 0) := by rw [blk_at P5.out]; rfl
          have d1 : v.cell? ⟨w.heap.size, 1, none⟩ = some (.int .u32 0) := by rw [blk_at P5.out]; rfl
          have f0 : v.frozen? ⟨w.heap.size, 0, none⟩ = false := blk_free P5.out 0
          have f1 : v.frozen? ⟨w.heap.size, 1, none⟩ = false := blk_free P5.out 1
          have RW := Lib.hid S6.row
          have hlo6 := S6.lo
          clear S6
          gi_wp2_with fail
          refine wpIn_wide.2 ?_
          go_region
          gi_wp2_with fail
          obtain ⟨Y, hY⟩ : ∃ Y, Y = ((v.setCell ⟨w.heap.size, 0, none⟩ (.int .i64 cc)).setCell ⟨w.heap.size, 1, none⟩ (.int .u32 mm)).drew := ⟨_, rfl⟩
          rw [← hY]
          have hk2 : Y.heap[w.heap.size]? = some (.cells #[.int .i64 cc, .int .u32 mm] 29 (0, 0)) := by rw [hY]; exact set_two (x := .int .i64 cc) (y := .int .u32 mm) P5.out
          have hkk : Y.heap[D]? = some (.deferred (some [])) := by rw [hY]; exact set_two_obj (k := w.heap.size) (x := .int .i64 cc) (y := .int .u32 mm) KD.out rfl
          have hbb : Below w.heap.size w Y := by rw [hY]; exact Below.drew (set_two_below (k := w.heap.size) (x := .int .i64 cc) (y := .int .u32 mm) BL.out (Nat.le_refl _))
          have hrow : Y.ownsRow (u.heap.size + 4) 9 1 lv acc.length (strs acc) := by rw [hY]; exact owns_set (k := w.heap.size) (i := 1) (x := .int .u32 mm) (owns_set (k := w.heap.size) (i := 0) (x := .int .i64 cc) RW.out (by omega)) (by omega)
          have hrow2 := ownsRow_putObj hrow (.deferred none) hkk rfl
          have e0 := blk_at (put_blk (o' := .deferred none) hk2 hkk rfl) 0
          have e1 := blk_at (put_blk (o' := .deferred none) hk2 hkk rfl) 1
          clear hY
          refine ⟨by simp, .inl ⟨_, _, rfl, run_takeDeferred hkk, ?_⟩⟩
          exact ⟨.tuple #[lv, .agg #[.int .i64 cc, .int .u32 mm], .int .i64 0], by simp [results, Try.f10, go_sem, e0, e1], .inl ⟨acc, lv, HFF.out, by rw [← HCC.out.1, ← HCC.out.2], lies_own hrow2, put_below hbb hbelD hkk _⟩⟩
end Go.Proofs.Ytckgdnaocmefjaa
