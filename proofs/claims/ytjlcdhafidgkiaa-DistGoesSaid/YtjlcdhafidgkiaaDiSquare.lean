/- Contracts of the program's upTo, Square and Within. -/
import Derived.Test.YtjlcdhafidgkiaaDiProg
namespace Go.Proofs.Ytjlcdhafidgkiaa
open Go.RowKit Go.Shelf DiPlain
set_option linter.unusedVariables false
set_option linter.unusedSimpArgs false
set_option maxRecDepth 20000
attribute [local go_sem] Oper.semAt_some
theorem pairK_t {Bs Bn b1 b2 : Nat} {A B C : World} (h : PairKeep Bs Bn b1 b2 A B) (k : PairKeep Bs Bn b1 b2 B C) : PairKeep Bs Bn b1 b2 A C :=
  ⟨Nat.le_trans h.1 k.1, k.2.1.trans h.2.1, k.2.2.1.trans h.2.2.1, k.2.2.2.1.trans h.2.2.2.1, k.2.2.2.2.trans h.2.2.2.2⟩
theorem pairK_b {Bs Bn b1 b2 N : Nat} (h1 : Bs < N) (h2 : Bn < N) (h3 : b1 < N) (h4 : b2 < N) (W : World) (l : Nat) (o o' : Obj) (hl : N ≤ l) (_ : W.heap[l]? = some o) (_ : o.isCells = false) : PairKeep Bs Bn b1 b2 W (W.putObj l o') :=
  ⟨by simp, World.putObj_heap_other (by omega), World.putObj_heap_other (by omega), World.putObj_heap_other (by omega), World.putObj_heap_other (by omega)⟩
theorem pairK_set {Bs Bn b1 b2 p : Nat} (W : World) (v : Value) (h1 : Bs ≠ p) (h2 : Bn ≠ p) (h3 : b1 ≠ p) (h4 : b2 ≠ p) : PairKeep Bs Bn b1 b2 W (W.setCell ⟨p, 0, none⟩ v) :=
  ⟨by simp [World.setCell], Below.heap_setCell _ _ _ _ h1, Below.heap_setCell _ _ _ _ h2, Below.heap_setCell _ _ _ _ h3, Below.heap_setCell _ _ _ _ h4⟩
theorem withinB_no {a b : List Int} {e : Int} (h : squareB a b = false) : withinB a b e = false := by unfold withinB; rw [h]; rfl
theorem withinB_len {a b : List Int} {e : Int} (h : ¬ (1 ≤ a.length ∧ a.length ≤ 4096)) : withinB a b e = false := withinB_no (squareB_a (rightV_len h))
theorem withinB_l {a b : List Int} {e : Int} (h : ¬ a.length = b.length) : withinB a b e = false := withinB_no (squareB_l h)
theorem withinB_f1 {a b : List Int} {e x : Int} (h : x ∈ a) (hx : fitD x = false) : withinB a b e = false := withinB_no (squareB_a (rightV_fit h hx))
theorem withinB_f2 {a b : List Int} {e x : Int} (h : x ∈ b) (hx : fitD x = false) : withinB a b e = false := withinB_no (squareB_b (rightV_fit h hx))
def uptoN (a b : List Int) (e : Int) : Int := if withinB a b e = true then far a b else 0
theorem uptoN_no {a b : List Int} {e : Int} (h : withinB a b e = false) : uptoN a b e = 0 := by unfold uptoN; rw [h]; rfl
theorem uptoN_yes {a b : List Int} {e : Int} (h : withinB a b e = true) : uptoN a b e = far a b := by unfold uptoN; rw [if_pos h]
theorem farP_nonneg : ∀ l : List (Int × Int), 0 ≤ farP l
  | [] => by simp [farP]
  | x :: r => by have := farP_nonneg r; have := sq_nonneg x.1 x.2; unfold farP; omega
theorem farP_app : ∀ l r : List (Int × Int), farP (l ++ r) = farP l + farP r
  | [], r => by simp [farP]
  | x :: l, r => by rw [List.cons_append, farP, farP, farP_app l r]; omega
theorem farP_part (l : List (Int × Int)) (j : Nat) : farP (l.take j) ≤ farP l := by
  have h := farP_app (l.take j) (l.drop j)
  rw [List.take_append_drop] at h
  have := farP_nonneg (l.drop j)
  omega
/-- Both numbers of each pair may be. -/
def FitP (l : List (Int × Int)) : Prop := ∀ x ∈ l, fitD x.1 = true ∧ fitD x.2 = true
theorem fitD_iff {x : Int} (h : fitD x = true) : -16777215 ≤ x ∧ x ≤ 16777215 := by unfold fitD at h; rwa [decide_eq_true_iff] at h
theorem farP_fit : ∀ {l : List (Int × Int)}, FitP l → farP l ≤ 1125899772624900 * l.length
  | [], _ => by simp [farP]
  | x :: r, h => by
    have ih := farP_fit (l := r) (fun y hy => h y (by simp [hy]))
    have := sq_le (fitD_iff (h x (by simp)).1) (fitD_iff (h x (by simp)).2)
    simp only [farP, List.length_cons]
    omega
theorem withinB_far {a b : List Int} {e : Int} {j : Nat} (h : ¬ farP ((a.zip b).take j) ≤ e) : withinB a b e = false := by
  have h1 := farP_part (a.zip b) j
  rw [farP_zip] at h1
  unfold withinB
  rw [decide_eq_false (by omega), Bool.and_false]
theorem zip_fit {a b : List Int} (hl : a.length = b.length) (h : FitP (a.zip b)) : a.all fitD = true ∧ b.all fitD = true := by
  constructor <;> rw [List.all_eq_true]
  · intro x hx
    obtain ⟨i, h1, rfl⟩ := List.getElem_of_mem hx
    exact (h (a[i], b[i]'(by omega)) (List.mem_of_getElem? (i := i) (by rw [List.getElem?_zip_eq_some]; exact ⟨by simp [h1], by simp [show i < b.length by omega]⟩))).1
  · intro x hx
    obtain ⟨i, h1, rfl⟩ := List.getElem_of_mem hx
    exact (h (a[i]'(by omega), b[i]) (List.mem_of_getElem? (i := i) (by rw [List.getElem?_zip_eq_some]; exact ⟨by simp [show i < a.length by omega], by simp [h1]⟩))).2
theorem withinB_yes {a b : List Int} {e : Int} (hn : 1 ≤ a.length ∧ a.length ≤ 4096) (hl : a.length = b.length) (h : FitP (a.zip b)) (hf : farP (a.zip b) ≤ e) : withinB a b e = true := by
  obtain ⟨h1, h2⟩ := zip_fit hl h
  unfold withinB
  rw [squareB_yes (rightV_yes hn h1) (rightV_yes (by omega) h2) hl, decide_eq_true (by rwa [farP_zip] at hf)]; rfl
theorem zip_take_len {a b : List Int} {n j : Nat} (hn : a.length ≤ n) : ((a.zip b).take j).length ≤ n := by
  rw [List.length_take, List.length_zip]; omega
/-- The results of a call that answers 0 and false. -/
def UpZ (p : Nat) (W : World) : Prop := W.heap[p + 1]? = some (.cells #[.int .i64 0] 3 (0, 0)) ∧ W.heap[p + 2]? = some (.cells #[.bool false] 4 (0, 0))
/-- Where upTo is behind some pairs. -/
def UpI (e : Int) (w : World) (p : Nat) (pre : List (Int × Int)) (W : World) : Prop :=
  (W.heap[p]? = some (.cells #[.int .i64 e] 3 (0, 0)) ∧ UpZ p W ∧ W.heap[p + 3]? = some (.cells #[.int .i64 (farP pre)] 3 (0, 0))) ∧ Below w.heap.size w W ∧ FitP pre ∧ (pre = [] ∨ farP pre ≤ e)
def UpX (a b : List Int) (e : Int) (w : World) (p : Nat) (c : Code) (_ : List (Int × Int)) (W : World) : Prop :=
  c = .ret ∧ withinB a b e = false ∧ UpZ p W ∧ Below w.heap.size w W
theorem cells_grown {W W' : World} {row : Option Nat} (hg : W.grownBy W' row) (hr : ∀ r, row = some r → ∃ o : Obj, W.heap[r]? = some o ∧ o.isCells = false) {k : Nat} {c : Array Value} {T : TypeId} {fz : Nat × Nat} (h : W.heap[k]? = some (.cells c T fz)) : W'.heap[k]? = some (.cells c T fz) := by
  refine (hg.block k (lt_of_block h) (fun e => ?_)).trans h
  obtain ⟨o, k1, k2⟩ := hr k e.symm
  rw [h] at k1; cases k1; cases k2
theorem UpZ.grown {p : Nat} {W W' : World} {row : Option Nat} (h : UpZ p W) (hg : W.grownBy W' row) (hr : ∀ r, row = some r → ∃ o : Obj, W.heap[r]? = some o ∧ o.isCells = false) : UpZ p W' :=
  ⟨cells_grown hg hr h.1, cells_grown hg hr h.2⟩
theorem upI_own (e : Int) (w : World) (p C : Nat) (hC : w.heap.size ≤ C) : OwnFrom C (UpI e w p) := by
  rintro pre W W' row ⟨⟨h1, h2, h3⟩, h4, h5⟩ hg hr
  exact ⟨⟨cells_grown hg (fun r e => (hr r e).2) h1, h2.grown hg (fun r e => (hr r e).2), cells_grown hg (fun r e => (hr r e).2) h3⟩, h4.grown hg h4.size (fun k e => Nat.le_trans hC (hr k e).1), h5⟩
theorem upX_own (a b : List Int) (e : Int) (w : World) (p C : Nat) (hC : w.heap.size ≤ C) (c : Code) : OwnFrom C (UpX a b e w p c) := by
  rintro pre W W' row ⟨h0, h1, h2, h4⟩ hg hr
  exact ⟨h0, h1, h2.grown hg (fun r e => (hr r e).2), h4.grown hg h4.size (fun k e => Nat.le_trans hC (hr k e).1)⟩
theorem pairPr_own (C : Nat) (a b : List Int) (pre : List (Int × Int)) : OwnFrom C (PairPr a b pre) := fun _ _ _ _ h _ _ => h
theorem put_belowD {w W : World} {D : Nat} {o : Obj} (h : Below w.heap.size w W) (hD : w.heap.size ≤ D) (hK : W.heap[D]? = some o) (o' : Obj) : Gr w (W.putObj D o') :=
  Below.grown h (grownBy_putObj' W D o') h.size (fun k e => by cases e; exact hD)
theorem put_cells {W : World} {D k : Nat} {c : Array Value} {T : TypeId} {fz : Nat × Nat} {o o' : Obj} (h : W.heap[k]? = some (.cells c T fz)) (hK : W.heap[D]? = some o) (ho : o.isCells = false) : (W.putObj D o').heap[k]? = some (.cells c T fz) :=
  (World.putObj_heap_other (fun e => by subst e; rw [h] at hK; cases hK; cases ho)).trans h
theorem two_boxes (w : World) (o p : Obj) : ((w.alloc o).alloc p).heap[w.heap.size]? = some o ∧ ((w.alloc o).alloc p).heap[w.heap.size + 1]? = some p ∧ Gr w ((w.alloc o).alloc p) := by
  refine ⟨?_, ?_, Below.alloc (Below.alloc (Below.refl _ _) (Nat.le_refl _) _) (by simp) _⟩
  · rw [Below.heap_alloc _ _ _ (by simp)]; exact heap_alloc_new w _
  · have := heap_alloc_new (w.alloc o) p
    rwa [World.size_alloc] at this
/-- Three cells of one's own: a bound, and two results. -/
theorem up_start (w : World) (e : Int) : ∃ W, W = ((w.alloc (.cells #[.int .i64 e] 3)).alloc (.cells #[.int .i64 0] 3)).alloc (.cells #[.bool false] 4) ∧
    W.heap.size = w.heap.size + 3 ∧ W.heap[w.heap.size]? = some (.cells #[.int .i64 e] 3 (0, 0)) ∧ UpZ w.heap.size W ∧ Gr w W := by
  obtain ⟨h1, h2, h3⟩ := two_boxes w (.cells #[.int .i64 e] 3) (.cells #[.int .i64 0] 3)
  have hs : ((w.alloc (.cells #[.int .i64 e] 3)).alloc (.cells #[.int .i64 0] 3)).heap.size = w.heap.size + 2 := by simp
  refine ⟨_, rfl, by simp, ?_, ⟨?_, ?_⟩, h3.trans (Below.alloc (Below.refl _ _) (Nat.le_refl _) _)⟩
  · rw [Below.heap_alloc _ _ _ (by simp; omega)]; exact h1
  · rw [Below.heap_alloc _ _ _ (by simp)]; exact h2
  · have := heap_alloc_new ((w.alloc (.cells #[.int .i64 e] 3)).alloc (.cells #[.int .i64 0] 3)) (.cells #[.bool false] 4)
    rwa [hs] at this
/-- Both results, written anew. -/
theorem upZ_set {p : Nat} {W : World} {x y u v : Value} (h : W.heap[p + 1]? = some (.cells #[u] 3 (0, 0)) ∧ W.heap[p + 2]? = some (.cells #[v] 4 (0, 0))) :
    ((W.setCell ⟨p + 1, 0, none⟩ x).setCell ⟨p + 1 + 1, 0, none⟩ y).heap[p + 1]? = some (.cells #[x] 3 (0, 0)) ∧ ((W.setCell ⟨p + 1, 0, none⟩ x).setCell ⟨p + 1 + 1, 0, none⟩ y).heap[p + 1 + 1]? = some (.cells #[y] 4 (0, 0)) := by
  constructor
  · refine (Below.heap_setCell _ _ _ _ (by simp)).trans ?_
    simpa using cells_set h.1 0 x
  · have h2 : (W.setCell ⟨p + 1, 0, none⟩ x).heap[p + 1 + 1]? = some (.cells #[v] 4 (0, 0)) := (Below.heap_setCell _ _ _ _ (by simp)).trans h.2
    simpa using cells_set h2 0 y
theorem ret_ib11 {a b : Int} {c d : Bool} (h : a = b) (k : c = d) : Ending.returned (.tuple #[.int .i64 a, .bool c]) = .returned (.tuple #[.int .i64 b, .bool d]) := by rw [h, k]
set_option maxRecDepth 100000 in
set_option maxHeartbeats 4000000 in
/-- A call that answers 0 and false ahead of its loop. -/
theorem upto_none {w : World} {a1 a2 : Option Addr} {n m c1 c2 : Nat} (e : Int) (h : ¬ (1 ≤ n ∧ n ≤ 4096) ∨ ¬ n = m) :
    Calls Try.prog 12 #[.slice a1 n c1, .slice a2 m c2, .int .i64 e] w fun x w' => x = .returned (.tuple #[.int .i64 0, .bool false]) ∧ Gr w w' := by
  have F := fun w => dsized_c (n : Int) w
  obtain ⟨W, hW, hs, _, hz, g⟩ := up_start w e
  have r1 : W.cell? ⟨w.heap.size + 1, 0, none⟩ = some (.int .i64 0) := by rw [cells_at hz.1]; rfl
  have f1 : W.frozen? ⟨w.heap.size + 1, 0, none⟩ = false := cells_free hz.1 0
  have r2 : W.cell? ⟨w.heap.size + 1 + 1, 0, none⟩ = some (.bool false) := by rw [cells_at (b := w.heap.size + 1 + 1) hz.2]; rfl
  have f2 : W.frozen? ⟨w.heap.size + 1 + 1, 0, none⟩ = false := cells_free (b := w.heap.size + 1 + 1) hz.2 0
  have HZ := Lib.hid (upZ_set (x := .int .i64 0) (y := .bool false) hz)
  have HW := Lib.hid hW
  have HB : RowKit.Hid (Gr w ((W.setCell ⟨w.heap.size + 1, 0, none⟩ (.int .i64 0)).setCell ⟨w.heap.size + 1 + 1, 0, none⟩ (.bool false))) :=
    Lib.hid (Below.setCell (p := ⟨w.heap.size + 1 + 1, 0, none⟩) (Below.setCell (p := ⟨w.heap.size + 1, 0, none⟩) g (by simp) _) (by simp; omega) _)
  clear hW hz g hs
  rcases (show sizedD (n : Int) = false ∨ (sizedD (n : Int) = true ∧ ¬ n = m) by
    by_cases t : 1 ≤ n ∧ n ≤ 4096
    · exact .inr ⟨sizedD_yes t, h.resolve_left (fun k => k t)⟩
    · exact .inl (sizedD_no t)) with hd | ⟨hd, hm⟩
  · rw [hd] at F
    clear hd h
    go_enter Try.func12, Try.ntmps12
    go_wp2_with fail
    rw [← HW.out]
    refine (F _).mono ?_; rintro x u ⟨rfl, rfl⟩
    go_wp2_with fail
    have e1 := cells_at HZ.out.1 0
    have e2 := cells_at HZ.out.2 0
    exact bodyPost_ret (v := .tuple #[.int .i64 0, .bool false]) (by simp [results, Try.results12, go_sem, e1, e2]) rfl ⟨rfl, HB.out⟩
  · rw [hd] at F
    have t1 : ((n : Int) != (m : Int)) = true := by simp; omega
    clear hd h hm
    go_enter Try.func12, Try.ntmps12
    go_wp2_with fail
    rw [← HW.out]
    refine (F _).mono ?_; rintro x u ⟨rfl, rfl⟩
    go_wp2_with fail
    have e1 := cells_at HZ.out.1 0
    have e2 := cells_at HZ.out.2 0
    exact bodyPost_ret (v := .tuple #[.int .i64 0, .bool false]) (by simp [results, Try.results12, go_sem, e1, e2]) rfl ⟨rfl, HB.out⟩
theorem set_keepsD {C : Nat} (A : World) (p : Addr) (v : Value) : KeepsFrom C A (A.setCell p v) := (KeepsOthers.setCell A p v).from C
set_option maxRecDepth 100000 in
set_option maxHeartbeats 8000000 in
theorem upto_c {w : World} {v1 v2 : Value} {a b : List Int} (h1 : LiesI w v1 a) (h2 : LiesI w v2 b) (e : Int) :
    Calls Try.prog 12 #[v1, v2, .int .i64 e] w fun x w' => x = .returned (.tuple #[.int .i64 (uptoN a b e), .bool (withinB a b e)]) ∧ Gr w w' := by
  obtain ⟨a1, c1, rfl, hc1, h1⟩ := h1
  obtain ⟨a2, c2, rfl, hc2, h2⟩ := h2
  by_cases ht : (1 ≤ a.length ∧ a.length ≤ 4096) ∧ a.length = b.length
  rotate_left 1
  · have hB : withinB a b e = false := by
      by_cases t : 1 ≤ a.length ∧ a.length ≤ 4096
      · exact withinB_l (fun k => ht ⟨t, k⟩)
      · exact withinB_len t
    rw [uptoN_no hB, hB]
    exact upto_none e ((Classical.em (1 ≤ a.length ∧ a.length ≤ 4096)).elim (fun t => .inr (fun k => ht ⟨t, k⟩)) .inl)
  · obtain ⟨l1, hlen⟩ := ht
    have HY := Lib.hid (fun (hf : FitP (a.zip b)) (hq : farP (a.zip b) ≤ e) => withinB_yes l1 hlen hf hq)
    have K1 : ∃ b' off, a1 = some ⟨b', off, none⟩ ∧ VRow w b' off (ints a) := h1.elim (fun h0 => by rw [h0] at l1; simp at l1) id
    have K2 : ∃ b' off, a2 = some ⟨b', off, none⟩ ∧ VRow w b' off (ints b) := h2.elim (fun h0 => by rw [h0] at hlen; simp at hlen; rw [hlen] at l1; simp at l1) id
    obtain ⟨b1, o1, rfl, r1⟩ := K1
    obtain ⟨b2, o2, rfl, r2⟩ := K2
    have F := fun w => dsized_c (a.length : Int) w
    rw [sizedD_yes l1] at F
    have t1 : ((a.length : Int) != (b.length : Int)) = false := by simp; omega
    obtain ⟨n, hn⟩ : ∃ n, a.length = n := ⟨_, rfl⟩
    have hn2 : b.length = n := by rw [← hlen, hn]
    rw [hn] at F t1 l1
    rw [hn2] at t1
    rw [hn, hn2]
    have HL1 := Lib.hid hn
    have HL2 := Lib.hid hn2
    have HR1 := Lib.hid r1
    have HR2 := Lib.hid r2
    have lt1 := r1.1
    have lt2 := r2.1
    obtain ⟨W, hW, hs, hcb, hz, gW⟩ := up_start w e
    have HW := Lib.hid hW
    clear h1 h2 r1 r2 hlen hn hn2 hc1 hc2 hW
    refine (callsIn_wide (n := 8)).1 ?_
    refine callsIn_of_wp_marks Try.func12 rfl trivial ?_ rfl
    simp only [Try.ntmps12, List.size_toArray, List.length_cons, List.length_nil, Nat.reduceAdd, Nat.reduceSub, Array.replicate_succ, Array.replicate_zero, List.push_toArray, List.append_toArray, List.nil_append, List.cons_append]
    gi_wp2_with fail
    rw [← HW.out]
    refine ⟨trivial, (callsIn_wide.2 (F _)).mono ?_⟩; rintro x u ⟨rfl, rfl⟩
    gi_wp2_with fail
    obtain ⟨p, hp⟩ : ∃ p, p = w.heap.size := ⟨_, rfl⟩
    rw [← hp] at hs hcb hz lt1 lt2
    obtain ⟨U, hU⟩ : ∃ U, U = W.alloc (.cells #[.int .i64 0] 3) := ⟨_, rfl⟩
    have gU : Gr W U := by rw [hU]; exact Below.alloc (Below.refl _ _) (Nat.le_refl _) _
    have hzU : U.heap.size = p + 4 := by rw [hU]; simp [hs]
    have hcs : U.heap[p + 3]? = some (.cells #[.int .i64 0] 3 (0, 0)) := by rw [hU, ← hs]; exact heap_alloc_new W _
    have hcb : U.heap[p]? = some (.cells #[.int .i64 e] 3 (0, 0)) := (gU.block _ (lt_of_block hcb)).trans hcb
    have hz : UpZ p U := ⟨(gU.block _ (lt_of_block hz.1)).trans hz.1, (gU.block _ (lt_of_block hz.2)).trans hz.2⟩
    rw [← hp, ← hU]
    have hs := hzU
    clear hU hzU
    refine ⟨trivial, (callsIn_wide.2 (pairs_c _ _ U rfl rfl)).mono ?_⟩; rintro x u3 ⟨rfl, hu3⟩
    obtain ⟨x1, x2, x3⟩ := two_boxes U (.cells #[.slice (some ⟨b1, o1, none⟩) n c1] 22) (.cells #[.slice (some ⟨b2, o2, none⟩) n c2] 22)
    rw [← hu3] at x1 x2 x3
    have hz3 : u3.heap.size = p + 6 := by rw [hu3]; simp [hs]
    rw [hs] at x1 x2 ⊢
    have g3 : Gr w u3 := (gW.trans gU).trans x3
    have st : PairSt a b n c1 c2 b1 o1 b2 o2 (p + 4) (p + 4 + 1) u3 := ⟨x1, x2, HR1.out.gr g3, HR2.out.gr g3⟩
    have i0 : UpI e w p [] u3 := ⟨⟨(x3.block _ (lt_of_block hcb)).trans hcb, ⟨(x3.block _ (lt_of_block hz.1)).trans hz.1, (x3.block _ (lt_of_block hz.2)).trans hz.2⟩, (x3.block _ (lt_of_block hcs)).trans hcs⟩, g3, fun x hx => by simp at hx, .inl rfl⟩
    have HP := Lib.hid hp
    clear hu3 x1 x2 hp hcs hcb hz
    gi_wp2_with fail
    refine wpIn_told (n := 8) (by omega) (gf := 16) (lb := #[.pointer (some ⟨p + 4, 0, none⟩), .pointer (some ⟨p + 4 + 1, 0, none⟩)]) rfl (enters_of Try.func16 (by kernel_rfl) rfl)
      (pairs_told (n := 7) (by omega) HL1.out HL2.out (by omega) st) (fun h k => pairK_t h k) (fun W l o o' hl h ho => pairK_b (N := p + 6) (by omega) (by omega) (by omega) (by omega) W l o o' (by omega) h ho) (Below.refl _ _) (fun _ => rfl)
      (UpI e w p) (UpX a b e w p) (upI_own e w p _ g3.size) (fun c => upX_own a b e w p _ g3.size c) (fun pre => pairPr_own _ a b pre)
      i0 ?a1 ?assign ?body ?done ?stop
    case assign =>
      intro l x W K hK
      gi_wp2
      exact hK
    case body =>
      rintro l pre x W ⟨⟨hce, hcz, hcs⟩, hbel, hfit, hle⟩ ⟨j, rfl, hx⟩
      have hnx : (a.zip b).take j ++ [x] = (a.zip b).take (j + 1) := by
        obtain ⟨k1, k2⟩ := List.getElem?_eq_some_iff.1 hx
        rw [List.take_succ_eq_append_getElem k1, k2]
      have hm := List.mem_of_getElem? hx
      have hxy : x.1 ∈ a ∧ x.2 ∈ b := List.of_mem_zip (show (x.1, x.2) ∈ a.zip b from hm)
      have F1 := fun w => dfitd_c x.1 w
      have F2 := fun w => dfitd_c x.2 w
      have cl : W.cell? ⟨p, 0, none⟩ = some (.int .i64 e) := by rw [cells_at hce]; rfl
      have z1 : W.cell? ⟨p + 1, 0, none⟩ = some (.int .i64 0) := by rw [cells_at hcz.1]; rfl
      have z2 : W.cell? ⟨p + 1 + 1, 0, none⟩ = some (.bool false) := by rw [cells_at (b := p + 1 + 1) hcz.2]; rfl
      have y1 : W.frozen? ⟨p + 1, 0, none⟩ = false := cells_free hcz.1 0
      have y2 : W.frozen? ⟨p + 1 + 1, 0, none⟩ = false := cells_free (b := p + 1 + 1) hcz.2 0
      have HBE := Lib.hid hbel
      have HCZ := Lib.hid hcz
      have HCC : ∀ V : World, V.heap[p + 1]? = W.heap[p + 1]? → V.heap[p + 2]? = W.heap[p + 2]? → Below w.heap.size w V →
          UpZ p ((V.setCell ⟨p + 1, 0, none⟩ (.int .i64 0)).setCell ⟨p + 1 + 1, 0, none⟩ (.bool false)) ∧ Below w.heap.size w ((V.setCell ⟨p + 1, 0, none⟩ (.int .i64 0)).setCell ⟨p + 1 + 1, 0, none⟩ (.bool false)) := fun V v1 v2 v3 =>
        ⟨upZ_set ⟨v1.trans HCZ.out.1, v2.trans HCZ.out.2⟩, Below.setCell (p := ⟨p + 1 + 1, 0, none⟩) (Below.setCell (p := ⟨p + 1, 0, none⟩) v3 (by have := HP.out; simp; omega) _) (by have := HP.out; simp; omega) _⟩
      have HCC := Lib.hid HCC
      cases hf1 : fitD x.1
      · rw [hf1] at F1
        have HW1 := Lib.hid (withinB_f1 (b := b) (e := e) hxy.1 hf1)
        obtain ⟨q1, hq1⟩ : ∃ q1, x.1 = q1 := ⟨_, rfl⟩
        obtain ⟨q2, hq2⟩ : ∃ q2, x.2 = q2 := ⟨_, rfl⟩
        rw [hq1] at F1
        rw [hq1, hq2]
        clear F2 hx hnx hm hxy hcs hce hcz hbel hfit hle hf1 hq1 hq2
        gi_wp2_with fail
        refine ⟨trivial, (CallsIn.inRound l (callsIn_wide.2 (F1 _))).mono ?_⟩; rintro y u4 ⟨rfl, rfl⟩
        gi_wp2_with fail
        refine ⟨trivial, ?_⟩
        gi_wp2_with fail
        exact told_ret ((set_keepsD _ _ _).trans (set_keepsD _ _ _)) ⟨rfl, HW1.out, HCC.out _ rfl rfl HBE.out⟩
      · cases hf2 : fitD x.2
        · rw [hf1] at F1
          rw [hf2] at F2
          have HW1 := Lib.hid (withinB_f2 (a := a) (e := e) hxy.2 hf2)
          obtain ⟨q1, hq1⟩ : ∃ q1, x.1 = q1 := ⟨_, rfl⟩
          obtain ⟨q2, hq2⟩ : ∃ q2, x.2 = q2 := ⟨_, rfl⟩
          rw [hq1] at F1
          rw [hq2] at F2
          rw [hq1, hq2]
          clear hx hnx hm hxy hcs hce hcz hbel hfit hle hf1 hf2 hq1 hq2
          gi_wp2_with fail
          refine ⟨trivial, (CallsIn.inRound l (callsIn_wide.2 (F1 _))).mono ?_⟩; rintro y u4 ⟨rfl, rfl⟩
          gi_wp2_with fail
          refine ⟨trivial, (CallsIn.inRound l (callsIn_wide.2 (F2 _))).mono ?_⟩; rintro y u4 ⟨rfl, rfl⟩
          gi_wp2_with fail
          exact told_ret ((set_keepsD _ _ _).trans (set_keepsD _ _ _)) ⟨rfl, HW1.out, HCC.out _ rfl rfl HBE.out⟩
        · rw [hf1] at F1
          rw [hf2] at F2
          have hfit2 : FitP ((a.zip b).take (j + 1)) := by
            rw [← hnx]
            intro y hy
            rcases List.mem_append.1 hy with hy | hy
            · exact hfit y hy
            · simp at hy; subst hy; exact ⟨hf1, hf2⟩
          have hs2 := farP_fit hfit2
          have hlen2 : ((a.zip b).take (j + 1)).length ≤ 4096 := zip_take_len (by rw [HL1.out]; omega)
          have hs0 := farP_nonneg ((a.zip b).take j)
          have hnx2 : farP ((a.zip b).take (j + 1)) = farP ((a.zip b).take j) + sq x.1 x.2 := by rw [← hnx, farP_snoc]
          have hq := sq_nonneg x.1 x.2
          have bx := fitD_iff hf1
          have bx2 := fitD_iff hf2
          have hfar := Lib.hid (fun (h : ¬ farP ((a.zip b).take (j + 1)) ≤ e) => withinB_far h)
          rw [hnx2] at hs2 hfar
          have hq3 := sq_le bx bx2
          obtain ⟨q1, hq1⟩ : ∃ q1, x.1 = q1 := ⟨_, rfl⟩
          obtain ⟨q2, hq2⟩ : ∃ q2, x.2 = q2 := ⟨_, rfl⟩
          rw [hnx]
          have HFT := Lib.hid hfit2
          have HX2 := Lib.hid hnx2
          rw [hq1] at F1
          rw [hq2] at F2
          rw [hq1, hq2] at hq hq3 hs2 hfar
          rw [hq1, hq2]
          rw [hq1] at bx
          rw [hq2] at bx2
          obtain ⟨m, hm'⟩ : ∃ m, (q1 - q2) * (q1 - q2) = m := ⟨_, rfl⟩
          have hsm : sq q1 q2 = m := hm'
          rw [hsm] at hs2 hq hq3 hfar
          have HSM := Lib.hid (show sq x.1 x.2 = m by rw [hq1, hq2, hsm])
          obtain ⟨N, hN⟩ : ∃ N, farP ((a.zip b).take j) = N := ⟨_, rfl⟩
          rw [hN] at hs0 hs2 hfar hcs
          have HNN := Lib.hid hN
          have hb2 : N + m ≤ 4611686018427387904 := by omega
          have HCS := Lib.hid hcs
          have HCE := Lib.hid hce
          have cz : W.cell? ⟨p + 3, 0, none⟩ = some (.int .i64 N) := by rw [cells_at hcs]; rfl
          have cf : W.frozen? ⟨p + 3, 0, none⟩ = false := cells_free hcs 0
          clear hs2 hlen2 hnx2 hx hnx hm hxy hcs hce hcz hbel hfit hle hf1 hf2 hq1 hq2 hsm hN hfit2
          have HO1 := Lib.hid (Below.heap_setCell W ⟨p + 3, 0, none⟩ (.int .i64 (N + m)) (p + 1) (by simp))
          have HO2 := Lib.hid (Below.heap_setCell W ⟨p + 3, 0, none⟩ (.int .i64 (N + m)) (p + 2) (by simp))
          have HO0 := Lib.hid (Below.heap_setCell W ⟨p + 3, 0, none⟩ (.int .i64 (N + m)) p (by simp))
          have HBS := Lib.hid (Below.setCell (p := ⟨p + 3, 0, none⟩) HBE.out (by have := HP.out; simp; omega) (.int .i64 (N + m)))
          by_cases hbig : N + m ≤ e
          · have t5 : ¬ e < N + m := by omega
            gi_wp2_with fail
            refine ⟨trivial, (CallsIn.inRound l (callsIn_wide.2 (F1 _))).mono ?_⟩; rintro y u4 ⟨rfl, rfl⟩
            gi_wp2_with fail
            refine ⟨trivial, (CallsIn.inRound l (callsIn_wide.2 (F2 _))).mono ?_⟩; rintro y u4 ⟨rfl, rfl⟩
            gi_wp2_with fail
            refine told_on (set_keepsD _ _ _) (pairK_set _ _ (by omega) (by omega) (by omega) (by omega)) ⟨⟨HO0.out.trans HCE.out, ⟨HO1.out.trans HCZ.out.1, HO2.out.trans HCZ.out.2⟩, ?_⟩, HBS.out, HFT.out, .inr ?_⟩
            · rw [HX2.out, HNN.out, HSM.out]; simpa using cells_set HCS.out 0 (.int .i64 (N + m))
            · rw [HX2.out, HNN.out, HSM.out]; exact hbig
          · have t5 : e < N + m := by omega
            have HW1 := Lib.hid (hfar.out hbig)
            gi_wp2_with fail
            refine ⟨trivial, (CallsIn.inRound l (callsIn_wide.2 (F1 _))).mono ?_⟩; rintro y u4 ⟨rfl, rfl⟩
            gi_wp2_with fail
            refine ⟨trivial, (CallsIn.inRound l (callsIn_wide.2 (F2 _))).mono ?_⟩; rintro y u4 ⟨rfl, rfl⟩
            gi_wp2_with fail
            exact told_ret (((set_keepsD _ _ _).trans (set_keepsD _ _ _)).trans (set_keepsD _ _ _)) ⟨rfl, HW1.out, HCC.out _ HO1.out HO2.out HBS.out⟩
    case done =>
      rintro D xs W hD rfl ⟨⟨hce, hcz, hcs⟩, hbel, hfit, hle⟩ hK
      have hne : a.zip b ≠ [] := by
        intro h0
        have := congrArg List.length h0
        rw [List.length_zip, HL1.out, HL2.out] at this
        simp at this; omega
      have hB := HY.out hfit (hle.resolve_left hne)
      have HB := Lib.hid hB
      have HX := Lib.hid (show farP (a.zip b) = uptoN a b e by rw [uptoN_yes hB, farP_zip])
      generalize farP (a.zip b) = N at hcs hle HX
      have cz : W.cell? ⟨p + 3, 0, none⟩ = some (.int .i64 N) := by rw [cells_at hcs]; rfl
      have z1 : W.cell? ⟨p + 1, 0, none⟩ = some (.int .i64 0) := by rw [cells_at hcz.1]; rfl
      have z2 : W.cell? ⟨p + 1 + 1, 0, none⟩ = some (.bool false) := by rw [cells_at (b := p + 1 + 1) hcz.2]; rfl
      have y1 : W.frozen? ⟨p + 1, 0, none⟩ = false := cells_free hcz.1 0
      have y2 : W.frozen? ⟨p + 1 + 1, 0, none⟩ = false := cells_free (b := p + 1 + 1) hcz.2 0
      have HZ := Lib.hid (upZ_set (x := .int .i64 N) (y := .bool true) hcz)
      have HBB : RowKit.Hid (Below w.heap.size w ((W.setCell ⟨p + 1, 0, none⟩ (.int .i64 N)).setCell ⟨p + 1 + 1, 0, none⟩ (.bool true))) :=
        Lib.hid (Below.setCell (p := ⟨p + 1 + 1, 0, none⟩) (Below.setCell (p := ⟨p + 1, 0, none⟩) hbel (by have := HP.out; simp; omega) _) (by have := HP.out; simp; omega) _)
      have HKK := Lib.hid (((KeepsOthers.setCell W ⟨p + 1, 0, none⟩ (.int .i64 N)).trans (KeepsOthers.setCell _ ⟨p + 1 + 1, 0, none⟩ (.bool true))).same D _ hK rfl)
      clear hce hcz hcs hbel hfit hle hne hB hK
      gi_wp2_with fail
      refine ⟨by simp, .inl ⟨_, _, rfl, run_takeDeferred HKK.out, ?_⟩⟩
      have e1 := cells_at (put_cells (o' := .deferred none) HZ.out.1 HKK.out rfl) 0
      have e2 := cells_at (put_cells (o' := .deferred none) HZ.out.2 HKK.out rfl) 0
      exact ⟨.tuple #[.int .i64 N, .bool true], by simp [results, Try.f12, go_sem, e1, e2], by rw [HX.out, HB.out], put_belowD HBB.out (by have := HP.out; omega) HKK.out _⟩
    case stop =>
      rintro D c2 pre W hD _ ⟨rfl, hB, hz, hbel⟩ hK
      have HB := Lib.hid hB
      have H1 := Lib.hid hz.1
      have H2 := Lib.hid hz.2
      clear hB hz
      gi_wp2_with fail
      refine ⟨by simp, .inl ⟨_, _, rfl, run_takeDeferred hK, ?_⟩⟩
      have e1 := cells_at (put_cells (o' := .deferred none) H1.out hK rfl) 0
      have e2 := cells_at (put_cells (o' := .deferred none) H2.out hK rfl) 0
      exact ⟨.tuple #[.int .i64 0, .bool false], by simp [results, Try.f12, go_sem, e1, e2], by rw [HB.out, uptoN_no HB.out], put_belowD hbel (by have := HP.out; omega) hK _⟩
theorem withinB_max (a b : List Int) : withinB a b 4611686018427387904 = squareB a b := by
  unfold withinB
  cases h : squareB a b
  · rfl
  · obtain ⟨h1, h2, _⟩ := squareB_parts h
    have := (far_bound h1 h2).2
    rw [decide_eq_true (by omega)]; rfl
theorem dsquare_c {w : World} {v1 v2 : Value} {a b : List Int} (h1 : LiesI w v1 a) (h2 : LiesI w v2 b) (hl1 : a.length ≤ 9223372036854775807) (hl2 : b.length ≤ 9223372036854775807) :
    Calls Try.prog 6 #[v1, v2] w fun e w' => e = .returned (.tuple #[.int .i64 (squareN a b), .int .i64 (squareE a b)]) ∧ Gr w w' := by
  have S := upto_c h1 h2 4611686018427387904
  obtain ⟨a1, c1, rfl, hc1, h1⟩ := h1
  obtain ⟨a2, c2, rfl, hc2, h2⟩ := h2
  have hw := withinB_max a b
  cases hB : squareB a b
  · rw [hB] at hw
    rw [uptoN_no hw, hw] at S
    have HN := Lib.hid (squareN_no hB)
    have HE := Lib.hid (squareE_no hB)
    clear hB hw h1 h2 hc1 hc2
    go_enter Try.func6, Try.ntmps6
    go_wp2_with fail
    refine S.mono ?_; rintro e u ⟨rfl, g⟩
    go_wp2_with fail
    go_ret2
    exact ⟨ret_ii11 HN.out.symm HE.out.symm, g⟩
  · rw [hB] at hw
    rw [uptoN_yes hw, hw] at S
    have HN := Lib.hid (squareN_yes hB)
    have HE := Lib.hid (squareE_yes hB)
    generalize far a b = n at S HN
    clear hB hw h1 h2 hc1 hc2
    go_enter Try.func6, Try.ntmps6
    go_wp2_with fail
    refine S.mono ?_; rintro e u ⟨rfl, g⟩
    go_wp2_with fail
    go_ret2
    exact ⟨ret_ii11 HN.out.symm HE.out.symm, g⟩
theorem dwithin_c {w : World} {v1 v2 : Value} {a b : List Int} (h1 : LiesI w v1 a) (h2 : LiesI w v2 b) (hl1 : a.length ≤ 9223372036854775807) (hl2 : b.length ≤ 9223372036854775807) (eps : Int) :
    Calls Try.prog 10 #[v1, v2, .int .i64 eps] w fun e w' => e = .returned (.bool (withinB a b eps)) ∧ Gr w w' := by
  have S := upto_c h1 h2 eps
  obtain ⟨a1, c1, rfl, hc1, h1⟩ := h1
  obtain ⟨a2, c2, rfl, hc2, h2⟩ := h2
  generalize withinB a b eps = q at S
  generalize uptoN a b eps = n at S
  clear h1 h2 hc1 hc2
  go_enter Try.func10, Try.ntmps10
  go_wp2_with fail
  refine S.mono ?_; rintro e u ⟨rfl, g⟩
  go_wp2_with fail
  go_ret
  exact ⟨rfl, g⟩
end Go.Proofs.Ytjlcdhafidgkiaa
