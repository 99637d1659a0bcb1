/- In one text: RecLay, RecRlay, WrAwake. -/
import Derived.Test.YtcpaaenjfljocaaGreatP21
import Derived.Test.YtcpaaenjfljocaaGreatP19
import Derived.Test.YtcpaaenjfljocaaGreatP09
import Derived.Test.YtcpaaenjfljocaaGreatP20
/- The contract of Lay. -/
namespace Go.Proofs.YtcpaaenjfljocaaGreat
open Go.RowKit Go.Shelf CrcPlain OctPlain FramePlain RecPlain
set_option linter.unusedVariables false
set_option linter.unusedSimpArgs false
attribute [local go_sem] Oper.semAt_some
theorem grown_cells {W W' : World} {row : Option Nat} (hg : W.grownBy W' row) (hr : ∀ r, row = some r → ∃ o : Obj, W.heap[r]? = some o ∧ o.isCells = false) {k : Nat} {c : Array Value} {T : TypeId} {fz : Nat × Nat} (h : W.heap[k]? = some (.cells c T fz)) : W'.heap[k]? = some (.cells c T fz) :=
  (hg.block k (blk_lt h) (fun e => by obtain ⟨o, ho, hc⟩ := hr k e.symm; rw [h] at ho; cases ho; cases hc)).trans h
theorem Bld.grown {n0 b : Nat} {l : List UInt8} {W W' : World} {row : Option Nat} (h : Bld n0 b l W) (hg : W.grownBy W' row) (hr : ∀ r, row = some r → ∃ o : Obj, W.heap[r]? = some o ∧ o.isCells = false) : Bld n0 b l W' := by
  have one : ∀ p, Lib.BuilderAtF 130 5 n0 b p (Lib.byteCells l) W → Lib.BuilderAtF 130 5 n0 b p (Lib.byteCells l) W' := by
    rintro p ⟨h1, v, hb, ho, hv⟩
    refine ⟨h1, v, grown_cells hg hr hb, ho.kept hg ?_, hv⟩
    rcases ho.2 with ⟨rfl, _⟩ | ⟨g, cap, cur, fz, rfl, _, hgb, _⟩
    · exact .inl rfl
    · refine .inr fun e => ?_
      obtain ⟨o, h1, h2⟩ := hr g (by simpa [Value.ownBlock] using e.symm)
      rw [hgb] at h1; cases h1; cases h2
  exact ⟨h.1.imp (one _) (one _), Nat.le_trans h.2 hg.size⟩
theorem Bld.gr {n0 b : Nat} {l : List UInt8} {W W' : World} (h : Bld n0 b l W) (g : Gr W W') : Bld n0 b l W' := h.grown (gr_grown g) (fun r e => by cases e)
/-- Where Lay is: what its builder holds, and its own variables. -/
structure LaySt (size : Int) (w : World) (b : Nat) (l : List UInt8) (W : World) : Prop where
  bld : Bld b b l W
  z : W.heap[w.heap.size]? = some (.cells #[.int .i64 size] 3 (0, 0))
  r1 : W.heap[w.heap.size + 1]? = some (.cells #[.string ⟨#[]⟩] 9 (0, 0))
  r2 : W.heap[w.heap.size + 2]? = some (.cells #[.bool false] 4 (0, 0))
  bel : Below w.heap.size w W
  lb : w.heap.size + 3 ≤ b
theorem LaySt.grown {size : Int} {w : World} {b : Nat} {l : List UInt8} {W W' : World} {row : Option Nat} (h : LaySt size w b l W) (hg : W.grownBy W' row) (hr : ∀ r, row = some r → w.heap.size ≤ r ∧ ∃ o : Obj, W.heap[r]? = some o ∧ o.isCells = false) : LaySt size w b l W' :=
  ⟨h.bld.grown hg (fun r e => (hr r e).2), grown_cells hg (fun r e => (hr r e).2) h.z, grown_cells hg (fun r e => (hr r e).2) h.r1, grown_cells hg (fun r e => (hr r e).2) h.r2, h.bel.grown hg h.bel.size (fun k e => (hr k e).1), h.lb⟩
theorem LaySt.gr {size : Int} {w : World} {b : Nat} {l : List UInt8} {W W' : World} (h : LaySt size w b l W) (g : Gr W W') : LaySt size w b l W' := h.grown (gr_grown g) (fun r e => by cases e)
/-- Behind a write to the builder. -/
theorem LaySt.wrote {size : Int} {w : World} {b : Nat} {l l' : List UInt8} {W W' : World} (h : LaySt size w b l W) (hb : Bld b b l' W') (hbel : Below b W W') (hk : BKept b W W') : LaySt size w b l' W' := by
  have hlb := h.lb
  exact ⟨hb, hk.block h.z (by omega) (by decide), hk.block h.r1 (by omega) (by decide), hk.block h.r2 (by omega) (by decide), h.bel.trans (hbel.mono (by omega)), hlb⟩
def Boxes (Bs : Nat) (W : World) : Prop := (∃ s, W.heap[Bs]? = some (.cells s 22 (0, 0))) ∧ ∃ s, W.heap[Bs + 1]? = some (.cells s 3 (0, 0))
def LayI (size : Int) (L : List ByteArray) (w : World) (b Bs : Nat) (pre : List Nat) (W : World) : Prop :=
  LaySt size w b ((headS size).data.toList ++ blks (pre.map (four L))) W ∧ (∀ j ∈ pre, blkB size (four L j) = true) ∧ Boxes Bs W
theorem Boxes.grown {Bs : Nat} {W W' : World} {row : Option Nat} (h : Boxes Bs W) (hg : W.grownBy W' row) (hr : ∀ r, row = some r → ∃ o : Obj, W.heap[r]? = some o ∧ o.isCells = false) : Boxes Bs W' :=
  ⟨h.1.imp fun _ h => grown_cells hg hr h, h.2.imp fun _ h => grown_cells hg hr h⟩
theorem Boxes.gr {Bs : Nat} {W W' : World} (h : Boxes Bs W) (g : Gr W W') : Boxes Bs W' := ⟨h.1.imp fun _ h => blk_gr h g, h.2.imp fun _ h => blk_gr h g⟩
theorem Boxes.wrote {Bs b : Nat} {W W' : World} (h : Boxes Bs W) (k : BKept b W W') (hb : b < Bs) : Boxes Bs W' :=
  ⟨h.1.imp fun _ h => k.block h (by omega) (by decide), h.2.imp fun _ h => k.block h (by omega) (by decide)⟩
def LayX (size : Int) (L : List ByteArray) (w : World) (c : Code) (pre : List Nat) (W : World) : Prop :=
  c = .ret ∧ layB size L = false ∧ W.heap[w.heap.size + 1]? = some (.cells #[.string ⟨#[]⟩] 9 (0, 0)) ∧ W.heap[w.heap.size + 2]? = some (.cells #[.bool false] 4 (0, 0)) ∧ Below w.heap.size w W
theorem layI_own (size : Int) (L : List ByteArray) (w : World) (b Bs C : Nat) (hC : w.heap.size ≤ C) : OwnFrom C (LayI size L w b Bs) :=
  fun s W W' row hs hg hr => ⟨hs.1.grown hg (fun r e => ⟨Nat.le_trans hC (hr r e).1, (hr r e).2⟩), hs.2.1, hs.2.2.grown hg (fun r e => (hr r e).2)⟩
theorem layX_own (size : Int) (L : List ByteArray) (w : World) (C : Nat) (hC : w.heap.size ≤ C) (c : Code) : OwnFrom C (LayX size L w c) :=
  fun s W W' row hs hg hr => ⟨hs.1, hs.2.1, grown_cells hg (fun r e => (hr r e).2) hs.2.2.1, grown_cells hg (fun r e => (hr r e).2) hs.2.2.2.1, hs.2.2.2.2.grown hg hs.2.2.2.2.size (fun k e => Nat.le_trans hC (hr k e).1)⟩
theorem four_lies {w W : World} {L : List ByteArray} {b off : Nat} (hv : L = [] ∨ SRow w b off L) (g : Gr w W) {j : Nat} (hj : 4 * j < L.length) : Lies W (fourV b off L.length j) (four L j) := by
  have hl := four_length L j
  refine ⟨some ⟨b, off + 4 * j, none⟩, min 4 (L.length - 4 * j), by unfold fourV; rw [hl], by omega, .inr ⟨b, off + 4 * j, rfl, ?_⟩⟩
  rcases hv with rfl | hr
  · simp at hj
  · have hr' := hr.gr g
    refine ⟨hr'.1, fun i x hi => ?_⟩
    have hx : L[4 * j + i]? = some x := by
      unfold four at hi
      have hlt := (List.getElem?_eq_some_iff.1 hi).1
      rw [List.getElem?_take_of_lt (by rw [List.length_take] at hlt; omega), List.getElem?_drop] at hi
      exact hi
    have := hr'.2 _ x hx
    rwa [show off + (4 * j + i) = off + 4 * j + i by omega] at this
theorem lay_start (w : World) (size : Int) {u : World} (g : Gr (((w.alloc (.cells #[.int .i64 size] 3)).alloc (.cells #[.string ⟨#[]⟩] 9)).alloc (.cells #[.bool false] 4)) u) :
    LaySt size w u.heap.size [] (u.alloc (.cells #[.pointer none, .slice none 0 0] 130)) := by
  have h0 : (((w.alloc (.cells #[.int .i64 size] 3)).alloc (.cells #[.string ⟨#[]⟩] 9)).alloc (.cells #[.bool false] 4)).heap[w.heap.size]? = some (.cells #[.int .i64 size] 3 (0, 0)) :=
    (Below.heap_alloc _ _ _ (by simp; omega)).trans ((Below.heap_alloc _ _ _ (by simp)).trans (heap_alloc_new w _))
  have h1 : (((w.alloc (.cells #[.int .i64 size] 3)).alloc (.cells #[.string ⟨#[]⟩] 9)).alloc (.cells #[.bool false] 4)).heap[w.heap.size + 1]? = some (.cells #[.string ⟨#[]⟩] 9 (0, 0)) := by
    refine (Below.heap_alloc _ _ _ (by simp)).trans ?_
    have := heap_alloc_new (w.alloc (.cells #[.int .i64 size] 3)) (.cells #[.string ⟨#[]⟩] 9)
    rwa [World.size_alloc] at this
  have h2 : (((w.alloc (.cells #[.int .i64 size] 3)).alloc (.cells #[.string ⟨#[]⟩] 9)).alloc (.cells #[.bool false] 4)).heap[w.heap.size + 2]? = some (.cells #[.bool false] 4 (0, 0)) := by
    have := heap_alloc_new ((w.alloc (.cells #[.int .i64 size] 3)).alloc (.cells #[.string ⟨#[]⟩] 9)) (.cells #[.bool false] 4)
    rwa [World.size_alloc, World.size_alloc] at this
  have hs := g.size
  simp only [World.size_alloc] at hs
  have ga : Gr u (u.alloc (.cells #[.pointer none, .slice none 0 0] 130)) := gral _ _
  have gg : Gr w (((w.alloc (.cells #[.int .i64 size] 3)).alloc (.cells #[.string ⟨#[]⟩] 9)).alloc (.cells #[.bool false] 4)) := ((gral _ _).trans (gral _ _)).trans (gral _ _)
  exact ⟨bld_new u, blk_gr (blk_gr h0 g) ga, blk_gr (blk_gr h1 g) ga, blk_gr (blk_gr h2 g) ga, (gg.trans g).trans ga, by omega⟩
theorem gr_keeps {C : Nat} {A B : World} (g : Gr A B) : KeepsFrom C A B := ⟨g.size, fun k o _ hk _ => blk_gr hk g⟩
theorem set_keeps {C : Nat} (A : World) (p : Addr) (v : Value) : KeepsFrom C A (A.setCell p v) := (KeepsOthers.setCell A p v).from C
theorem chunkK_t {Bs Bn : Nat} {A B C : World} (h : ChunkKeep Bs Bn A B) (k : ChunkKeep Bs Bn B C) : ChunkKeep Bs Bn A C := ⟨Nat.le_trans h.1 k.1, k.2.1.trans h.2.1, k.2.2.trans h.2.2⟩
theorem chunkK_b {Bs Bn N : Nat} (h1 : Bs < N) (h2 : Bn < N) (W : World) (l : Nat) (o o' : Obj) (hl : N ≤ l) (h : W.heap[l]? = some o) (_ : o.isCells = false) : ChunkKeep Bs Bn W (W.putObj l o') :=
  ⟨by simp, World.putObj_heap_other (by omega), World.putObj_heap_other (by omega)⟩
theorem chunkK_gr {Bs Bn : Nat} {A B : World} (g : Gr A B) (h1 : Bs < A.heap.size) (h2 : Bn < A.heap.size) : ChunkKeep Bs Bn A B := ⟨g.size, g.block Bs h1, g.block Bn h2⟩
/-- Both boxes of the iterator, and the builder's other neighbours, stand behind a write. -/
theorem chunkK_w {Bs b : Nat} {A B : World} (h : BKept b A B) (hs : A.heap.size ≤ B.heap.size) (hx : Boxes Bs A) (hb : b < Bs) : ChunkKeep Bs (Bs + 1) A B := by
  obtain ⟨⟨s1, h1⟩, ⟨s2, h2⟩⟩ := hx
  exact ⟨hs, (h.block h1 (by omega) (by decide)).trans h1.symm, (h.block h2 (by omega) (by decide)).trans h2.symm⟩
theorem blk_le {size : Int} {p : List ByteArray} (h : blkB size p = true) : (cl (blk p)).size ≤ 261 := by
  obtain ⟨n, hn, _, h2, _⟩ := blk_cl h
  omega
theorem blks_le {size : Int} : ∀ ps : List (List ByteArray), (∀ p ∈ ps, blkB size p = true) → (blks ps).length ≤ 261 * ps.length
  | [], _ => by simp [blks_nil]
  | p :: ps, h => by
    have h1 := blk_le (h p (by simp))
    have h2 := blks_le ps fun q hq => h q (by simp [hq])
    rw [blks_cons, List.length_append, data_length, List.length_cons]
    omega
theorem lay_len {size : Int} {L : List ByteArray} {pre : List Nat} (h : ∀ j ∈ pre, blkB size (four L j) = true) {N : Nat} (hN : pre.length ≤ N) : ((headS size).data.toList ++ blks (pre.map (four L))).length ≤ 11 + 261 * N := by
  have := blks_le (size := size) (pre.map (four L)) (fun p hp => by obtain ⟨j, hj, rfl⟩ := List.mem_map.1 hp; exact h j hj)
  rw [List.length_map] at this
  rw [List.length_append, headS_length]
  omega
theorem layB_no {size : Int} {L : List ByteArray} {x : Nat} (hs : sizeB size = true) (hx : 4 * x < L.length) (h : blkB size (four L x) = false) : layB size L = false := by
  cases hb : layB size L
  · rfl
  · rw [four_blk hb (show x < cnt4 L by unfold cnt4; omega)] at h; cases h
theorem layB_yes {size : Int} {L : List ByteArray} (hs : sizeB size = true) (h : ∀ j ∈ List.range (cnt4 L), blkB size (four L j) = true) : layB size L = true := by
  unfold layB
  rw [hs, Bool.true_and]
  refine allB_iff.2 fun s hsl => ?_
  rw [← ups_all L] at hsl
  obtain ⟨p, hp, hsp⟩ := List.mem_flatten.1 hsl
  unfold ups at hp
  obtain ⟨j, hj, rfl⟩ := List.mem_map.1 hp
  exact (blk_parts (h j hj)).2.2 s hsp
theorem peB_len {n : Nat} (h : n ≤ 1000000) : peB (n : Int) = true := by unfold peB; rw [decide_eq_true_iff]; omega
theorem set_heap {W : World} {k i : Nat} {c : Array Value} {T : TypeId} {v : Value} (h : W.heap[k]? = some (.cells c T (0, 0))) (hv : c.setIfInBounds i v = c) : (W.setCell ⟨k, i, none⟩ v).heap[k]? = some (.cells c T (0, 0)) := by
  have := blk_set h i v
  rwa [hv] at this
theorem put_blk {W : World} {D k : Nat} {c : Array Value} {T : TypeId} {fz : Nat × Nat} {o o' : Obj} (h : W.heap[k]? = some (.cells c T fz)) (hK : W.heap[D]? = some o) (ho : o.isCells = false) : (W.putObj D o').heap[k]? = some (.cells c T fz) :=
  (World.putObj_heap_other (fun e => by subst e; rw [h] at hK; cases hK; cases ho)).trans h
theorem put_below {w W : World} {D : Nat} {o : Obj} (h : Below w.heap.size w W) (hD : w.heap.size ≤ D) (hK : W.heap[D]? = some o) (o' : Obj) : Gr w (W.putObj D o') :=
  Below.grown h (grownBy_putObj' W D o') h.size (fun k e => by cases e; exact hD)
end Go.Proofs.YtcpaaenjfljocaaGreat
/- The contract of the document's own Lay. -/
namespace Go.Proofs.YtcpaaenjfljocaaGreat
open Go.RowKit CrcPlain OctPlain FramePlain RecPlain
set_option linter.unusedVariables false
set_option linter.unusedSimpArgs false
theorem all_none (a : Option Addr) (c : Nat) (size : Int) (w : World) :
    Calls Tryz.prog 57 #[.int .i64 size, .slice a 0 c] w fun e w' => e = .returned (.bool true) ∧ w = w' := by
  go_enter Tryz.func57, Tryz.ntmps57
  go_wp2_with fail
  go_rounds 1
  go_ret
  exact ⟨rfl, rfl⟩
theorem rall_c {w : World} {v : Value} {l : List ByteArray} (h : Lies w v l) (size : Int) (hk : I64 size) (hl : l.length ≤ 1000) :
    Calls Tryz.prog 57 #[.int .i64 size, v] w fun e w' => e = .returned (.bool (allB size l)) ∧ w = w' := by
  obtain ⟨a, c, rfl, hc, h⟩ := h
  rcases h with rfl | ⟨b, off, rfl, hr⟩
  · exact all_none a c size w
  · exact all_c b off c l size hk hl w hr
theorem mid_run (b off n c i e : Nat) (h1 : 1 ≤ e) (h2 : i + e ≤ n) (h3 : n ≤ c) (w : World) :
    (Instr.slice 22 (.slice (some ⟨b, off, none⟩) n c) (some (.int .i64 (i : Int))) (some (.int .i64 ((i : Int) + (e : Int)))) none).run Tryz.prog w = .ok (.slice (some ⟨b, off + i, none⟩) e (c - i)) w := by
  have hne : c ≠ i := by omega
  have k1 : (i : Int) + (e : Int) ≤ (c : Int) := by omega
  have k2 : (i : Int) ≤ (i : Int) + (e : Int) := by omega
  have k3 : ((i : Int) + (e : Int)).toNat = i + e := by omega
  have k4 : (0 : Int) ≤ (i : Int) + (e : Int) := by omega
  simp [Instr.slice, Instr.sliceBounds, run_underlying Tryz.underlying22, run_underlying Tryz.underlying9, go_sem, sliced, hne, k1, k2, k3, k4, addr_add, show Tryz.prog.cellsOf 9 = 1 by kernel_rfl]
theorem four_liesC {w W : World} {L : List ByteArray} {b off c e : Nat} (hr : SRow w b off L) (g : Gr w W) {j : Nat} (he : e = min 4 (L.length - 4 * j)) (hj : 4 * j < L.length) (hc : e ≤ c) : Lies W (.slice (some ⟨b, off + 4 * j, none⟩) e c) (four L j) := by
  obtain ⟨a', c', h1, h2, h3⟩ := four_lies (.inr hr) g hj
  unfold fourV at h1
  have hl := four_length L j
  rw [← he] at hl
  injection h1 with e1 e2 e3
  subst e1
  exact ⟨_, c, by rw [hl], by omega, h3⟩
def RlayAt (size : Int) (L : List ByteArray) (n : Nat) (w : World) (s i : Value) (wr : World) : Prop :=
  ∃ k : Nat, 4 * k ≤ n + 3 ∧ i = .int .i64 ((4 * k : Nat) : Int) ∧ s = .string (bs ((headS size).data.toList ++ blks (ups L k))) ∧ Below w.heap.size w wr
theorem ups_bound {size : Int} {L : List ByteArray} (hB : layB size L = true) {k : Nat} (hk : k ≤ cnt4 L) : (bs ((headS size).data.toList ++ blks (ups L k))).size ≤ 11 + 261 * k := by
  rw [bs_size]
  have := lay_len (size := size) (L := L) (pre := List.range k) (N := k) (fun j hj => four_blk hB (by have := List.mem_range.1 hj; omega)) (by rw [List.length_range]; omega)
  exact this
set_option maxHeartbeats 4000000 in
theorem rlay_c {w : World} {v : Value} {L : List ByteArray} (h : Lies w v L) (size : Int) (hk : I64 size) (hl : L.length ≤ 1000) (hz : ∀ s ∈ L, s.size ≤ 1000) :
    Calls Tryz.prog 30 #[.int .i64 size, v] w fun e w' => e = .returned (.tuple #[.string (layR size L), .bool (layB size L)]) ∧ Gr w w' := by
  have P := fun w => rputhead_c size hk w
  cases hs : sizeB size
  · have hB : layB size L = false := by unfold layB; rw [hs]; rfl
    rw [hs, headR_no hs] at P
    have HB := Lib.hid hB
    have HR := Lib.hid (layR_no hB)
    obtain ⟨a, c, rfl, _⟩ := h
    clear hs hB
    go_enter Tryz.func30, Tryz.ntmps30
    go_wp2_with fail
    refine (P _).mono ?_; rintro e u ⟨rfl, g⟩
    go_wp2_with fail
    go_ret2
    exact ⟨ret_sb HR.out.symm HB.out.symm, g⟩
  · rw [hs, headR_yes hs] at P
    cases ha : allB size L
    · have hB : layB size L = false := by unfold layB; rw [ha, Bool.and_false]
      have HB := Lib.hid hB
      have HR := Lib.hid (layR_no hB)
      have A := fun (u : World) (g : Gr w u) => rall_c (h.gr g) size hk hl
      rw [ha] at A
      have AA := Lib.hid A
      obtain ⟨a, c, rfl, _⟩ := h
      obtain ⟨hd, hhd⟩ : ∃ hd, hd = headS size := ⟨_, rfl⟩
      rw [← hhd] at P
      clear hs hB ha hhd A
      go_enter Tryz.func30, Tryz.ntmps30
      go_wp2_with fail
      refine (P _).mono ?_; rintro e u ⟨rfl, g⟩
      go_wp2_with fail
      refine (AA.out _ g).mono ?_; rintro e u2 ⟨rfl, rfl⟩
      go_wp2_with fail
      go_ret2
      exact ⟨ret_sb HR.out.symm HB.out.symm, g⟩
    · have hB : layB size L = true := by unfold layB; rw [ha, hs]; rfl
      have HB := Lib.hid hB
      have A := fun (u : World) (g : Gr w u) => rall_c (h.gr g) size hk hl
      rw [ha] at A
      have AA := Lib.hid A
      have HL := Lib.hid h
      obtain ⟨a, c, rfl, hc, h⟩ := h
      obtain ⟨n, hn⟩ : ∃ n, L.length = n := ⟨_, rfl⟩
      have HN := Lib.hid hn
      have H0 : 1 ≤ n → ∃ b off, a = some ⟨b, off, none⟩ ∧ SRow w b off L := fun h1 => h.elim (fun h0 => by rw [h0] at hn; simp at hn; omega) id
      have H := Lib.hid H0
      rw [hn] at hl hc HL AA ⊢
      have HZ := Lib.hid hz
      obtain ⟨hd, hhd⟩ : ∃ hd, hd = headS size := ⟨_, rfl⟩
      have hd11 : hd.size = 11 := by rw [hhd, headS_size]
      rw [← hhd] at P
      have HD := Lib.hid hhd
      clear hs hB ha hhd A hn h H0 hz
      go_enter Tryz.func30, Tryz.ntmps30
      go_wp2_with fail
      refine (P _).mono ?_; rintro e u ⟨rfl, g⟩
      go_wp2_with fail
      refine (AA.out _ g).mono ?_; rintro e u2 ⟨rfl, rfl⟩
      go_wp2_with fail
      go_loopw [6, 8] (fun s i wr => RlayAt size L n w s i wr) (fun _ i _ => n + 3 - (intOf i).toNat)
      case atStart => exact ⟨0, by omega, rfl, by rw [← HD.out]; simp [ups, blks_nil, bs_toList], g⟩
      case round =>
        obtain ⟨k, hk4, rfl, rfl, hb⟩ := hrel
        obtain ⟨i, hi⟩ : ∃ i, i = 4 * k := ⟨_, rfl⟩
        rw [← hi] at hk4 ⊢
        have HI := Lib.hid hi
        by_cases hlt : i < n
        · obtain ⟨b, off, rfl, hr⟩ := H.out (by omega)
          obtain ⟨e, he⟩ : ∃ e, e = min 4 (n - i) := ⟨_, rfl⟩
          have hmr := mid_run b off n c i e (by omega) (by omega) hc
          have hli := four_liesC hr (Gr.of hb) (c := c - i) (e := e) (j := k) (by have := HN.out; omega) (by have := HN.out; omega) (by omega)
          rw [← hi] at hli
          have hbk := four_blk HB.out (show k < cnt4 L by unfold cnt4; rw [HN.out]; omega)
          have F := rfput_c hli size hk (by have := four_le L k; omega)
          rw [hbk, blkS_yes hbk] at F
          have hmin : min ((i : Int) + 4) (n : Int) = (i : Int) + (e : Int) := by omega
          have hbd := ups_bound HB.out (show k ≤ cnt4 L by unfold cnt4; rw [HN.out]; omega)
          have hbz := blk_le hbk
          have hnext : bs ((headS size).data.toList ++ blks (ups L k)) ++ cl (blk (four L k)) = bs ((headS size).data.toList ++ blks (ups L (k + 1))) := by
            apply ext_toList
            rw [app_data, bs_data, bs_data, ups_succ, blks_app, List.append_assoc]
            simp [blks]
          have HX := Lib.hid hnext
          have HE := Lib.hid he
          generalize bs ((headS size).data.toList ++ blks (ups L k)) = S at hbd HX ⊢
          generalize cl (blk (four L k)) = B at F hbz HX
          have hi2 : (i : Int) ≤ 1010 := by omega
          have hS2 : (S.size : Int) ≤ 66000 := by omega
          have hB2 : (B.size : Int) ≤ 261 := by omega
          clear hi he hr hli hbk hnext hbd hbz hl hk4
          go_wp2_with fail
          refine F.mono ?_; rintro e2 u3 ⟨rfl, g3⟩
          go_wp2_with fail
          refine ⟨⟨k + 1, by have := HI.out; omega, by have := HI.out; congr 1; omega, by rw [HX.out], (Gr.of hb).trans g3⟩, ?_⟩
          simp [intOf]; omega
        · have hkc : k = cnt4 L := by unfold cnt4; rw [HN.out]; omega
          have hbd := ups_bound HB.out (show k ≤ cnt4 L by omega)
          have SC := rsum_c (HL.out.gr (Gr.of hb)) (by have := HN.out; omega) HZ.out
          have hpb := peB_len (show L.length ≤ 1000000 by have := HN.out; omega)
          have PE := fun w => rfputend_c (L.length : Int) (by have := HN.out; unfold I64; omega) (sumN L) (sumN_lt L) w
          rw [hpb, peS_yes hpb, Int.toNat_natCast] at PE
          have hze : (cl (endS L.length (sumN L))).size = 17 := by rw [cl_size, endS_size]
          have hfin : bs ((headS size).data.toList ++ blks (ups L k)) ++ cl (endS L.length (sumN L)) = layR size L := by
            rw [layR_yes HB.out, hkc]
            apply ext_toList
            rw [app_data, bs_data, bs_data]
            unfold layL endL
            rw [List.append_assoc]
          have HF := Lib.hid hfin
          generalize bs ((headS size).data.toList ++ blks (ups L k)) = S at hbd HF ⊢
          generalize cl (endS L.length (sumN L)) = E at PE hze HF
          have hS2 : (S.size : Int) ≤ 66000 := by omega
          have hE2 : (E.size : Int) ≤ 17 := by omega
          have hi2 : ¬ (i : Int) < (n : Int) := by omega
          clear hi hkc hbd hpb hfin hze hl hk4
          go_wp2_with fail
          refine SC.mono ?_; rintro e2 u3 ⟨rfl, g3⟩
          go_wp2_with fail
          refine (PE _).mono ?_; rintro e2 u4 ⟨rfl, g4⟩
          go_wp2_with fail
          go_ret2
          exact ⟨ret_sb HF.out HB.out.symm, ((Gr.of hb).trans g3).trans g4⟩
end Go.Proofs.YtcpaaenjfljocaaGreat
/- The chapter's example of the writer; writers that nobody made. -/
namespace Go.Proofs.YtcpaaenjfljocaaGreat
open Go.RowKit FsPlain CrcPlain OctPlain FramePlain RecPlain WrPlain
set_option linter.unusedVariables false
set_option linter.unusedSimpArgs false
theorem w_drop_nil (w : World) : Calls Tryz.prog 20 #[.pointer none] w fun e w' => e = .returned (.tuple #[]) ∧ w = w' := by
  go_enter Tryz.func20, Tryz.ntmps20
  go_wp2_with fail
  refine (wopen_nil _).mono ?_; rintro e w2 ⟨rfl, rfl⟩
  go_wp2_with fail
  exact bodyPost_ret (v := .tuple #[]) (results_none rfl _ _ _) rfl ⟨rfl, rfl⟩
theorem w_put_nil (r : ByteArray) (w : World) : Calls Tryz.prog 15 #[.pointer none, .string r] w fun e w' => e = .returned (.int .i64 14) ∧ w = w' := by
  go_enter Tryz.func15, Tryz.ntmps15
  go_wp2_with fail
  refine (wopen_nil _).mono ?_; rintro e w2 ⟨rfl, rfl⟩
  go_wp2_with fail
  go_ret
  exact ⟨rfl, rfl⟩
theorem w_count_nil (w : World) : Calls Tryz.prog 17 #[.pointer none] w fun e w' => e = .returned (.int .i64 0) ∧ w = w' := by
  go_enter Tryz.func17, Tryz.ntmps17
  go_wp2_with fail
  go_ret
  exact ⟨rfl, rfl⟩
theorem w_close_none (a : Value) (w : World) (C : ∀ u, Gr w u → Calls Tryz.prog 45 #[a] u fun e w' => e = .returned (.bool false) ∧ u = w') :
    Calls Tryz.prog 22 #[a] w fun e w' => e = .returned (.tuple #[.agg #[.int .i64 0, .int .u32 0], .int .i64 14]) ∧ Gr w w' := by
  have CO := Lib.hid C
  have g0 : Gr w (w.alloc (.cells #[.int .i64 0, .int .u32 0] 50)) := (Gr.refl w).alloc (Nat.le_refl _) _
  clear C
  go_enter Tryz.func22, Tryz.ntmps22
  go_wp2_with fail
  refine (CO.out _ g0).mono ?_; rintro e w2 ⟨rfl, rfl⟩
  go_wp2_with fail
  refine bodyPost_ret (v := .tuple #[.agg #[.int .i64 0, .int .u32 0], .int .i64 14]) ?_ rfl ⟨rfl, g0⟩
  rw [results_cell_tmp Tryz.results22]
  simp [go_sem]
theorem must6_c {w : World} {v : Value} {L : List ByteArray} (h : Lies w v L) (size : Int) (hk : I64 size) (hl : L.length ≤ 1000) (hz : ∀ s ∈ L, s.size ≤ 1000) :
    Calls Tryz.prog 32 #[.int .i64 size, v] w fun e w' => e = .returned (.string (layR size L)) ∧ Gr w w' := by
  have C := Lib.hid (rlay_c h size hk hl hz)
  clear h
  go_enter Tryz.func32, Tryz.ntmps32
  go_wp2_with fail
  refine C.out.mono ?_; rintro e u ⟨rfl, g⟩
  go_wp2_with fail
  go_ret
  exact ⟨rfl, g⟩
/-! The example. -/
def exS : St := (createM (fresh 100) ⟨9, 0, 0⟩ nmA 1).1
def exB : Bu := (createM (fresh 100) ⟨9, 0, 0⟩ nmA 1).2.1
def ex1 : M3 := ⟨exS, exB, newWs nmA 1⟩
def ex2 : M3 := (putM ex1 nmA).1
def ex3 : M3 := (closeM ex2).1
theorem ex_c : (createM (fresh 100) ⟨9, 0, 0⟩ nmA 1).2.2 = 0 := by kernel_rfl
theorem ex_p : (putM ex1 nmA).2 = 0 := by kernel_rfl
theorem ex_k : (closeM ex2).2 = 0 := by kernel_rfl
theorem ex_n : ex2.x.all.length = 1 := by kernel_rfl
theorem ex_2 : ex2.s.calls = 2 := by kernel_rfl
theorem ex_3 : ex3.s.calls = 5 := by kernel_rfl
theorem ex_s : sizeR ex3.s nmA.data.toList = (34, 0) := by kernel_rfl
theorem ex_r : readR ex3.s.call nmA.data.toList 0 34 = ((layR 1 [nmA]).data.toList, 0) := by kernel_rfl
theorem ex_ok : ex1.ok := createM_ok (fresh_ok (by decide) (by decide)) ⟨by decide, by decide, by decide, by decide⟩ nmA_size nmA_right ex_c
theorem ex_v : closeV ex2 (closeM ex2).2 = .tuple #[.agg #[.int .i64 1, .int .u32 (sumN ex2.x.all : Nat)], .int .i64 0] := by
  rw [ex_k]; unfold closeV; rw [ex_n]; rfl
set_option maxRecDepth 100000 in
set_option maxHeartbeats 4000000 in
theorem awake8_c (w : World) : Calls Tryz.prog 6 #[] w fun e w' => e = .returned (.bool true) ∧ Gr w w' := by
  have C1 := Lib.hid (new_c 100 (by decide) (by decide))
  have C2 := Lib.hid (fun u => bu_new 9 u (by decide) (by decide))
  have CC0 : ∀ p pb u B, stars [DiskA p (fresh 100), BuA pb ⟨9, 0, 0⟩] u B → Calls Tryz.prog 12 #[.pointer (some ⟨p, 0, none⟩), .pointer (some ⟨pb, 0, none⟩), .string nmA, .int .i64 1] u fun e w' => ∃ x, Does u B (W3 x p pb ex1) (.tuple #[.pointer (some ⟨x, 0, none⟩), .int .i64 0]) e w' := by
    intro p pb u B h
    refine (w_create p pb (fresh 100) ⟨9, 0, 0⟩ nmA 1 (by unfold I64; omega) nmA_size nmA_right (by decide) u B h).mono ?_
    rintro e w' (⟨_, x, hd⟩ | ⟨h0, _⟩)
    · exact ⟨x, hd⟩
    · exact absurd ex_c h0
  have CP0 : ∀ x p pb u B, W3 x p pb ex1 u B → Calls Tryz.prog 15 #[.pointer (some ⟨x, 0, none⟩), .string nmA] u (Does u B (W3 x p pb ex2) (.int .i64 0)) := by
    intro x p pb u B h
    have := w_put x p pb ex1 nmA ex_ok (by decide) (by decide) u B h
    rw [ex_p] at this
    exact this
  have CK0 : ∀ x p pb u B, W3 x p pb ex2 u B → Calls Tryz.prog 22 #[.pointer (some ⟨x, 0, none⟩)] u (Does u B (W3 x p pb ex3) (.tuple #[.agg #[.int .i64 1, .int .u32 (sumN ex2.x.all : Nat)], .int .i64 0])) := by
    intro x p pb u B h
    have := w_close x p pb ex2 (ok_putM ex_ok nmA) (by rw [ex_n]; decide) (by rw [ex_2]; decide) u B h
    rw [ex_v] at this
    exact this
  have CS0 : ∀ p u B, DiskA p ex3.s u B → Calls Tryz.prog 25 #[.pointer (some ⟨p, 0, none⟩), .string nmA] u (Does u B (DiskA p ex3.s.call) (.tuple #[.int .i64 34, .int .i64 0])) := by
    intro p u B h
    have := d_size p ex3.s nmA (by decide) nmA_right (by rw [ex_3]; decide) u B h
    rw [ex_s] at this
    exact this
  have CR0 : ∀ p u B, DiskA p ex3.s.call u B → Calls Tryz.prog 26 #[.pointer (some ⟨p, 0, none⟩), .string nmA, .int .i64 0, .int .i64 34] u (Does u B (DiskA p ex3.s.call.call) (.tuple #[.string (layR 1 [nmA]), .int .i64 0])) := by
    intro p u B h
    have := d_read p ex3.s.call nmA 0 34 (by decide) nmA_right (by show ex3.s.calls + 1 ≤ _; rw [ex_3]; decide) (by decide) (by decide) u B h
    rw [ex_r] at this
    exact this
  have CC := Lib.hid CC0
  have CP := Lib.hid CP0
  have CK := Lib.hid CK0
  have CS := Lib.hid CS0
  have CR := Lib.hid CR0
  obtain ⟨su, hsu⟩ : ∃ su : Nat, su = sumN ex2.x.all := ⟨_, rfl⟩
  obtain ⟨LR, hLR⟩ : ∃ LR, LR = layR 1 [nmA] := ⟨_, rfl⟩
  rw [← hsu] at CK
  rw [← hLR] at CR
  have CM0 : ∀ u, Calls Tryz.prog 32 #[.int .i64 1, .slice (some ⟨u.heap.size, 0, none⟩) 1 1] (u.alloc (.cells #[.string nmA] 9)) fun e w' => e = .returned (.string LR) ∧ Gr u w' := by
    intro u
    rw [hLR]
    refine (must6_c (lies_one u nmA 9) 1 (by unfold I64; omega) (by decide) (fun s hs => by rw [List.mem_singleton.1 hs]; decide)).mono ?_
    rintro e w' ⟨he, g⟩
    exact ⟨he, Gr.trans (b := u.alloc (.cells #[.string nmA] 9)) ((Gr.refl u).alloc (Nat.le_refl _) _) g⟩
  have CM := Lib.hid CM0
  clear CC0 CP0 CK0 CS0 CR0 CM0 hsu hLR
  go_enter Tryz.func6, Tryz.ntmps6
  go_wp2_with fail
  refine (C1.out _).mono ?_; rintro e u1 hb
  obtain ⟨p, B1, rfl, hd1, g1, hn1⟩ := hb
  obtain ⟨E1, q1, n1⟩ := part_new (P := DiskA p (fresh 100)) (L := []) trivial (stars_none w) g1 hd1 hn1
  have Q1 := Lib.hid q1
  have N1 := Lib.hid n1
  clear hd1 g1 hn1 q1 n1
  go_wp2_with fail
  refine (C2.out _).mono ?_; rintro e u2 ⟨rfl, hd2, g2⟩
  obtain ⟨E2, q2, n2⟩ := part_new (P := BuA u1.heap.size ⟨9, 0, 0⟩) (L := [DiskA p (fresh 100)]) ⟨fr_disk _ _, trivial⟩ Q1.out g2 hd2 (fun b hb => by omega)
  obtain ⟨pb, hpb⟩ : ∃ pb, pb = u1.heap.size := ⟨_, rfl⟩
  rw [← hpb] at q2 ⊢
  have q3 : stars [DiskA p (fresh 100), BuA pb ⟨9, 0, 0⟩] u2 E2 := stars_perm (List.Perm.swap _ _ _) q2
  have C3 := Lib.hid (CC.out p pb u2 E2 q3)
  have N2 := Lib.hid (N1.out.trans n2)
  clear hd2 g2 q2 q3 n2 hpb
  go_wp2_with fail
  change Calls _ _ #[_, _, .string nmA, _] _ _
  refine C3.out.mono ?_; rintro e u3 ⟨x, rfl, E3, q3, n3⟩
  have C4 := Lib.hid (CP.out x p pb u3 E3 q3)
  have N3 := Lib.hid (N2.out.trans n3)
  clear q3 n3 C3
  go_wp2_with fail
  change Calls _ _ #[_, .string nmA] _ _
  refine C4.out.mono ?_; rintro e u4 ⟨rfl, E4, q4, n4⟩
  have C5 := Lib.hid (CK.out x p pb u4 E4 q4)
  have N4 := Lib.hid (N3.out.trans n4)
  clear q4 n4 C4
  go_wp2_with fail
  refine C5.out.mono ?_; rintro e u5 ⟨rfl, E5, q5, n5⟩
  have Q5 := Lib.hid q5
  have N5 := Lib.hid (N4.out.trans n5)
  clear q5 n5 C5
  go_wp2_with fail
  obtain ⟨X, hX⟩ : ∃ X, X = u5.alloc (.cells #[.int .i64 1, .int .u32 (su : Nat)] 50) := ⟨_, rfl⟩
  have gX : Gr u5 X := by rw [hX]; exact (Gr.refl u5).alloc (Nat.le_refl _) _
  have hXl : u5.heap.size < X.heap.size := by rw [hX, World.size_alloc]; omega
  have x0 : X.cell? ⟨u5.heap.size, 0, none⟩ = some (.int .i64 1) := by rw [hX, World.cell?_alloc_mark]; rfl
  obtain ⟨q, hq⟩ : ∃ q, q = u5.heap.size := ⟨_, rfl⟩
  have hnq : ¬ E5 q := fun hb => by have := (fr_stars (frs_w3 x p pb ex3)).lo Q5.out q hb; omega
  have q6 := stars_gr (frs_w3 x p pb ex3) Q5.out gX
  have C6 := Lib.hid (does_at (f := 25) 1 rfl (frs_w3 x p pb ex3) q6 fun B2 h2 => CS.out p X B2 h2)
  have N6 := Lib.hid (N5.out.trans (Nx.gr gX))
  rw [← hX, ← hq]
  rw [← hq] at hXl x0
  have HX := Lib.hid hX
  clear hX gX q6 hq
  change Calls _ _ #[_, .string nmA] _ _
  refine C6.out.mono ?_; rintro e u6 ⟨rfl, E6, q6, n6⟩
  have x1 := (n6.only.cell (p := ⟨q, 0, none⟩) hXl hnq).trans x0
  have hnq6 : ¬ E6 q := fun hb => by rcases n6.new q hb with h | h; exact hnq h; omega
  have hX6 := Nat.lt_of_lt_of_le hXl n6.only.size
  have F6 : Frs ([WrA x p pb ex3.x, DiskA p ex3.s, BuA pb ex3.b].set 1 (DiskA p ex3.s.call)) := ⟨fr_wr _ _ _ _, fr_disk _ _, fr_bu _ _, trivial⟩
  have C7 := Lib.hid (does_at (f := 26) 1 rfl F6 q6 fun B2 h2 => CR.out p u6 B2 h2)
  have N7 := Lib.hid (N6.out.trans n6)
  clear q6 n6 C6 F6
  go_wp2_with fail
  change Calls _ _ #[_, .string nmA, _, _] _ _
  refine C7.out.mono ?_; rintro e u7 ⟨rfl, E7, q7, n7⟩
  have x2 := (n7.only.cell (p := ⟨q, 0, none⟩) hX6 hnq6).trans x1
  have hX7 := Nat.lt_of_lt_of_le hX6 n7.only.size
  have G7 := Lib.hid (nx_gr (N7.out.trans n7))
  clear q7 n7 C7 x0 x1 hXl hX6 hnq hnq6
  go_wp2_with fail
  refine (w_drop_nil _).mono ?_; rintro e u8 ⟨rfl, rfl⟩
  go_wp2_with fail
  refine (w_close_none _ _ (fun u _ => wopen_nil u)).mono ?_; rintro e u9 ⟨rfl, g9⟩
  have x9 := (g9.cell (p := ⟨q, 0, none⟩) hX7).trans x2
  have hX9 := Nat.lt_of_lt_of_le hX7 g9.size
  have G9 := Lib.hid (G7.out.trans g9)
  clear x2 hX7 g9
  go_wp2_with fail
  obtain ⟨Y, hY⟩ : ∃ Y, Y = u9.alloc (.cells #[.int .i64 0, .int .u32 0] 50) := ⟨_, rfl⟩
  have gY : Gr u9 Y := by rw [hY]; exact (Gr.refl u9).alloc (Nat.le_refl _) _
  have hYs : u9.heap.size + 1 = Y.heap.size := by rw [hY, World.size_alloc]
  obtain ⟨Z, hZ⟩ : ∃ Z, Z = Y.alloc (.cells #[.pointer none, .string ⟨#[]⟩, .pointer none, .int .i64 0, .slice none 0 0, .int .i64 0, .int .u32 0] 67) := ⟨_, rfl⟩
  have gZ : Gr Y Z := by rw [hZ]; exact (Gr.refl Y).alloc (Nat.le_refl _) _
  have hz0 : Z.cell? ⟨Y.heap.size, 0, none⟩ = some (.pointer none) := by rw [hZ, World.cell?_alloc_mark]; rfl
  have hZl : Y.heap.size < Z.heap.size := by rw [hZ, World.size_alloc]; omega
  have C10 := Lib.hid (w_close_none (.pointer (some ⟨Y.heap.size, 0, none⟩)) Z (fun u g => wopen_no Y.heap.size u ((g.cell (p := ⟨Y.heap.size, 0, none⟩) hZl).trans hz0)))
  have gYZ := gY.trans gZ
  rw [← hY, hYs, ← hZ]
  clear hY hZ gY gZ hz0 hZl hYs
  refine C10.out.mono ?_; rintro e u10 ⟨rfl, g10⟩
  have g910 := gYZ.trans g10
  have x10 := (g910.cell (p := ⟨q, 0, none⟩) hX9).trans x9
  have hX10 := Nat.lt_of_lt_of_le hX9 g910.size
  have G10 := Lib.hid (G9.out.trans g910)
  clear x9 hX9 g10 gYZ g910 C10
  go_wp2_with fail
  obtain ⟨Y, hY⟩ : ∃ Y, Y = u10.alloc (.cells #[.int .i64 0, .int .u32 0] 50) := ⟨_, rfl⟩
  have gY : Gr u10 Y := by rw [hY]; exact (Gr.refl u10).alloc (Nat.le_refl _) _
  have hYs : u10.heap.size + 1 = Y.heap.size := by rw [hY, World.size_alloc]
  have C11 := Lib.hid (CM.out Y)
  rw [← hY, hYs]
  clear hY hYs
  refine C11.out.mono ?_; rintro e u11 ⟨rfl, g11⟩
  have G11 := Lib.hid (G10.out.trans (gY.trans g11))
  clear g11 gY C11 x10 hX10
  go_wp2_with fail
  refine (w_put_nil _ _).mono ?_; rintro e u12 ⟨rfl, rfl⟩
  go_wp2_with fail
  refine (w_count_nil _).mono ?_; rintro e u12 ⟨rfl, rfl⟩
  go_wp2_with fail
  go_ret
  exact ⟨rfl, G11.out⟩
end Go.Proofs.YtcpaaenjfljocaaGreat
