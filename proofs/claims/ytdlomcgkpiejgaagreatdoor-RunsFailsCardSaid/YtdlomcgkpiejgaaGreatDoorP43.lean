/- In one text: RecLay, RecBlocks. -/
import Derived.Test.YtdlomcgkpiejgaaGreatDoorP42
import Derived.Test.YtdlomcgkpiejgaaGreatDoorP12
import Derived.Test.YtdlomcgkpiejgaaGreatDoorP08
/- The contract of Lay. -/
namespace Go.Proofs.YtdlomcgkpiejgaaGreatDoor
open Go.RowKit Go.Shelf CrcPlain OctPlain FramePlain RecPlain
set_option linter.unusedVariables false
set_option linter.unusedSimpArgs false
set_option maxRecDepth 20000
attribute [local go_sem] Oper.semAt_some
theorem grown_cells {W W' : World} {row : Option Nat} (hg : W.grownBy W' row) (hr : ∀ r, row = some r → ∃ o : Obj, W.heap[r]? = some o ∧ o.isCells = false) {k : Nat} {c : Array Value} {T : TypeId} {fz : Nat × Nat} (h : W.heap[k]? = some (.cells c T fz)) : W'.heap[k]? = some (.cells c T fz) :=
  (hg.block k (blk_lt h) (fun e => by obtain ⟨o, ho, hc⟩ := hr k e.symm; rw [h] at ho; cases ho; cases hc)).trans h
theorem Bld.grown {n0 b : Nat} {l : List UInt8} {W W' : World} {row : Option Nat} (h : Bld n0 b l W) (hg : W.grownBy W' row) (hr : ∀ r, row = some r → ∃ o : Obj, W.heap[r]? = some o ∧ o.isCells = false) : Bld n0 b l W' := by
  have one : ∀ p, Lib.BuilderAtF 184 5 n0 b p (Lib.byteCells l) W → Lib.BuilderAtF 184 5 n0 b p (Lib.byteCells l) W' := by
    rintro p ⟨h1, v, hb, ho, hv⟩
    refine ⟨h1, v, grown_cells hg hr hb, ho.kept hg ?_, hv⟩
    rcases ho.2 with ⟨rfl, _⟩ | ⟨g, cap, cur, fz, rfl, _, hgb, _⟩
    · exact .inl rfl
    · refine .inr fun e => ?_
      obtain ⟨o, h1, h2⟩ := hr g (by simpa [Value.ownBlock] using e.symm)
      rw [hgb] at h1; cases h1; cases h2
  exact ⟨h.1.imp (one _) (one _), Nat.le_trans h.2 hg.size⟩
theorem Bld.gr {n0 b : Nat} {l : List UInt8} {W W' : World} (h : Bld n0 b l W) (g : Gr W W') : Bld n0 b l W' := h.grown (gr_grown g) (fun r e => by cases e)
/-- Where Lay is: what its builder holds, and its own variables. -/
structure LaySt (size : Int) (w : World) (b : Nat) (l : List UInt8) (W : World) : Prop where
  bld : Bld b b l W
  z : W.heap[w.heap.size]? = some (.cells #[.int .i64 size] 3 (0, 0))
  r1 : W.heap[w.heap.size + 1]? = some (.cells #[.string ⟨#[]⟩] 9 (0, 0))
  r2 : W.heap[w.heap.size + 2]? = some (.cells #[.bool false] 4 (0, 0))
  bel : Below w.heap.size w W
  lb : w.heap.size + 3 ≤ b
theorem LaySt.grown {size : Int} {w : World} {b : Nat} {l : List UInt8} {W W' : World} {row : Option Nat} (h : LaySt size w b l W) (hg : W.grownBy W' row) (hr : ∀ r, row = some r → w.heap.size ≤ r ∧ ∃ o : Obj, W.heap[r]? = some o ∧ o.isCells = false) : LaySt size w b l W' :=
  ⟨h.bld.grown hg (fun r e => (hr r e).2), grown_cells hg (fun r e => (hr r e).2) h.z, grown_cells hg (fun r e => (hr r e).2) h.r1, grown_cells hg (fun r e => (hr r e).2) h.r2, h.bel.grown hg h.bel.size (fun k e => (hr k e).1), h.lb⟩
theorem LaySt.gr {size : Int} {w : World} {b : Nat} {l : List UInt8} {W W' : World} (h : LaySt size w b l W) (g : Gr W W') : LaySt size w b l W' := h.grown (gr_grown g) (fun r e => by cases e)
/-- Behind a write to the builder. -/
theorem LaySt.wrote {size : Int} {w : World} {b : Nat} {l l' : List UInt8} {W W' : World} (h : LaySt size w b l W) (hb : Bld b b l' W') (hbel : Below b W W') (hk : BKept b W W') : LaySt size w b l' W' := by
  have hlb := h.lb
  exact ⟨hb, hk.block h.z (by omega) (by decide), hk.block h.r1 (by omega) (by decide), hk.block h.r2 (by omega) (by decide), h.bel.trans (hbel.mono (by omega)), hlb⟩
def Boxes (Bs : Nat) (W : World) : Prop := (∃ s, W.heap[Bs]? = some (.cells s 22 (0, 0))) ∧ ∃ s, W.heap[Bs + 1]? = some (.cells s 3 (0, 0))
def LayI (size : Int) (L : List ByteArray) (w : World) (b Bs : Nat) (pre : List Nat) (W : World) : Prop :=
  LaySt size w b ((headS size).data.toList ++ blks (pre.map (four L))) W ∧ (∀ j ∈ pre, blkB size (four L j) = true) ∧ Boxes Bs W
theorem Boxes.grown {Bs : Nat} {W W' : World} {row : Option Nat} (h : Boxes Bs W) (hg : W.grownBy W' row) (hr : ∀ r, row = some r → ∃ o : Obj, W.heap[r]? = some o ∧ o.isCells = false) : Boxes Bs W' :=
  ⟨h.1.imp fun _ h => grown_cells hg hr h, h.2.imp fun _ h => grown_cells hg hr h⟩
theorem Boxes.gr {Bs : Nat} {W W' : World} (h : Boxes Bs W) (g : Gr W W') : Boxes Bs W' := ⟨h.1.imp fun _ h => blk_gr h g, h.2.imp fun _ h => blk_gr h g⟩
theorem Boxes.wrote {Bs b : Nat} {W W' : World} (h : Boxes Bs W) (k : BKept b W W') (hb : b < Bs) : Boxes Bs W' :=
  ⟨h.1.imp fun _ h => k.block h (by omega) (by decide), h.2.imp fun _ h => k.block h (by omega) (by decide)⟩
def LayX (size : Int) (L : List ByteArray) (w : World) (c : Code) (pre : List Nat) (W : World) : Prop :=
  c = .ret ∧ layB size L = false ∧ W.heap[w.heap.size + 1]? = some (.cells #[.string ⟨#[]⟩] 9 (0, 0)) ∧ W.heap[w.heap.size + 2]? = some (.cells #[.bool false] 4 (0, 0)) ∧ Below w.heap.size w W
theorem layI_own (size : Int) (L : List ByteArray) (w : World) (b Bs C : Nat) (hC : w.heap.size ≤ C) : OwnFrom C (LayI size L w b Bs) :=
  fun s W W' row hs hg hr => ⟨hs.1.grown hg (fun r e => ⟨Nat.le_trans hC (hr r e).1, (hr r e).2⟩), hs.2.1, hs.2.2.grown hg (fun r e => (hr r e).2)⟩
theorem layX_own (size : Int) (L : List ByteArray) (w : World) (C : Nat) (hC : w.heap.size ≤ C) (c : Code) : OwnFrom C (LayX size L w c) :=
  fun s W W' row hs hg hr => ⟨hs.1, hs.2.1, grown_cells hg (fun r e => (hr r e).2) hs.2.2.1, grown_cells hg (fun r e => (hr r e).2) hs.2.2.2.1, hs.2.2.2.2.grown hg hs.2.2.2.2.size (fun k e => Nat.le_trans hC (hr k e).1)⟩
theorem four_lies {w W : World} {L : List ByteArray} {b off : Nat} (hv : L = [] ∨ SRow w b off L) (g : Gr w W) {j : Nat} (hj : 4 * j < L.length) : Lies W (fourV b off L.length j) (four L j) := by
  have hl := four_length L j
  refine ⟨some ⟨b, off + 4 * j, none⟩, min 4 (L.length - 4 * j), by unfold fourV; rw [hl], by omega, .inr ⟨b, off + 4 * j, rfl, ?_⟩⟩
  rcases hv with rfl | hr
  · simp at hj
  · have hr' := hr.gr g
    refine ⟨hr'.1, fun i x hi => ?_⟩
    have hx : L[4 * j + i]? = some x := by
      unfold four at hi
      have hlt := (List.getElem?_eq_some_iff.1 hi).1
      rw [List.getElem?_take_of_lt (by rw [List.length_take] at hlt; omega), List.getElem?_drop] at hi
      exact hi
    have := hr'.2 _ x hx
    rwa [show off + (4 * j + i) = off + 4 * j + i by omega] at this
theorem lay_start (w : World) (size : Int) {u : World} (g : Gr (((w.alloc (.cells #[.int .i64 size] 3)).alloc (.cells #[.string ⟨#[]⟩] 9)).alloc (.cells #[.bool false] 4)) u) :
    LaySt size w u.heap.size [] (u.alloc (.cells #[.pointer none, .slice none 0 0] 184)) := by
  have h0 : (((w.alloc (.cells #[.int .i64 size] 3)).alloc (.cells #[.string ⟨#[]⟩] 9)).alloc (.cells #[.bool false] 4)).heap[w.heap.size]? = some (.cells #[.int .i64 size] 3 (0, 0)) :=
    (Below.heap_alloc _ _ _ (by simp; omega)).trans ((Below.heap_alloc _ _ _ (by simp)).trans (heap_alloc_new w _))
  have h1 : (((w.alloc (.cells #[.int .i64 size] 3)).alloc (.cells #[.string ⟨#[]⟩] 9)).alloc (.cells #[.bool false] 4)).heap[w.heap.size + 1]? = some (.cells #[.string ⟨#[]⟩] 9 (0, 0)) := by
    refine (Below.heap_alloc _ _ _ (by simp)).trans ?_
    have := heap_alloc_new (w.alloc (.cells #[.int .i64 size] 3)) (.cells #[.string ⟨#[]⟩] 9)
    rwa [World.size_alloc] at this
  have h2 : (((w.alloc (.cells #[.int .i64 size] 3)).alloc (.cells #[.string ⟨#[]⟩] 9)).alloc (.cells #[.bool false] 4)).heap[w.heap.size + 2]? = some (.cells #[.bool false] 4 (0, 0)) := by
    have := heap_alloc_new ((w.alloc (.cells #[.int .i64 size] 3)).alloc (.cells #[.string ⟨#[]⟩] 9)) (.cells #[.bool false] 4)
    rwa [World.size_alloc, World.size_alloc] at this
  have hs := g.size
  simp only [World.size_alloc] at hs
  have ga : Gr u (u.alloc (.cells #[.pointer none, .slice none 0 0] 184)) := gral _ _
  have gg : Gr w (((w.alloc (.cells #[.int .i64 size] 3)).alloc (.cells #[.string ⟨#[]⟩] 9)).alloc (.cells #[.bool false] 4)) := ((gral _ _).trans (gral _ _)).trans (gral _ _)
  exact ⟨bld_new u, blk_gr (blk_gr h0 g) ga, blk_gr (blk_gr h1 g) ga, blk_gr (blk_gr h2 g) ga, (gg.trans g).trans ga, by omega⟩
theorem gr_keeps {C : Nat} {A B : World} (g : Gr A B) : KeepsFrom C A B := ⟨g.size, fun k o _ hk _ => blk_gr hk g⟩
theorem set_keeps {C : Nat} (A : World) (p : Addr) (v : Value) : KeepsFrom C A (A.setCell p v) := (KeepsOthers.setCell A p v).from C
theorem chunkK_t {Bs Bn : Nat} {A B C : World} (h : ChunkKeep Bs Bn A B) (k : ChunkKeep Bs Bn B C) : ChunkKeep Bs Bn A C := ⟨Nat.le_trans h.1 k.1, k.2.1.trans h.2.1, k.2.2.trans h.2.2⟩
theorem chunkK_b {Bs Bn N : Nat} (h1 : Bs < N) (h2 : Bn < N) (W : World) (l : Nat) (o o' : Obj) (hl : N ≤ l) (h : W.heap[l]? = some o) (_ : o.isCells = false) : ChunkKeep Bs Bn W (W.putObj l o') :=
  ⟨by simp, World.putObj_heap_other (by omega), World.putObj_heap_other (by omega)⟩
theorem chunkK_gr {Bs Bn : Nat} {A B : World} (g : Gr A B) (h1 : Bs < A.heap.size) (h2 : Bn < A.heap.size) : ChunkKeep Bs Bn A B := ⟨g.size, g.block Bs h1, g.block Bn h2⟩
/-- Both boxes of the iterator, and the builder's other neighbours, stand behind a write. -/
theorem chunkK_w {Bs b : Nat} {A B : World} (h : BKept b A B) (hs : A.heap.size ≤ B.heap.size) (hx : Boxes Bs A) (hb : b < Bs) : ChunkKeep Bs (Bs + 1) A B := by
  obtain ⟨⟨s1, h1⟩, ⟨s2, h2⟩⟩ := hx
  exact ⟨hs, (h.block h1 (by omega) (by decide)).trans h1.symm, (h.block h2 (by omega) (by decide)).trans h2.symm⟩
theorem blk_le {size : Int} {p : List ByteArray} (h : blkB size p = true) : (cl (blk p)).size ≤ 261 := by
  obtain ⟨n, hn, _, h2, _⟩ := blk_cl h
  omega
theorem blks_le {size : Int} : ∀ ps : List (List ByteArray), (∀ p ∈ ps, blkB size p = true) → (blks ps).length ≤ 261 * ps.length
  | [], _ => by simp [blks_nil]
  | p :: ps, h => by
    have h1 := blk_le (h p (by simp))
    have h2 := blks_le ps fun q hq => h q (by simp [hq])
    rw [blks_cons, List.length_append, data_length, List.length_cons]
    omega
theorem lay_len {size : Int} {L : List ByteArray} {pre : List Nat} (h : ∀ j ∈ pre, blkB size (four L j) = true) {N : Nat} (hN : pre.length ≤ N) : ((headS size).data.toList ++ blks (pre.map (four L))).length ≤ 11 + 261 * N := by
  have := blks_le (size := size) (pre.map (four L)) (fun p hp => by obtain ⟨j, hj, rfl⟩ := List.mem_map.1 hp; exact h j hj)
  rw [List.length_map] at this
  rw [List.length_append, headS_length]
  omega
theorem layB_no {size : Int} {L : List ByteArray} {x : Nat} (hs : sizeB size = true) (hx : 4 * x < L.length) (h : blkB size (four L x) = false) : layB size L = false := by
  cases hb : layB size L
  · rfl
  · rw [four_blk hb (show x < cnt4 L by unfold cnt4; omega)] at h; cases h
theorem layB_yes {size : Int} {L : List ByteArray} (hs : sizeB size = true) (h : ∀ j ∈ List.range (cnt4 L), blkB size (four L j) = true) : layB size L = true := by
  unfold layB
  rw [hs, Bool.true_and]
  refine allB_iff.2 fun s hsl => ?_
  rw [← ups_all L] at hsl
  obtain ⟨p, hp, hsp⟩ := List.mem_flatten.1 hsl
  unfold ups at hp
  obtain ⟨j, hj, rfl⟩ := List.mem_map.1 hp
  exact (blk_parts (h j hj)).2.2 s hsp
theorem peB_len {n : Nat} (h : n ≤ 1000000) : peB (n : Int) = true := by unfold peB; rw [decide_eq_true_iff]; omega
theorem set_heap {W : World} {k i : Nat} {c : Array Value} {T : TypeId} {v : Value} (h : W.heap[k]? = some (.cells c T (0, 0))) (hv : c.setIfInBounds i v = c) : (W.setCell ⟨k, i, none⟩ v).heap[k]? = some (.cells c T (0, 0)) := by
  have := blk_set h i v
  rwa [hv] at this
theorem put_blk {W : World} {D k : Nat} {c : Array Value} {T : TypeId} {fz : Nat × Nat} {o o' : Obj} (h : W.heap[k]? = some (.cells c T fz)) (hK : W.heap[D]? = some o) (ho : o.isCells = false) : (W.putObj D o').heap[k]? = some (.cells c T fz) :=
  (World.putObj_heap_other (fun e => by subst e; rw [h] at hK; cases hK; cases ho)).trans h
theorem put_below {w W : World} {D : Nat} {o : Obj} (h : Below w.heap.size w W) (hD : w.heap.size ≤ D) (hK : W.heap[D]? = some o) (o' : Obj) : Gr w (W.putObj D o') :=
  Below.grown h (grownBy_putObj' W D o') h.size (fun k e => by cases e; exact hD)
end Go.Proofs.YtdlomcgkpiejgaaGreatDoor
/- The iterator of a file's blocks; what stands behind a head. -/
namespace Go.Proofs.YtdlomcgkpiejgaaGreatDoor
open Go.RowKit Go.Shelf CrcPlain OctPlain FramePlain RecPlain
set_option linter.unusedVariables false
set_option linter.unusedSimpArgs false
set_option maxRecDepth 20000
attribute [local go_sem] Oper.semAt_some
/-- What is handed out at once: a block's records, as a slice that holds them, and what stands behind it. -/
abbrev Piece := Value × List ByteArray × ByteArray
def pcs (pre : List Piece) : List (List ByteArray) := pre.map (·.2.1)
def BlkPr (size : Int) (s : ByteArray) (pre : List Piece) (x : Piece) (W : World) : Prop :=
  Lies W x.1 x.2.1 ∧ blkB size x.2.1 = true ∧ s.data.toList = blks (pcs pre ++ [x.2.1]) ++ x.2.2.data.toList
def BlkKeep (Bs Bz : Nat) (W W' : World) : Prop := W.heap.size ≤ W'.heap.size ∧ W'.heap[Bs]? = W.heap[Bs]? ∧ W'.heap[Bz]? = W.heap[Bz]?
def BlkS (size : Int) (s : ByteArray) (xs : List Piece) : Prop := ∃ r : ByteArray, s.data.toList = blks (pcs xs) ++ r.data.toList ∧ gB size r = false
def BlkAt (size : Int) (s : ByteArray) (Bs Bz : Nat) (J : List Piece → World → Prop) (i : Value) (wr : World) : Prop :=
  ∃ (pre : List Piece) (r : ByteArray), i = .string r ∧ J pre wr ∧ s.data.toList = blks (pcs pre) ++ r.data.toList ∧ r.size ≤ s.size ∧ wr.heap[Bs]? = some (.cells #[.string s] 9 (0, 0)) ∧ wr.heap[Bz]? = some (.cells #[.int .i64 size] 3 (0, 0))
def strLen : Value → Nat
  | .string s => s.size
  | _ => 0
theorem cut_run (s : ByteArray) (n : Nat) (h : n ≤ s.size) (w : World) :
    (Instr.slice 9 (.string s) (some (.int .i64 (n : Int))) none none).run Tryz.prog w = .ok (.string (s.extract n s.size)) w := by
  rw [run_slice_string_from_if w 9 s .i64 (n : Int) Tryz.underlying9, if_pos ⟨by omega, by omega⟩, Int.toNat_natCast]
/-- Does s begin with p? -/
def preB (s p : ByteArray) : Bool := decide (p.size ≤ s.size ∧ s.extract 0 p.size = p)
theorem hasprefix_c (s p : ByteArray) (w : World) :
    Calls Tryz.prog 157 #[.string s, .string p] w fun e w' => e = .returned (.bool (preB s p)) ∧ w = w' := by
  by_cases h : p.size ≤ s.size
  · have hsl := slice_to s p.size h
    have ht : ((s.extract 0 p.size).toList == p.toList) = preB s p := by
      rw [eq_list]; unfold preB
      exact decide_eq_decide.2 ⟨fun h2 => ⟨h, h2⟩, fun h2 => h2.2⟩
    have d1 : (p.size : Int) ≤ (s.size : Int) := by omega
    clear h
    go_enter Tryz.func157, Tryz.ntmps157
    go_wp2_with fail
    go_ret
    exact ⟨rfl, rfl⟩
  · have hb : preB s p = false := by unfold preB; rw [decide_eq_false_iff_not]; exact fun h2 => h h2.1
    have HB := Lib.hid hb
    have d1 : ¬ (p.size : Int) ≤ (s.size : Int) := by omega
    clear h hb
    go_enter Tryz.func157, Tryz.ntmps157
    go_wp2_with fail
    go_ret
    exact ⟨retb HB.out.symm, rfl⟩
def cutS (s p : ByteArray) : ByteArray := if preB s p = true then s.extract p.size s.size else s
/-- Does s begin with the head of that size? -/
def bhB (size : Int) (s : ByteArray) : Bool := sizeB size && preB s (headS size)
def bhS (size : Int) (s : ByteArray) : ByteArray := if sizeB size = true then cutS s (headS size) else ⟨#[]⟩
end Go.Proofs.YtdlomcgkpiejgaaGreatDoor
