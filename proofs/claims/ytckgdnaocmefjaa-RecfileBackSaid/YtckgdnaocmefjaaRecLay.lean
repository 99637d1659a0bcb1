/- The contract of Lay. -/
import Derived.Test.YtckgdnaocmefjaaChunk
import Derived.Test.YtckgdnaocmefjaaBuild
import Derived.Test.YtckgdnaocmefjaaRecHead
import Derived.Test.YtckgdnaocmefjaaFrameArgs
namespace Go.Proofs.Ytckgdnaocmefjaa
open Go.RowKit Go.Shelf CrcPlain OctPlain FramePlain RecPlain
set_option linter.unusedVariables false
set_option linter.unusedSimpArgs false
attribute [local go_sem] Oper.semAt_some
theorem grown_cells {W W' : World} {row : Option Nat} (hg : W.grownBy W' row) (hr : ∀ r, row = some r → ∃ o : Obj, W.heap[r]? = some o ∧ o.isCells = false) {k : Nat} {c : Array Value} {T : TypeId} {fz : Nat × Nat} (h : W.heap[k]? = some (.cells c T fz)) : W'.heap[k]? = some (.cells c T fz) :=
  (hg.block k (blk_lt h) (fun e => by obtain ⟨o, ho, hc⟩ := hr k e.symm; rw [h] at ho; cases ho; cases hc)).trans h
theorem Bld.grown {n0 b : Nat} {l : List UInt8} {W W' : World} {row : Option Nat} (h : Bld n0 b l W) (hg : W.grownBy W' row) (hr : ∀ r, row = some r → ∃ o : Obj, W.heap[r]? = some o ∧ o.isCells = false) : Bld n0 b l W' := by
  have one : ∀ p, Lib.BuilderAtF 47 5 n0 b p (Lib.byteCells l) W → Lib.BuilderAtF 47 5 n0 b p (Lib.byteCells l) W' := by
    rintro p ⟨h1, v, hb, ho, hv⟩
    refine ⟨h1, v, grown_cells hg hr hb, ho.kept hg ?_, hv⟩
    rcases ho.2 with ⟨rfl, _⟩ | ⟨g, cap, cur, fz, rfl, _, hgb, _⟩
    · exact .inl rfl
    · refine .inr fun e => ?_
      obtain ⟨o, h1, h2⟩ := hr g (by simpa [Value.ownBlock] using e.symm)
      rw [hgb] at h1; cases h1; cases h2
  exact ⟨h.1.imp (one _) (one _), Nat.le_trans h.2 hg.size⟩
theorem Bld.gr {n0 b : Nat} {l : List UInt8} {W W' : World} (h : Bld n0 b l W) (g : Gr W W') : Bld n0 b l W' := h.grown (gr_grown g) (fun r e => by cases e)
/-- Where Lay is: what its builder holds, and its own variables. -/
structure LaySt (size : Int) (w : World) (b : Nat) (l : List UInt8) (W : World) : Prop where
  bld : Bld b b l W
  z : W.heap[w.heap.size]? = some (.cells #[.int .i64 size] 3 (0, 0))
  r1 : W.heap[w.heap.size + 1]? = some (.cells #[.string ⟨#[]⟩] 9 (0, 0))
  r2 : W.heap[w.heap.size + 2]? = some (.cells #[.bool false] 4 (0, 0))
  bel : Below w.heap.size w W
  lb : w.heap.size + 3 ≤ b
theorem LaySt.grown {size : Int} {w : World} {b : Nat} {l : List UInt8} {W W' : World} {row : Option Nat} (h : LaySt size w b l W) (hg : W.grownBy W' row) (hr : ∀ r, row = some r → w.heap.size ≤ r ∧ ∃ o : Obj, W.heap[r]? = some o ∧ o.isCells = false) : LaySt size w b l W' :=
  ⟨h.bld.grown hg (fun r e => (hr r e).2), grown_cells hg (fun r e => (hr r e).2) h.z, grown_cells hg (fun r e => (hr r e).2) h.r1, grown_cells hg (fun r e => (hr r e).2) h.r2, h.bel.grown hg h.bel.size (fun k e => (hr k e).1), h.lb⟩
theorem LaySt.gr {size : Int} {w : World} {b : Nat} {l : List UInt8} {W W' : World} (h : LaySt size w b l W) (g : Gr W W') : LaySt size w b l W' := h.grown (gr_grown g) (fun r e => by cases e)
/-- Behind a write to the builder. -/
theorem LaySt.wrote {size : Int} {w : World} {b : Nat} {l l' : List UInt8} {W W' : World} (h : LaySt size w b l W) (hb : Bld b b l' W') (hbel : Below b W W') (hk : BKept b W W') : LaySt size w b l' W' := by
  have hlb := h.lb
  exact ⟨hb, hk.block h.z (by omega) (by decide), hk.block h.r1 (by omega) (by decide), hk.block h.r2 (by omega) (by decide), h.bel.trans (hbel.mono (by omega)), hlb⟩
def Boxes (Bs : Nat) (W : World) : Prop := (∃ s, W.heap[Bs]? = some (.cells s 22 (0, 0))) ∧ ∃ s, W.heap[Bs + 1]? = some (.cells s 3 (0, 0))
def LayI (size : Int) (L : List ByteArray) (w : World) (b Bs : Nat) (pre : List Nat) (W : World) : Prop :=
  LaySt size w b ((headS size).data.toList ++ blks (pre.map (four L))) W ∧ (∀ j ∈ pre, blkB size (four L j) = true) ∧ Boxes Bs W
theorem Boxes.grown {Bs : Nat} {W W' : World} {row : Option Nat} (h : Boxes Bs W) (hg : W.grownBy W' row) (hr : ∀ r, row = some r → ∃ o : Obj, W.heap[r]? = some o ∧ o.isCells = false) : Boxes Bs W' :=
  ⟨h.1.imp fun _ h => grown_cells hg hr h, h.2.imp fun _ h => grown_cells hg hr h⟩
theorem Boxes.gr {Bs : Nat} {W W' : World} (h : Boxes Bs W) (g : Gr W W') : Boxes Bs W' := ⟨h.1.imp fun _ h => blk_gr h g, h.2.imp fun _ h => blk_gr h g⟩
theorem Boxes.wrote {Bs b : Nat} {W W' : World} (h : Boxes Bs W) (k : BKept b W W') (hb : b < Bs) : Boxes Bs W' :=
  ⟨h.1.imp fun _ h => k.block h (by omega) (by decide), h.2.imp fun _ h => k.block h (by omega) (by decide)⟩
def LayX (size : Int) (L : List ByteArray) (w : World) (c : Code) (pre : List Nat) (W : World) : Prop :=
  c = .ret ∧ layB size L = false ∧ W.heap[w.heap.size + 1]? = some (.cells #[.string ⟨#[]⟩] 9 (0, 0)) ∧ W.heap[w.heap.size + 2]? = some (.cells #[.bool false] 4 (0, 0)) ∧ Below w.heap.size w W
theorem layI_own (size : Int) (L : List ByteArray) (w : World) (b Bs C : Nat) (hC : w.heap.size ≤ C) : OwnFrom C (LayI size L w b Bs) :=
  fun s W W' row hs hg hr => ⟨hs.1.grown hg (fun r e => ⟨Nat.le_trans hC (hr r e).1, (hr r e).2⟩), hs.2.1, hs.2.2.grown hg (fun r e => (hr r e).2)⟩
theorem layX_own (size : Int) (L : List ByteArray) (w : World) (C : Nat) (hC : w.heap.size ≤ C) (c : Code) : OwnFrom C (LayX size L w c) :=
  fun s W W' row hs hg hr => ⟨hs.1, hs.2.1, grown_cells hg (fun r e => (hr r e).2) hs.2.2.1, grown_cells hg (fun r e => (hr r e).2) hs.2.2.2.1, hs.2.2.2.2.grown hg hs.2.2.2.2.size (fun k e => Nat.le_trans hC (hr k e).1)⟩
theorem four_lies {w W : World} {L : List ByteArray} {b off : Nat} (hv : L = [] ∨ SRow w b off L) (g : Gr w W) {j : Nat} (hj : 4 * j < L.length) : Lies W (fourV b off L.length j) (four L j) := by
  have hl := four_length L j
  refine ⟨some ⟨b, off + 4 * j, none⟩, min 4 (L.length - 4 * j), by unfold fourV; rw [hl], by omega, .inr ⟨b, off + 4 * j, rfl, ?_⟩⟩
  rcases hv with rfl | hr
  · simp at hj
  · have hr' := hr.gr g
    refine ⟨hr'.1, fun i x hi => ?_⟩
    have hx : L[4 * j + i]? = some x := by
      unfold four at hi
      have hlt := (List.getElem?_eq_some_iff.1 hi).1
      rw [List.getElem?_take_of_lt (by rw [List.length_take] at hlt; omega), List.getElem?_drop] at hi
      exact hi
    have := hr'.2 _ x hx
    rwa [show off + (4 * j + i) = off + 4 * j + i by omega] at this
theorem lay_start (w : World) (size : Int) {u : World} (g : Gr (((w.alloc (.cells #[.int .i64 size] 3)).alloc (.cells #[.string ⟨#[]⟩] 9)).alloc (.cells #[.bool false] 4)) u) :
    LaySt size w u.heap.size [] (u.alloc (.cells #[.pointer none, .slice none 0 0] 47)) := by
  have h0 : (((w.alloc (.cells #[.int .i64 size] 3)).alloc (.cells #[.string ⟨#[]⟩] 9)).alloc (.cells #[.bool false] 4)).heap[w.heap.size]? = some (.cells #[.int .i64 size] 3 (0, 0)) :=
    (Below.heap_alloc _ _ _ (by simp; omega)).trans ((Below.heap_alloc _ _ _ (by simp)).trans (heap_alloc_new w _))
  have h1 : (((w.alloc (.cells #[.int .i64 size] 3)).alloc (.cells #[.string ⟨#[]⟩] 9)).alloc (.cells #[.bool false] 4)).heap[w.heap.size + 1]? = some (.cells #[.string ⟨#[]⟩] 9 (0, 0)) := by
    refine (Below.heap_alloc _ _ _ (by simp)).trans ?_
    have := heap_alloc_new (w.alloc (.cells #[.int .i64 size] 3)) (.cells #[.string ⟨#[]⟩] 9)
    rwa [World.size_alloc] at this
  have h2 : (((w.alloc (.cells #[.int .i64 size] 3)).alloc (.cells #[.string ⟨#[]⟩] 9)).alloc (.cells #[.bool false] 4)).heap[w.heap.size + 2]? = some (.cells #[.bool false] 4 (0, 0)) := by
    have := heap_alloc_new ((w.alloc (.cells #[.int .i64 size] 3)).alloc (.cells #[.string ⟨#[]⟩] 9)) (.cells #[.bool false] 4)
    rwa [World.size_alloc, World.size_alloc] at this
  have hs := g.size
  simp only [World.size_alloc] at hs
  have ga : Gr u (u.alloc (.cells #[.pointer none, .slice none 0 0] 47)) := gral _ _
  have gg : Gr w (((w.alloc (.cells #[.int .i64 size] 3)).alloc (.cells #[.string ⟨#[]⟩] 9)).alloc (.cells #[.bool false] 4)) := ((gral _ _).trans (gral _ _)).trans (gral _ _)
  exact ⟨bld_new u, blk_gr (blk_gr h0 g) ga, blk_gr (blk_gr h1 g) ga, blk_gr (blk_gr h2 g) ga, (gg.trans g).trans ga, by omega⟩
theorem gr_keeps {C : Nat} {A B : World} (g : Gr A B) : KeepsFrom C A B := ⟨g.size, fun k o _ hk _ => blk_gr hk g⟩
theorem set_keeps {C : Nat} (A : World) (p : Addr) (v : Value) : KeepsFrom C A (A.setCell p v) := (KeepsOthers.setCell A p v).from C
theorem chunkK_t {Bs Bn : Nat} {A B C : World} (h : ChunkKeep Bs Bn A B) (k : ChunkKeep Bs Bn B C) : ChunkKeep Bs Bn A C := ⟨Nat.le_trans h.1 k.1, k.2.1.trans h.2.1, k.2.2.trans h.2.2⟩
theorem chunkK_b {Bs Bn N : Nat} (h1 : Bs < N) (h2 : Bn < N) (W : World) (l : Nat) (o o' : Obj) (hl : N ≤ l) (h : W.heap[l]? = some o) (_ : o.isCells = false) : ChunkKeep Bs Bn W (W.putObj l o') :=
  ⟨by simp, World.putObj_heap_other (by omega), World.putObj_heap_other (by omega)⟩
theorem chunkK_gr {Bs Bn : Nat} {A B : World} (g : Gr A B) (h1 : Bs < A.heap.size) (h2 : Bn < A.heap.size) : ChunkKeep Bs Bn A B := ⟨g.size, g.block Bs h1, g.block Bn h2⟩
/-- Both boxes of the iterator, and the builder's other neighbours, stand behind a write. -/
theorem chunkK_w {Bs b : Nat} {A B : World} (h : BKept b A B) (hs : A.heap.size ≤ B.heap.size) (hx : Boxes Bs A) (hb : b < Bs) : ChunkKeep Bs (Bs + 1) A B := by
  obtain ⟨⟨s1, h1⟩, ⟨s2, h2⟩⟩ := hx
  exact ⟨hs, (h.block h1 (by omega) (by decide)).trans h1.symm, (h.block h2 (by omega) (by decide)).trans h2.symm⟩
theorem blk_le {size : Int} {p : List ByteArray} (h : blkB size p = true) : (cl (blk p)).size ≤ 261 := by
  obtain ⟨n, hn, _, h2, _⟩ := blk_cl h
  omega
theorem blks_le {size : Int} : ∀ ps : List (List ByteArray), (∀ p ∈ ps, blkB size p = true) → (blks ps).length ≤ 261 * ps.length
  | [], _ => by simp [blks_nil]
  | p :: ps, h => by
    have h1 := blk_le (h p (by simp))
    have h2 := blks_le ps fun q hq => h q (by simp [hq])
    rw [blks_cons, List.length_append, data_length, List.length_cons]
    omega
theorem lay_len {size : Int} {L : List ByteArray} {pre : List Nat} (h : ∀ j ∈ pre, blkB size (four L j) = true) {N : Nat} (hN : pre.length ≤ N) : ((headS size).data.toList ++ blks (pre.map (four L))).length ≤ 11 + 261 * N := by
  have := blks_le (size := size) (pre.map (four L)) (fun p hp => by obtain ⟨j, hj, rfl⟩ := List.mem_map.1 hp; exact h j hj)
  rw [List.length_map] at this
  rw [List.length_append, headS_length]
  omega
theorem layB_no {size : Int} {L : List ByteArray} {x : Nat} (hs : sizeB size = true) (hx : 4 * x < L.length) (h : blkB size (four L x) = false) : layB size L = false := by
  cases hb : layB size L
  · rfl
  · rw [four_blk hb (show x < cnt4 L by unfold cnt4; omega)] at h; cases h
theorem layB_yes {size : Int} {L : List ByteArray} (hs : sizeB size = true) (h : ∀ j ∈ List.range (cnt4 L), blkB size (four L j) = true) : layB size L = true := by
  unfold layB
  rw [hs, Bool.true_and]
  refine allB_iff.2 fun s hsl => ?_
  rw [← ups_all L] at hsl
  obtain ⟨p, hp, hsp⟩ := List.mem_flatten.1 hsl
  unfold ups at hp
  obtain ⟨j, hj, rfl⟩ := List.mem_map.1 hp
  exact (blk_parts (h j hj)).2.2 s hsp
theorem peB_len {n : Nat} (h : n ≤ 1000000) : peB (n : Int) = true := by unfold peB; rw [decide_eq_true_iff]; omega
theorem set_heap {W : World} {k i : Nat} {c : Array Value} {T : TypeId} {v : Value} (h : W.heap[k]? = some (.cells c T (0, 0))) (hv : c.setIfInBounds i v = c) : (W.setCell ⟨k, i, none⟩ v).heap[k]? = some (.cells c T (0, 0)) := by
  have := blk_set h i v
  rwa [hv] at this
theorem put_blk {W : World} {D k : Nat} {c : Array Value} {T : TypeId} {fz : Nat × Nat} {o o' : Obj} (h : W.heap[k]? = some (.cells c T fz)) (hK : W.heap[D]? = some o) (ho : o.isCells = false) : (W.putObj D o').heap[k]? = some (.cells c T fz) :=
  (World.putObj_heap_other (fun e => by subst e; rw [h] at hK; cases hK; cases ho)).trans h
theorem put_below {w W : World} {D : Nat} {o : Obj} (h : Below w.heap.size w W) (hD : w.heap.size ≤ D) (hK : W.heap[D]? = some o) (o' : Obj) : Gr w (W.putObj D o') :=
  Below.grown h (grownBy_putObj' W D o') h.size (fun k e => by cases e; exact hD)
set_option maxRecDepth 100000 in
set_option maxHeartbeats 4000000 in
theorem lay_c {w : World} {v : Value} {L : List ByteArray} (h : Lies w v L) (size : Int) (hk : I64 size) (hl : L.length ≤ 100000) (hz : ∀ s ∈ L, s.size ≤ 1000) :
    Calls Try.prog 8 #[.int .i64 size, v] w fun e w' => e = .returned (.tuple #[.string (layR size L), .bool (layB size L)]) ∧ Gr w w' := by
  obtain ⟨a, c, rfl, hc, h⟩ := h
  have P := fun w => puthead_c size hk w
  cases hs : sizeB size
  · have hB : layB size L = false := by unfold layB; rw [hs]; rfl
    rw [hs, headR_no hs] at P
    have HB := Lib.hid hB
    have HR := Lib.hid (layR_no hB)
    clear hs h hB
    go_enter Try.func8, Try.ntmps8
    go_wp2_with fail
    refine (P _).mono ?_; rintro e u ⟨rfl, g⟩
    have S0 := lay_start w size g
    have r1 : u.heap[w.heap.size + 1]? = some (.cells #[.string ⟨#[]⟩] 9 (0, 0)) := by
      have := S0.r1
      rwa [Below.heap_alloc _ _ _ (by have := g.size; simp at this; omega)] at this
    have r2 : u.heap[w.heap.size + 1 + 1]? = some (.cells #[.bool false] 4 (0, 0)) := by
      have := S0.r2
      rwa [Below.heap_alloc _ _ _ (by have := g.size; simp at this; omega)] at this
    have gg : Gr w u := (((gral _ _).trans (gral _ _)).trans (gral _ _)).trans g
    have d1 : u.cell? ⟨w.heap.size + 1, 0, none⟩ = some (.string ⟨#[]⟩) := by rw [blk_at r1]; rfl
    have d2 : u.cell? ⟨w.heap.size + 2, 0, none⟩ = some (.bool false) := by rw [blk_at r2]; rfl
    have f1 : u.frozen? ⟨w.heap.size + 1, 0, none⟩ = false := blk_free r1 0
    have f2 : u.frozen? ⟨w.heap.size + 2, 0, none⟩ = false := blk_free r2 0
    have R1 := Lib.hid r1
    have R2 := Lib.hid r2
    clear S0 r1 r2
    go_wp2_with fail
    have e1 := blk_at (blk_other (set_heap (i := 0) (v := .string ⟨#[]⟩) R1.out rfl) ⟨w.heap.size + 1 + 1, 0, none⟩ (.bool false) (by simp)) 0
    have e2 := blk_at (set_heap (i := 0) (v := .bool false) (blk_other R2.out ⟨w.heap.size + 1, 0, none⟩ (.string ⟨#[]⟩) (by simp)) rfl) 0
    exact bodyPost_ret (v := .tuple #[.string ⟨#[]⟩, .bool false]) (by simp [results, Try.results8, go_sem, e1, e2]) rfl
      ⟨by rw [HR.out, HB.out], (gg.setCell (p := ⟨w.heap.size + 1, 0, none⟩) (by simp) _).setCell (p := ⟨w.heap.size + 1 + 1, 0, none⟩) (by simp; omega) _⟩
  · rw [hs, headR_yes hs] at P
    have HS := Lib.hid hs
    have H := Lib.hid h
    have hlc := hc
    obtain ⟨hd, hhd⟩ : ∃ hd, hd = headS size := ⟨_, rfl⟩
    have hd11 : hd.size = 11 := by rw [hhd, headS_size]
    rw [← hhd] at P
    have HD := Lib.hid hhd
    clear hs h hhd
    refine (callsIn_wide (n := 8)).1 ?_
    refine callsIn_of_wp_marks Try.func8 rfl trivial ?_ rfl
    simp only [Try.ntmps8, List.size_toArray, List.length_cons, List.length_nil, Nat.reduceAdd, Nat.reduceSub, Array.replicate_succ, Array.replicate_zero, List.push_toArray, List.append_toArray, List.nil_append, List.cons_append]
    gi_wp2_with fail
    refine ⟨trivial, (callsIn_wide.2 (P _)).mono ?_⟩; rintro e u ⟨rfl, g⟩
    have S0 := lay_start w size g
    gi_wp2_with fail
    obtain ⟨U, hU⟩ : ∃ U, U = u.alloc (.cells #[.pointer none, .slice none 0 0] 47) := ⟨_, rfl⟩
    rw [← hU] at S0 ⊢
    have HU := Lib.hid hU
    clear hU
    refine ⟨trivial, (callsIn_wide.2 (bwrite_c _ _ _ _ _ S0.bld (by simp; omega))).mono ?_⟩; rintro e u2 ⟨rfl, hb2, bel2, k2⟩
    have S2 := S0.wrote hb2 bel2 k2
    have S2' := Lib.hid S2
    clear S0 hb2 bel2 k2 S2
    gi_wp2_with fail
    refine ⟨trivial, (callsIn_wide.2 (chunk_c a L.length c u2)).mono ?_⟩; rintro e u3 ⟨rfl, rfl⟩
    gi_wp2_with fail
    obtain ⟨b, off, hL, hR⟩ : ∃ b off, (L = [] ∨ a = some ⟨b, off, none⟩) ∧ (L = [] ∨ SRow w b off L) := by
      rcases H.out with h | ⟨b, off, h1, h2⟩
      · exact ⟨0, 0, .inl h, .inl h⟩
      · exact ⟨b, off, .inr h1, .inr h2⟩
    obtain ⟨x1, x2, x3⟩ := two_blks u2 (.cells #[.slice a L.length c] 22) (.cells #[.int .i64 4] 3)
    have S3 := S2'.out.gr x3
    obtain ⟨U3, hU3⟩ : ∃ U3, U3 = (u2.alloc (.cells #[.slice a L.length c] 22)).alloc (.cells #[.int .i64 4] 3) := ⟨_, rfl⟩
    have hz3 : U3.heap.size = u2.heap.size + 2 := by rw [hU3]; simp
    rw [← hU3] at x1 x2 x3 S3 ⊢
    clear hU3
    have hbl := S3.bld.lt
    have hbb := S2'.out.bld.lt
    refine wpIn_told (n := 8) (by omega) (gf := 43) (lb := #[.pointer (some ⟨u2.heap.size, 0, none⟩), .pointer (some ⟨u2.heap.size + 1, 0, none⟩)]) rfl (enters_of Try.func43 (by kernel_rfl) rfl)
      (chunk_told (n := 7) (by omega) (b := b) (off := off) hL (by omega) hc x1 x2) (fun h k => chunkK_t h k) (fun W l o o' hl h ho => chunkK_b (by omega) (by omega) W l o o' hl h ho) (Below.refl _ _) (fun _ => rfl)
      (LayI size L w u.heap.size u2.heap.size) (LayX size L w) (layI_own size L w _ _ _ S3.bel.size) (layX_own size L w _ S3.bel.size) (fun _ => ownFrom_pure _ _)
      ⟨by simpa [blks_nil, HD.out] using S3, by simp, ⟨_, x1⟩, ⟨_, x2⟩⟩ ?a1 ?assign ?body ?done ?stop
    case assign =>
      intro l x W K hK
      gi_wp2
      exact hK
    case body =>
      rintro l pre x W ⟨hS, hall, hX⟩ ⟨hpre, hx⟩
      have hbd := lay_len hall (N := 25000) (by rw [hpre, List.length_range]; omega)
      rw [← HD.out] at hbd
      have cz : W.cell? ⟨w.heap.size, 0, none⟩ = some (.int .i64 size) := by rw [blk_at hS.z]; rfl
      have F := fput_c (four_lies hR (Gr.of hS.bel) hx) size hk (by have := four_le L x; omega) (fun s hs => hz s (four_mem hs))
      cases hb : blkB size (four L x)
      · rw [hb, blkS_no hb] at F
        have HN := Lib.hid (layB_no HS.out hx hb)
        have HSS := Lib.hid hS
        clear hb hall hS
        gi_wp2_with fail
        refine ⟨trivial, (CallsIn.inRound l (callsIn_wide.2 F)).mono ?_⟩; rintro e u4 ⟨rfl, g4⟩
        have h1 := blk_gr HSS.out.r1 g4
        have h2 := blk_gr HSS.out.r2 g4
        have d1 : u4.cell? ⟨w.heap.size + 1, 0, none⟩ = some (.string ⟨#[]⟩) := by rw [blk_at h1]; rfl
        have d2 : u4.cell? ⟨w.heap.size + 2, 0, none⟩ = some (.bool false) := by rw [blk_at h2]; rfl
        have f1 : u4.frozen? ⟨w.heap.size + 1, 0, none⟩ = false := blk_free h1 0
        have f2 : u4.frozen? ⟨w.heap.size + 2, 0, none⟩ = false := blk_free h2 0
        have H1 := Lib.hid h1
        have H2 := Lib.hid h2
        clear h1 h2
        gi_wp2_with fail
        refine told_ret (((gr_keeps g4).trans (set_keeps _ _ _)).trans (set_keeps _ _ _)) ⟨rfl, HN.out, ?_, ?_, ?_⟩
        · exact blk_other (set_heap H1.out rfl) _ _ (by simp)
        · exact set_heap (blk_other H2.out _ _ (by simp)) rfl
        · exact (((Gr.of HSS.out.bel).trans g4).setCell (p := ⟨w.heap.size + 1, 0, none⟩) (by simp) _).setCell (p := ⟨w.heap.size + 1 + 1, 0, none⟩) (by simp; omega) _
      · rw [hb, blkS_yes hb] at F
        have HB := Lib.hid hb
        have HA := Lib.hid hall
        have HSS := Lib.hid hS
        clear hb hall hS
        gi_wp2_with fail
        refine ⟨trivial, (CallsIn.inRound l (callsIn_wide.2 F)).mono ?_⟩; rintro e u4 ⟨rfl, g4⟩
        gi_wp2_with fail
        refine ⟨trivial, (CallsIn.inRound l (callsIn_wide.2 (bwrite_c _ _ _ _ _ (HSS.out.gr g4).bld (by rw [← HD.out]; have := blk_le HB.out; omega)))).mono ?_⟩; rintro e u5 ⟨rfl, hb5, bel5, k5⟩
        gi_wp2_with fail
        have hlt5 := (HSS.out.gr g4).bld.lt
        have S5 := (HSS.out.gr g4).wrote hb5 bel5 k5
        refine told_on ((gr_keeps g4).trans (k5.keeps bel5.size (HSS.out.gr g4).bld.cells)) (chunkK_t (chunkK_gr g4 (blk_lt hX.1.choose_spec) (blk_lt hX.2.choose_spec)) (chunkK_w k5 bel5.size (hX.gr g4) (by omega))) ⟨?_, ?_, ((hX.gr g4).wrote k5 (by omega))⟩
        · rw [List.map_append, blks_app]
          simpa [blks, List.append_assoc] using S5
        · intro j hj
          rcases List.mem_append.1 hj with hj | hj
          · exact HA.out j hj
          · simp at hj; subst hj; exact HB.out
    case done =>
      rintro D xs W hD rfl ⟨hS, hall, hX⟩ hK
      have hLie : Lies W (.slice a L.length c) L := Lies.gr (w := w) ⟨a, c, rfl, hc, H.out⟩ (Gr.of hS.bel)
      have hB := layB_yes HS.out hall
      have hbd := lay_len hall (N := 25001) (by rw [List.length_range]; unfold cnt4; omega)
      have hpb := peB_len (show L.length ≤ 1000000 by omega)
      have PE := fun w => fputend_c (L.length : Int) (by unfold I64; omega) (sumN L) (sumN_lt L) w
      rw [hpb, peS_yes hpb, Int.toNat_natCast] at PE
      have SC := sum_c hLie (by omega) hz
      have hze : (cl (endS L.length (sumN L))).size = 17 := by rw [cl_size, endS_size]
      obtain ⟨en, hen⟩ : ∃ en, en = cl (endS L.length (sumN L)) := ⟨_, rfl⟩
      rw [← hen] at PE hze
      have HEN := Lib.hid hen
      have HB := Lib.hid hB
      have HSS := Lib.hid hS
      have HX := Lib.hid hX
      have HKK := Lib.hid hK
      clear hen hB hS hX hall hpb hLie hK
      gi_wp2_with fail
      refine ⟨trivial, (callsIn_wide.2 SC).mono ?_⟩; rintro e u4 ⟨rfl, g4⟩
      gi_wp2_with fail
      refine ⟨trivial, (callsIn_wide.2 (PE _)).mono ?_⟩; rintro e u5 ⟨rfl, g5⟩
      gi_wp2_with fail
      have S5 := (HSS.out.gr g4).gr g5
      refine ⟨trivial, (callsIn_wide.2 (bwrite_c _ _ _ _ _ S5.bld (by omega))).mono ?_⟩; rintro e u6 ⟨rfl, hb6, bel6, k6⟩
      have S6 := S5.wrote hb6 bel6 k6
      gi_wp2_with fail
      refine ⟨trivial, (callsIn_wide.2 (bstring_c _ _ _ _ hb6)).mono ?_⟩; rintro e u7 ⟨rfl, hb7, bel7, k7⟩
      have S7 := S6.wrote hb7 bel7 k7
      have hk7 : u7.heap[D]? = some (.deferred (some [])) := k7 D _ (k6 D _ (blk_gr (blk_gr HKK.out g4) g5) (by have := S5.bld.lt; intro e; injection e with e; omega) (by intro c fz e; cases e)) (by have := S5.bld.lt; intro e; injection e with e; omega) (by intro c fz e; cases e)
      have d1 : u7.cell? ⟨w.heap.size + 1, 0, none⟩ = some (.string ⟨#[]⟩) := by rw [blk_at S7.r1]; rfl
      have d2 : u7.cell? ⟨w.heap.size + 2, 0, none⟩ = some (.bool false) := by rw [blk_at S7.r2]; rfl
      have f1 : u7.frozen? ⟨w.heap.size + 1, 0, none⟩ = false := blk_free S7.r1 0
      have f2 : u7.frozen? ⟨w.heap.size + 2, 0, none⟩ = false := blk_free S7.r2 0
      have S77 := Lib.hid S7
      have K7 := Lib.hid hk7
      obtain ⟨res, hres⟩ : ∃ res, res = bs (((headS size).data.toList ++ blks (List.map (four L) (List.range (cnt4 L)))) ++ en.data.toList) := ⟨_, rfl⟩
      have hresL : res = layR size L := by
        rw [layR_yes HB.out, hres, HEN.out]
        unfold layL ups endL
        rw [List.append_assoc]
      rw [← hres]
      have HR := Lib.hid hresL
      clear S7 hk7 hres hresL hb6 bel6 k6 hb7 bel7 k7 S5 S6
      gi_wp2_with fail
      have h1 : ((u7.setCell ⟨w.heap.size + 1, 0, none⟩ (.string res)).setCell ⟨w.heap.size + 1 + 1, 0, none⟩ (.bool true)).heap[w.heap.size + 1]? = some (.cells #[.string res] 9 (0, 0)) :=
        blk_other (by simpa using blk_set S77.out.r1 0 (.string res)) _ _ (by simp)
      have h2 : ((u7.setCell ⟨w.heap.size + 1, 0, none⟩ (.string res)).setCell ⟨w.heap.size + 1 + 1, 0, none⟩ (.bool true)).heap[w.heap.size + 1 + 1]? = some (.cells #[.bool true] 4 (0, 0)) := by
        simpa using blk_set (blk_other S77.out.r2 ⟨w.heap.size + 1, 0, none⟩ (.string res) (by simp)) 0 (.bool true)
      have hkk : ((u7.setCell ⟨w.heap.size + 1, 0, none⟩ (.string res)).setCell ⟨w.heap.size + 1 + 1, 0, none⟩ (.bool true)).heap[D]? = some (.deferred (some [])) :=
        ((KeepsOthers.setCell u7 ⟨w.heap.size + 1, 0, none⟩ (.string res)).trans (KeepsOthers.setCell _ ⟨w.heap.size + 1 + 1, 0, none⟩ (.bool true))).same D _ K7.out rfl
      have hgr : Below w.heap.size w ((u7.setCell ⟨w.heap.size + 1, 0, none⟩ (.string res)).setCell ⟨w.heap.size + 1 + 1, 0, none⟩ (.bool true)) :=
        (S77.out.bel.setCell (p := ⟨w.heap.size + 1, 0, none⟩) (by simp) _).setCell (p := ⟨w.heap.size + 1 + 1, 0, none⟩) (by simp; omega) _
      have hS3 := S3.bel.size
      refine ⟨by simp, .inl ⟨_, _, rfl, run_takeDeferred hkk, ?_⟩⟩
      have e1 := blk_at (put_blk (o' := .deferred none) h1 hkk rfl) 0
      have e2 := blk_at (put_blk (o' := .deferred none) h2 hkk rfl) 0
      exact ⟨.tuple #[.string res, .bool true], by simp [results, Try.f8, go_sem, e1, e2], by rw [HR.out, HB.out], put_below hgr (by omega) hkk _⟩
    case stop =>
      rintro D c2 pre W hD _ ⟨rfl, hB, h1, h2, hbel⟩ hK
      have HB := Lib.hid hB
      have H1 := Lib.hid h1
      have H2 := Lib.hid h2
      clear hB h1 h2
      gi_wp2_with fail
      have hS3 := S3.bel.size
      refine ⟨by simp, .inl ⟨_, _, rfl, run_takeDeferred hK, ?_⟩⟩
      have e1 := blk_at (put_blk (o' := .deferred none) H1.out hK rfl) 0
      have e2 := blk_at (put_blk (o' := .deferred none) H2.out hK rfl) 0
      exact ⟨.tuple #[.string ⟨#[]⟩, .bool false], by simp [results, Try.f8, go_sem, e1, e2], by rw [HB.out, layR_no HB.out], put_below hbel (by omega) hK _⟩
end Go.Proofs.Ytckgdnaocmefjaa
