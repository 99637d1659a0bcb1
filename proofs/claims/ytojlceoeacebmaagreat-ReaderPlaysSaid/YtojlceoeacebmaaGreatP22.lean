/- In one text: Build, RecLay, RecRlay, Must6, RdAwake. -/
import Derived.Shelf.Strings.BuilderK
import Derived.Test.YtojlceoeacebmaaGreatP02
import Derived.Test.YtojlceoeacebmaaGreatP21
import Derived.Test.YtojlceoeacebmaaGreatP06
import Derived.Test.YtojlceoeacebmaaGreatP05
import Derived.Test.YtojlceoeacebmaaGreatP14
/- strings.Builder of the call's own: WriteString and String, by the library's contracts; a builder as one word. -/
namespace Go.Proofs.YtojlceoeacebmaaGreat
open Go.RowKit FramePlain
set_option linter.unusedVariables false
set_option linter.unusedSimpArgs false
set_option maxRecDepth 20000
/-- What a write to it leaves: blocks that are neither the builder nor rows of bytes. -/
def BKept (b : Nat) (w w' : World) : Prop := Lib.OthersKept 5 (some b) w w'
theorem byteCells_app (a b : List UInt8) : Lib.byteCells (a ++ b) = Lib.byteCells a ++ Lib.byteCells b := by simp [Lib.byteCells]
/-- What is neither the builder nor a row of bytes stands behind a write. -/
theorem BKept.block {b : Nat} {w w' : World} (h : BKept b w w') {k : Nat} {c : Array Value} {T : TypeId} {fz : Nat × Nat} (hk : w.heap[k]? = some (.cells c T fz)) (hb : k ≠ b) (hT : T ≠ 5) : w'.heap[k]? = some (.cells c T fz) :=
  h k _ hk (fun e => hb (Option.some.inj e)) (fun c' fz' e => by injection e with _ e2 _; exact hT e2)
theorem BKept.keeps {b C : Nat} {w w' : World} (h : BKept b w w') (hs : w.heap.size ≤ w'.heap.size) (hb : ∃ c T fz, w.heap[b]? = some (.cells c T fz)) : KeepsFrom C w w' :=
  ⟨hs, fun k o _ hk ho => h k o hk (fun e => by
    obtain ⟨c, T, fz, hc⟩ := hb
    obtain rfl : k = b := Option.some.inj e
    rw [hc] at hk; cases hk; cases ho) (fun c fz e => by rw [e] at ho; cases ho)⟩
end Go.Proofs.YtojlceoeacebmaaGreat
/- The contract of Lay. -/
namespace Go.Proofs.YtojlceoeacebmaaGreat
open Go.RowKit Go.Shelf CrcPlain OctPlain FramePlain RecPlain
set_option linter.unusedVariables false
set_option linter.unusedSimpArgs false
set_option maxRecDepth 20000
attribute [local go_sem] Oper.semAt_some
theorem grown_cells {W W' : World} {row : Option Nat} (hg : W.grownBy W' row) (hr : ∀ r, row = some r → ∃ o : Obj, W.heap[r]? = some o ∧ o.isCells = false) {k : Nat} {c : Array Value} {T : TypeId} {fz : Nat × Nat} (h : W.heap[k]? = some (.cells c T fz)) : W'.heap[k]? = some (.cells c T fz) :=
  (hg.block k (blk_lt h) (fun e => by obtain ⟨o, ho, hc⟩ := hr k e.symm; rw [h] at ho; cases ho; cases hc)).trans h
def Boxes (Bs : Nat) (W : World) : Prop := (∃ s, W.heap[Bs]? = some (.cells s 54 (0, 0))) ∧ ∃ s, W.heap[Bs + 1]? = some (.cells s 3 (0, 0))
theorem Boxes.grown {Bs : Nat} {W W' : World} {row : Option Nat} (h : Boxes Bs W) (hg : W.grownBy W' row) (hr : ∀ r, row = some r → ∃ o : Obj, W.heap[r]? = some o ∧ o.isCells = false) : Boxes Bs W' :=
  ⟨h.1.imp fun _ h => grown_cells hg hr h, h.2.imp fun _ h => grown_cells hg hr h⟩
theorem Boxes.gr {Bs : Nat} {W W' : World} (h : Boxes Bs W) (g : Gr W W') : Boxes Bs W' := ⟨h.1.imp fun _ h => blk_gr h g, h.2.imp fun _ h => blk_gr h g⟩
theorem Boxes.wrote {Bs b : Nat} {W W' : World} (h : Boxes Bs W) (k : BKept b W W') (hb : b < Bs) : Boxes Bs W' :=
  ⟨h.1.imp fun _ h => k.block h (by omega) (by decide), h.2.imp fun _ h => k.block h (by omega) (by decide)⟩
def LayX (size : Int) (L : List ByteArray) (w : World) (c : Code) (pre : List Nat) (W : World) : Prop :=
  c = .ret ∧ layB size L = false ∧ W.heap[w.heap.size + 1]? = some (.cells #[.string ⟨#[]⟩] 9 (0, 0)) ∧ W.heap[w.heap.size + 2]? = some (.cells #[.bool false] 4 (0, 0)) ∧ Below w.heap.size w W
theorem layX_own (size : Int) (L : List ByteArray) (w : World) (C : Nat) (hC : w.heap.size ≤ C) (c : Code) : OwnFrom C (LayX size L w c) :=
  fun s W W' row hs hg hr => ⟨hs.1, hs.2.1, grown_cells hg (fun r e => (hr r e).2) hs.2.2.1, grown_cells hg (fun r e => (hr r e).2) hs.2.2.2.1, hs.2.2.2.2.grown hg hs.2.2.2.2.size (fun k e => Nat.le_trans hC (hr k e).1)⟩
theorem four_lies {w W : World} {L : List ByteArray} {b off : Nat} (hv : L = [] ∨ SRow w b off L) (g : Gr w W) {j : Nat} (hj : 4 * j < L.length) : Lies W (fourV b off L.length j) (four L j) := by
  have hl := four_length L j
  refine ⟨some ⟨b, off + 4 * j, none⟩, min 4 (L.length - 4 * j), by unfold fourV; rw [hl], by omega, .inr ⟨b, off + 4 * j, rfl, ?_⟩⟩
  rcases hv with rfl | hr
  · simp at hj
  · have hr' := hr.gr g
    refine ⟨hr'.1, fun i x hi => ?_⟩
    have hx : L[4 * j + i]? = some x := by
      unfold four at hi
      have hlt := (List.getElem?_eq_some_iff.1 hi).1
      rw [List.getElem?_take_of_lt (by rw [List.length_take] at hlt; omega), List.getElem?_drop] at hi
      exact hi
    have := hr'.2 _ x hx
    rwa [show off + (4 * j + i) = off + 4 * j + i by omega] at this
theorem gr_keeps {C : Nat} {A B : World} (g : Gr A B) : KeepsFrom C A B := ⟨g.size, fun k o _ hk _ => blk_gr hk g⟩
theorem set_keeps {C : Nat} (A : World) (p : Addr) (v : Value) : KeepsFrom C A (A.setCell p v) := (KeepsOthers.setCell A p v).from C
theorem chunkK_t {Bs Bn : Nat} {A B C : World} (h : ChunkKeep Bs Bn A B) (k : ChunkKeep Bs Bn B C) : ChunkKeep Bs Bn A C := ⟨Nat.le_trans h.1 k.1, k.2.1.trans h.2.1, k.2.2.trans h.2.2⟩
theorem chunkK_b {Bs Bn N : Nat} (h1 : Bs < N) (h2 : Bn < N) (W : World) (l : Nat) (o o' : Obj) (hl : N ≤ l) (h : W.heap[l]? = some o) (_ : o.isCells = false) : ChunkKeep Bs Bn W (W.putObj l o') :=
  ⟨by simp, World.putObj_heap_other (by omega), World.putObj_heap_other (by omega)⟩
theorem chunkK_gr {Bs Bn : Nat} {A B : World} (g : Gr A B) (h1 : Bs < A.heap.size) (h2 : Bn < A.heap.size) : ChunkKeep Bs Bn A B := ⟨g.size, g.block Bs h1, g.block Bn h2⟩
/-- Both boxes of the iterator, and the builder's other neighbours, stand behind a write. -/
theorem chunkK_w {Bs b : Nat} {A B : World} (h : BKept b A B) (hs : A.heap.size ≤ B.heap.size) (hx : Boxes Bs A) (hb : b < Bs) : ChunkKeep Bs (Bs + 1) A B := by
  obtain ⟨⟨s1, h1⟩, ⟨s2, h2⟩⟩ := hx
  exact ⟨hs, (h.block h1 (by omega) (by decide)).trans h1.symm, (h.block h2 (by omega) (by decide)).trans h2.symm⟩
theorem blk_le {size : Int} {p : List ByteArray} (h : blkB size p = true) : (cl (blk p)).size ≤ 261 := by
  obtain ⟨n, hn, _, h2, _⟩ := blk_cl h
  omega
theorem blks_le {size : Int} : ∀ ps : List (List ByteArray), (∀ p ∈ ps, blkB size p = true) → (blks ps).length ≤ 261 * ps.length
  | [], _ => by simp [blks_nil]
  | p :: ps, h => by
    have h1 := blk_le (h p (by simp))
    have h2 := blks_le ps fun q hq => h q (by simp [hq])
    rw [blks_cons, List.length_append, data_length, List.length_cons]
    omega
theorem lay_len {size : Int} {L : List ByteArray} {pre : List Nat} (h : ∀ j ∈ pre, blkB size (four L j) = true) {N : Nat} (hN : pre.length ≤ N) : ((headS size).data.toList ++ blks (pre.map (four L))).length ≤ 11 + 261 * N := by
  have := blks_le (size := size) (pre.map (four L)) (fun p hp => by obtain ⟨j, hj, rfl⟩ := List.mem_map.1 hp; exact h j hj)
  rw [List.length_map] at this
  rw [List.length_append, headS_length]
  omega
theorem layB_no {size : Int} {L : List ByteArray} {x : Nat} (hs : sizeB size = true) (hx : 4 * x < L.length) (h : blkB size (four L x) = false) : layB size L = false := by
  cases hb : layB size L
  · rfl
  · rw [four_blk hb (show x < cnt4 L by unfold cnt4; omega)] at h; cases h
theorem layB_yes {size : Int} {L : List ByteArray} (hs : sizeB size = true) (h : ∀ j ∈ List.range (cnt4 L), blkB size (four L j) = true) : layB size L = true := by
  unfold layB
  rw [hs, Bool.true_and]
  refine allB_iff.2 fun s hsl => ?_
  rw [← ups_all L] at hsl
  obtain ⟨p, hp, hsp⟩ := List.mem_flatten.1 hsl
  unfold ups at hp
  obtain ⟨j, hj, rfl⟩ := List.mem_map.1 hp
  exact (blk_parts (h j hj)).2.2 s hsp
theorem peB_len {n : Nat} (h : n ≤ 1000000) : peB (n : Int) = true := by unfold peB; rw [decide_eq_true_iff]; omega
theorem set_heap {W : World} {k i : Nat} {c : Array Value} {T : TypeId} {v : Value} (h : W.heap[k]? = some (.cells c T (0, 0))) (hv : c.setIfInBounds i v = c) : (W.setCell ⟨k, i, none⟩ v).heap[k]? = some (.cells c T (0, 0)) := by
  have := blk_set h i v
  rwa [hv] at this
theorem put_blk {W : World} {D k : Nat} {c : Array Value} {T : TypeId} {fz : Nat × Nat} {o o' : Obj} (h : W.heap[k]? = some (.cells c T fz)) (hK : W.heap[D]? = some o) (ho : o.isCells = false) : (W.putObj D o').heap[k]? = some (.cells c T fz) :=
  (World.putObj_heap_other (fun e => by subst e; rw [h] at hK; cases hK; cases ho)).trans h
theorem put_below {w W : World} {D : Nat} {o : Obj} (h : Below w.heap.size w W) (hD : w.heap.size ≤ D) (hK : W.heap[D]? = some o) (o' : Obj) : Gr w (W.putObj D o') :=
  Below.grown h (grownBy_putObj' W D o') h.size (fun k e => by cases e; exact hD)
end Go.Proofs.YtojlceoeacebmaaGreat
/- The contract of the document's own Lay. -/
namespace Go.Proofs.YtojlceoeacebmaaGreat
open Go.RowKit CrcPlain OctPlain FramePlain RecPlain
set_option linter.unusedVariables false
set_option linter.unusedSimpArgs false
set_option maxRecDepth 20000
theorem all_none (a : Option Addr) (c : Nat) (size : Int) (w : World) :
    Calls Tryz.prog 82 #[.int .i64 size, .slice a 0 c] w fun e w' => e = .returned (.bool true) ∧ w = w' := by
  go_enter Tryz.func82, Tryz.ntmps82
  go_wp2_with fail
  go_rounds 1
  go_ret
  exact ⟨rfl, rfl⟩
theorem rall_c {w : World} {v : Value} {l : List ByteArray} (h : Lies w v l) (size : Int) (hk : I64 size) (hl : l.length ≤ 1000) :
    Calls Tryz.prog 82 #[.int .i64 size, v] w fun e w' => e = .returned (.bool (allB size l)) ∧ w = w' := by
  obtain ⟨a, c, rfl, hc, h⟩ := h
  rcases h with rfl | ⟨b, off, rfl, hr⟩
  · exact all_none a c size w
  · exact all_c b off c l size hk hl w hr
theorem mid_run (b off n c i e : Nat) (h1 : 1 ≤ e) (h2 : i + e ≤ n) (h3 : n ≤ c) (w : World) :
    (Instr.slice 54 (.slice (some ⟨b, off, none⟩) n c) (some (.int .i64 (i : Int))) (some (.int .i64 ((i : Int) + (e : Int)))) none).run Tryz.prog w = .ok (.slice (some ⟨b, off + i, none⟩) e (c - i)) w := by
  have hne : c ≠ i := by omega
  have k1 : (i : Int) + (e : Int) ≤ (c : Int) := by omega
  have k2 : (i : Int) ≤ (i : Int) + (e : Int) := by omega
  have k3 : ((i : Int) + (e : Int)).toNat = i + e := by omega
  have k4 : (0 : Int) ≤ (i : Int) + (e : Int) := by omega
  simp [Instr.slice, Instr.sliceBounds, run_underlying Tryz.underlying54, run_underlying Tryz.underlying9, go_sem, sliced, hne, k1, k2, k3, k4, addr_add, show Tryz.prog.cellsOf 9 = 1 by kernel_rfl]
theorem four_liesC {w W : World} {L : List ByteArray} {b off c e : Nat} (hr : SRow w b off L) (g : Gr w W) {j : Nat} (he : e = min 4 (L.length - 4 * j)) (hj : 4 * j < L.length) (hc : e ≤ c) : Lies W (.slice (some ⟨b, off + 4 * j, none⟩) e c) (four L j) := by
  obtain ⟨a', c', h1, h2, h3⟩ := four_lies (.inr hr) g hj
  unfold fourV at h1
  have hl := four_length L j
  rw [← he] at hl
  injection h1 with e1 e2 e3
  subst e1
  exact ⟨_, c, by rw [hl], by omega, h3⟩
def RlayAt (size : Int) (L : List ByteArray) (n : Nat) (w : World) (s i : Value) (wr : World) : Prop :=
  ∃ k : Nat, 4 * k ≤ n + 3 ∧ i = .int .i64 ((4 * k : Nat) : Int) ∧ s = .string (bs ((headS size).data.toList ++ blks (ups L k))) ∧ Below w.heap.size w wr
theorem ups_bound {size : Int} {L : List ByteArray} (hB : layB size L = true) {k : Nat} (hk : k ≤ cnt4 L) : (bs ((headS size).data.toList ++ blks (ups L k))).size ≤ 11 + 261 * k := by
  rw [bs_size]
  have := lay_len (size := size) (L := L) (pre := List.range k) (N := k) (fun j hj => four_blk hB (by have := List.mem_range.1 hj; omega)) (by rw [List.length_range]; omega)
  exact this
set_option maxHeartbeats 4000000 in
theorem rlay_c {w : World} {v : Value} {L : List ByteArray} (h : Lies w v L) (size : Int) (hk : I64 size) (hl : L.length ≤ 1000) (hz : ∀ s ∈ L, s.size ≤ 1000) :
    Calls Tryz.prog 62 #[.int .i64 size, v] w fun e w' => e = .returned (.tuple #[.string (layR size L), .bool (layB size L)]) ∧ Gr w w' := by
  have P := fun w => rputhead_c size hk w
  cases hs : sizeB size
  · have hB : layB size L = false := by unfold layB; rw [hs]; rfl
    rw [hs, headR_no hs] at P
    have HB := Lib.hid hB
    have HR := Lib.hid (layR_no hB)
    obtain ⟨a, c, rfl, _⟩ := h
    clear hs hB
    go_enter Tryz.func62, Tryz.ntmps62
    go_wp2_with fail
    refine (P _).mono ?_; rintro e u ⟨rfl, g⟩
    go_wp2_with fail
    go_ret2
    exact ⟨ret_sb HR.out.symm HB.out.symm, g⟩
  · rw [hs, headR_yes hs] at P
    cases ha : allB size L
    · have hB : layB size L = false := by unfold layB; rw [ha, Bool.and_false]
      have HB := Lib.hid hB
      have HR := Lib.hid (layR_no hB)
      have A := fun (u : World) (g : Gr w u) => rall_c (h.gr g) size hk hl
      rw [ha] at A
      have AA := Lib.hid A
      obtain ⟨a, c, rfl, _⟩ := h
      obtain ⟨hd, hhd⟩ : ∃ hd, hd = headS size := ⟨_, rfl⟩
      rw [← hhd] at P
      clear hs hB ha hhd A
      go_enter Tryz.func62, Tryz.ntmps62
      go_wp2_with fail
      refine (P _).mono ?_; rintro e u ⟨rfl, g⟩
      go_wp2_with fail
      refine (AA.out _ g).mono ?_; rintro e u2 ⟨rfl, rfl⟩
      go_wp2_with fail
      go_ret2
      exact ⟨ret_sb HR.out.symm HB.out.symm, g⟩
    · have hB : layB size L = true := by unfold layB; rw [ha, hs]; rfl
      have HB := Lib.hid hB
      have A := fun (u : World) (g : Gr w u) => rall_c (h.gr g) size hk hl
      rw [ha] at A
      have AA := Lib.hid A
      have HL := Lib.hid h
      obtain ⟨a, c, rfl, hc, h⟩ := h
      obtain ⟨n, hn⟩ : ∃ n, L.length = n := ⟨_, rfl⟩
      have HN := Lib.hid hn
      have H0 : 1 ≤ n → ∃ b off, a = some ⟨b, off, none⟩ ∧ SRow w b off L := fun h1 => h.elim (fun h0 => by rw [h0] at hn; simp at hn; omega) id
      have H := Lib.hid H0
      rw [hn] at hl hc HL AA ⊢
      have HZ := Lib.hid hz
      obtain ⟨hd, hhd⟩ : ∃ hd, hd = headS size := ⟨_, rfl⟩
      have hd11 : hd.size = 11 := by rw [hhd, headS_size]
      rw [← hhd] at P
      have HD := Lib.hid hhd
      clear hs hB ha hhd A hn h H0 hz
      go_enter Tryz.func62, Tryz.ntmps62
      go_wp2_with fail
      refine (P _).mono ?_; rintro e u ⟨rfl, g⟩
      go_wp2_with fail
      refine (AA.out _ g).mono ?_; rintro e u2 ⟨rfl, rfl⟩
      go_wp2_with fail
      go_loopw [6, 8] (fun s i wr => RlayAt size L n w s i wr) (fun _ i _ => n + 3 - (intOf i).toNat)
      case atStart => exact ⟨0, by omega, rfl, by rw [← HD.out]; simp [ups, blks_nil, bs_toList], g⟩
      case round =>
        obtain ⟨k, hk4, rfl, rfl, hb⟩ := hrel
        obtain ⟨i, hi⟩ : ∃ i, i = 4 * k := ⟨_, rfl⟩
        rw [← hi] at hk4 ⊢
        have HI := Lib.hid hi
        by_cases hlt : i < n
        · obtain ⟨b, off, rfl, hr⟩ := H.out (by omega)
          obtain ⟨e, he⟩ : ∃ e, e = min 4 (n - i) := ⟨_, rfl⟩
          have hmr := mid_run b off n c i e (by omega) (by omega) hc
          have hli := four_liesC hr (Gr.of hb) (c := c - i) (e := e) (j := k) (by have := HN.out; omega) (by have := HN.out; omega) (by omega)
          rw [← hi] at hli
          have hbk := four_blk HB.out (show k < cnt4 L by unfold cnt4; rw [HN.out]; omega)
          have F := rfput_c hli size hk (by have := four_le L k; omega)
          rw [hbk, blkS_yes hbk] at F
          have hmin : min ((i : Int) + 4) (n : Int) = (i : Int) + (e : Int) := by omega
          have hbd := ups_bound HB.out (show k ≤ cnt4 L by unfold cnt4; rw [HN.out]; omega)
          have hbz := blk_le hbk
          have hnext : bs ((headS size).data.toList ++ blks (ups L k)) ++ cl (blk (four L k)) = bs ((headS size).data.toList ++ blks (ups L (k + 1))) := by
            apply ext_toList
            rw [app_data, bs_data, bs_data, ups_succ, blks_app, List.append_assoc]
            simp [blks]
          have HX := Lib.hid hnext
          have HE := Lib.hid he
          generalize bs ((headS size).data.toList ++ blks (ups L k)) = S at hbd HX ⊢
          generalize cl (blk (four L k)) = B at F hbz HX
          have hi2 : (i : Int) ≤ 1010 := by omega
          have hS2 : (S.size : Int) ≤ 66000 := by omega
          have hB2 : (B.size : Int) ≤ 261 := by omega
          clear hi he hr hli hbk hnext hbd hbz hl hk4
          go_wp2_with fail
          refine F.mono ?_; rintro e2 u3 ⟨rfl, g3⟩
          go_wp2_with fail
          refine ⟨⟨k + 1, by have := HI.out; omega, by have := HI.out; congr 1; omega, by rw [HX.out], (Gr.of hb).trans g3⟩, ?_⟩
          simp [intOf]; omega
        · have hkc : k = cnt4 L := by unfold cnt4; rw [HN.out]; omega
          have hbd := ups_bound HB.out (show k ≤ cnt4 L by omega)
          have SC := rsum_c (HL.out.gr (Gr.of hb)) (by have := HN.out; omega) HZ.out
          have hpb := peB_len (show L.length ≤ 1000000 by have := HN.out; omega)
          have PE := fun w => rfputend_c (L.length : Int) (by have := HN.out; unfold I64; omega) (sumN L) (sumN_lt L) w
          rw [hpb, peS_yes hpb, Int.toNat_natCast] at PE
          have hze : (cl (endS L.length (sumN L))).size = 17 := by rw [cl_size, endS_size]
          have hfin : bs ((headS size).data.toList ++ blks (ups L k)) ++ cl (endS L.length (sumN L)) = layR size L := by
            rw [layR_yes HB.out, hkc]
            apply ext_toList
            rw [app_data, bs_data, bs_data]
            unfold layL endL
            rw [List.append_assoc]
          have HF := Lib.hid hfin
          generalize bs ((headS size).data.toList ++ blks (ups L k)) = S at hbd HF ⊢
          generalize cl (endS L.length (sumN L)) = E at PE hze HF
          have hS2 : (S.size : Int) ≤ 66000 := by omega
          have hE2 : (E.size : Int) ≤ 17 := by omega
          have hi2 : ¬ (i : Int) < (n : Int) := by omega
          clear hi hkc hbd hpb hfin hze hl hk4
          go_wp2_with fail
          refine SC.mono ?_; rintro e2 u3 ⟨rfl, g3⟩
          go_wp2_with fail
          refine (PE _).mono ?_; rintro e2 u4 ⟨rfl, g4⟩
          go_wp2_with fail
          go_ret2
          exact ⟨ret_sb HF.out HB.out.symm, ((Gr.of hb).trans g3).trans g4⟩
end Go.Proofs.YtojlceoeacebmaaGreat
/- The document's file of records, that is there. -/
namespace Go.Proofs.YtojlceoeacebmaaGreat
open Go.RowKit CrcPlain OctPlain FramePlain RecPlain
set_option linter.unusedVariables false
set_option linter.unusedSimpArgs false
set_option maxRecDepth 20000
theorem must6_c {w : World} {v : Value} {L : List ByteArray} (h : Lies w v L) (size : Int) (hk : I64 size) (hl : L.length ≤ 1000) (hz : ∀ s ∈ L, s.size ≤ 1000) :
    Calls Tryz.prog 25 #[.int .i64 size, v] w fun e w' => e = .returned (.string (layR size L)) ∧ Gr w w' := by
  have C := Lib.hid (rlay_c h size hk hl hz)
  clear h
  go_enter Tryz.func25, Tryz.ntmps25
  go_wp2_with fail
  refine C.out.mono ?_; rintro e u ⟨rfl, g⟩
  go_wp2_with fail
  go_ret
  exact ⟨rfl, g⟩
end Go.Proofs.YtojlceoeacebmaaGreat
/- The chapter's example of the reader; readers that nobody made. -/
namespace Go.Proofs.YtojlceoeacebmaaGreat
open Go.RowKit FsPlain CrcPlain OctPlain FramePlain RecPlain RdPlain
set_option linter.unusedVariables false
set_option linter.unusedSimpArgs false
set_option maxRecDepth 20000
theorem stA_ok {r : Int} {S : ByteArray} (h0 : 0 ≤ r) (h1 : r ≤ 16777216) (hS : (S.size : Int) ≤ r) : (stA r S).ok := by
  refine ⟨h0, h1, by show (0 : Int) ≤ 2; decide, by show (-1 : Int) ≤ -1; decide, by show (-1 : Int) ≤ _; omega, ?_, ?_, ?_, by show 1 ≤ 200; decide, by simp [stA]⟩
  · show ((S.data.toList.length + 0 : Nat) : Int) ≤ r
    rw [data_length]; simpa using hS
  · intro f hf; rw [List.mem_singleton.1 hf]; exact Nat.zero_le _
  · intro f hf; rw [List.mem_singleton.1 hf]; show 1 ≤ 24; decide
def nmB : ByteArray := ⟨#[98]⟩
def e9S : ByteArray := layR 1 [nmA, nmB]
def e9R : St × Bu × Int × Nat := openN (stA 100 e9S) ⟨4, 0, 0⟩ nmA 1
def e9m1 : N3 := ⟨e9R.1, e9R.2.1, newRs nmA 1 e9R.2.2.2⟩
def e9m2 : N3 := (nextN e9m1).1
def e9m3 : N3 := (nextN e9m2).1
def e9m4 : N3 := (nextN e9m3).1
theorem e9_s : e9S.size = 35 := by kernel_rfl
theorem e9_0 : e9R.2.2.1 = 0 := by kernel_rfl
theorem e9_1 : (nextN e9m1).2 = (nmA, true, 0) := by kernel_rfl
theorem e9_2 : (nextN e9m2).2 = (nmB, true, 0) := by kernel_rfl
theorem e9_3 : (nextN e9m3).2 = (⟨#[]⟩, false, 0) := by kernel_rfl
theorem e9_c : e9m4.x.ec = 2 := by kernel_rfl
theorem e9_w : e9m4.x.whole = true := by kernel_rfl
theorem e9_p1 : PlayN e9m1 0 := by
  have h := st_size 100 e9S (-1) (by kernel_rfl)
  exact play_open (r := 100) (by decide) (S := e9S) (by rw [e9_s]; decide) (by decide) (by rw [e9_s]; decide) (k := -1) (mm := 4) (size := 1) (by decide) (by decide) (by decide) (show (armed (stA 100 e9S) (-1)).ok from stA_ok (by decide) (by decide) (by rw [e9_s]; decide)) e9R rfl e9_0
theorem e9_p2 : PlayN e9m2 1 := e9_p1.next (by rw [e9_1])
theorem e9_p3 : PlayN e9m3 2 := e9_p2.next (by rw [e9_2])
theorem e9_i4 : e9m4.inv := inv_nextN e9_p3.inv e9_p3.ok
theorem e9_next {m : N3} {i : Nat} {a : Ans} (hp : PlayN m i) (hi : i ≤ 3) (ha : (nextN m).2 = a) (x D P : Nat) (w : World) (B : Nat → Prop) (h : RP3 x D P m w B) :
    Calls Tryz.prog 20 #[.pointer (some ⟨x, 0, none⟩)] w (Does w B (RP3 x D P (nextN m).1) (ansV a)) := by
  rw [← ha]
  have h1 := hp.told
  have h2 := hp.calls
  exact rp_next x D P m hp.ok hp.inv (by omega) (by omega) w B h
set_option maxRecDepth 100000 in
set_option maxHeartbeats 4000000 in
theorem awake9_c (w : World) : Calls Tryz.prog 4 #[] w fun e w' => e = .returned (.bool true) ∧ Gr w w' := by
  have C1 := Lib.hid (new_c 100 (by decide) (by decide))
  have C2 := Lib.hid (fun u => bu_new 4 u (by decide) (by decide))
  have CC0 : ∀ p u B, DiskA p (fresh 100) u B → Calls Tryz.prog 7 #[.pointer (some ⟨p, 0, none⟩), .string nmA] u (Does u B (DiskA p (stC 100)) (.int .i64 0)) := by
    intro p u B h
    have := d_create p (fresh 100) nmA (by decide) nmA_right (by decide) u B h
    rw [st_create] at this
    exact this
  have CA0 : ∀ p u B, DiskA p (stC 100) u B → Calls Tryz.prog 8 #[.pointer (some ⟨p, 0, none⟩), .string nmA, .string e9S] u (Does u B (DiskA p (stA 100 e9S)) (.int .i64 0)) := by
    intro p u B h
    have := d_append p (stC 100) nmA e9S (by decide) nmA_right (by decide) (by rw [e9_s]; decide) u B h
    rw [st_append 100 e9S (by rw [e9_s]; decide)] at this
    exact this
  have CO0 : ∀ p pb u B, stars [DiskA p (stA 100 e9S), BuA pb ⟨4, 0, 0⟩] u B → Calls Tryz.prog 14 #[.pointer (some ⟨p, 0, none⟩), .pointer (some ⟨pb, 0, none⟩), .string nmA, .int .i64 1] u fun e w' => ∃ x, Does u B (RP3 x p pb e9m1) (.tuple #[.pointer (some ⟨x, 0, none⟩), .int .i64 0]) e w' := by
    intro p pb u B h
    refine (rp_open p pb (stA 100 e9S) ⟨4, 0, 0⟩ nmA 1 (by unfold I64; omega) (stA_ok (by decide) (by decide) (by rw [e9_s]; decide)) nmA_size nmA_right (by decide) u B h).mono ?_
    rintro e w' (⟨_, x, hd⟩ | ⟨h0, _⟩)
    · exact ⟨x, hd⟩
    · exact absurd e9_0 h0
  have CN1 := Lib.hid (e9_next e9_p1 (by decide) e9_1)
  have CN2 := Lib.hid (e9_next e9_p2 (by decide) e9_2)
  have CN3 := Lib.hid (e9_next e9_p3 (by decide) e9_3)
  have CI0 : ∀ x p pb u B, RP3 x p pb e9m4 u B → Calls Tryz.prog 22 #[.pointer (some ⟨x, 0, none⟩)] u fun e w' => e = .returned (.tuple #[.agg #[.int .i64 2, .int .u32 e9m4.x.em], .bool true]) ∧ Gr u w' := by
    intro x p pb u B h
    have := rp_info x p pb e9m4 e9_i4 u B h
    rw [e9_c, e9_w] at this
    exact this
  have CC := Lib.hid CC0
  have CA := Lib.hid CA0
  have CO := Lib.hid CO0
  have CI := Lib.hid CI0
  have CM0 : ∀ u, Calls Tryz.prog 25 #[.int .i64 1, .slice (some ⟨u.heap.size, 0, none⟩) 2 2] (u.alloc (.cells #[.string nmA, .string nmB] 9)) fun e w' => e = .returned (.string e9S) ∧ Gr u w' := by
    intro u
    have hl : Lies (u.alloc (.cells #[.string nmA, .string nmB] 9)) (.slice (some ⟨u.heap.size, 0, none⟩) 2 2) [nmA, nmB] := by
      refine ⟨_, 2, rfl, Nat.le_refl _, .inr ⟨u.heap.size, 0, rfl, by rw [World.size_alloc]; omega, fun j x hj => ?_⟩⟩
      match j, hj with
      | 0, hj => rw [World.cell?_alloc_mark]; simp at hj; subst hj; rfl
      | 1, hj => rw [World.cell?_alloc_mark]; simp at hj; subst hj; rfl
    refine (must6_c hl 1 (by unfold I64; omega) (by decide) (fun s hs => by rcases List.mem_cons.1 hs with rfl | hs; decide; rw [List.mem_singleton.1 hs]; decide)).mono ?_
    rintro e w' ⟨he, g⟩
    exact ⟨he, Gr.trans (b := u.alloc (.cells #[.string nmA, .string nmB] 9)) ((Gr.refl u).alloc (Nat.le_refl _) _) g⟩
  have CM := Lib.hid CM0
  obtain ⟨S, hS⟩ : ∃ S, S = e9S := ⟨_, rfl⟩
  obtain ⟨em, hem⟩ : ∃ em, em = e9m4.x.em := ⟨_, rfl⟩
  rw [← hS] at CM CA CO
  rw [← hem] at CI
  clear CC0 CA0 CO0 CI0 CM0 hS hem
  go_enter Tryz.func4, Tryz.ntmps4
  go_wp2_with fail
  refine (C1.out _).mono ?_; rintro e u1 hb
  obtain ⟨p, B1, rfl, hd1, g1, hn1⟩ := hb
  have CC1 := Lib.hid (CC.out p u1 B1 hd1)
  have N1 := Lib.hid (show Nx (fun _ => False) w B1 u1 from ⟨Only.ofGr g1, fun b hb => .inr (hn1 b hb)⟩)
  clear hd1 g1 hn1
  go_wp2_with fail
  change Calls _ _ #[_, .string nmA] _ _
  refine CC1.out.mono ?_; rintro e u2 ⟨rfl, E2, q2, n2⟩
  have Q2 := Lib.hid q2
  have N2 := Lib.hid (N1.out.trans n2)
  clear q2 n2 CC1
  go_wp2_with fail
  change Calls _ _ #[_, .slice (some ⟨u2.heap.size, 0, none⟩) 2 2] (u2.alloc (.cells #[.string nmA, .string nmB] 9)) _
  refine (CM.out u2).mono ?_; rintro e u3 ⟨rfl, g3⟩
  have CA1 := Lib.hid (CA.out p u3 E2 (star_gr (fr_disk _ _) Q2.out g3))
  have N3 := Lib.hid (N2.out.trans (Nx.gr g3))
  clear g3
  go_wp2_with fail
  change Calls _ _ #[_, .string nmA, _] _ _
  refine CA1.out.mono ?_; rintro e u4 ⟨rfl, E4, q4, n4⟩
  have Q4 := Lib.hid q4
  have N4 := Lib.hid (N3.out.trans n4)
  clear q4 n4 CA1
  go_wp2_with fail
  refine (C2.out _).mono ?_; rintro e u5 ⟨rfl, hd5, g5⟩
  obtain ⟨E5, q5, n5⟩ := part_new (P := BuA u4.heap.size ⟨4, 0, 0⟩) (L := [DiskA p (stA 100 S)]) ⟨fr_disk _ _, trivial⟩ (show stars [DiskA p (stA 100 S)] u4 E4 from ⟨E4, fun _ => False, Q4.out, (fun _ h => h), (fun _ _ h => h), fun b => (or_false _).symm ▸ Iff.rfl⟩) g5 hd5 (fun b hb => by omega)
  obtain ⟨pb, hpb⟩ : ∃ pb, pb = u4.heap.size := ⟨_, rfl⟩
  rw [← hpb] at q5 ⊢
  have CO1 := Lib.hid (CO.out p pb u5 E5 (stars_perm (List.Perm.swap _ _ _) q5))
  have N5 := Lib.hid (N4.out.trans n5)
  clear hd5 g5 q5 n5 hpb
  go_wp2_with fail
  change Calls _ _ #[_, _, .string nmA, _] _ _
  refine CO1.out.mono ?_; rintro e u6 ⟨x, rfl, E6, q6, n6⟩
  have C6 := Lib.hid (show Calls _ _ _ _ (Does u6 E6 (RP3 x p pb e9m2) (ansV (⟨#[97]⟩, true, 0))) from CN1.out x p pb u6 E6 q6)
  have N6 := Lib.hid (N5.out.trans n6)
  clear q6 n6 CO1
  unfold ansV at C6
  go_wp2_with fail
  refine C6.out.mono ?_; rintro e u7 ⟨rfl, E7, q7, n7⟩
  have C7 := Lib.hid (show Calls _ _ _ _ (Does u7 E7 (RP3 x p pb e9m3) (ansV (⟨#[98]⟩, true, 0))) from CN2.out x p pb u7 E7 q7)
  have N7 := Lib.hid (N6.out.trans n7)
  clear q7 n7 C6
  unfold ansV at C7
  go_wp2_with fail
  refine C7.out.mono ?_; rintro e u8 ⟨rfl, E8, q8, n8⟩
  have C8 := Lib.hid (show Calls _ _ _ _ (Does u8 E8 (RP3 x p pb e9m4) (ansV (⟨#[]⟩, false, 0))) from CN3.out x p pb u8 E8 q8)
  have N8 := Lib.hid (N7.out.trans n8)
  clear q8 n8 C7
  unfold ansV at C8
  go_wp2_with fail
  refine C8.out.mono ?_; rintro e u9 ⟨rfl, E9, q9, n9⟩
  have CI1 := Lib.hid (CI.out x p pb u9 E9 q9)
  have G9 := Lib.hid (nx_gr (N8.out.trans n9))
  clear q9 n9 C8
  go_wp2_with fail
  refine CI1.out.mono ?_; rintro e u10 ⟨rfl, g10⟩
  have G10 := Lib.hid (G9.out.trans g10)
  clear g10 CI1
  go_wp2_with fail
  obtain ⟨X, hX⟩ : ∃ X, X = u10.alloc (.cells #[.int .i64 2, .int .u32 em] 51) := ⟨_, rfl⟩
  have gX : Gr u10 X := by rw [hX]; exact (Gr.refl u10).alloc (Nat.le_refl _) _
  have hXl : u10.heap.size < X.heap.size := by rw [hX, World.size_alloc]; omega
  have x0 : X.cell? ⟨u10.heap.size, 0, none⟩ = some (.int .i64 2) := by rw [hX, World.cell?_alloc_mark]; rfl
  obtain ⟨q, hq⟩ : ∃ q, q = u10.heap.size := ⟨_, rfl⟩
  have G11 := Lib.hid (G10.out.trans gX)
  rw [← hX, ← hq]
  rw [← hq] at hXl x0
  clear hX gX hq
  refine (rp_close_nil _).mono ?_; rintro e v1 ⟨rfl, rfl⟩
  go_wp2_with fail
  refine (rp_next_nil _).mono ?_; rintro e v1 ⟨rfl, rfl⟩
  unfold ansV noneA
  go_wp2_with fail
  obtain ⟨Z, hZ⟩ : ∃ Z, Z = X.alloc (.cells #[.pointer none, .string ⟨#[]⟩, .int .i64 0, .int .i64 0, .pointer none, .int .i64 0, .slice none 0 0, .bool false, .int .i64 0, .int .u32 0, .bool false] 62) := ⟨_, rfl⟩
  have gZ : Gr X Z := by rw [hZ]; exact (Gr.refl X).alloc (Nat.le_refl _) _
  have hz0 : Z.cell? ⟨X.heap.size, 0, none⟩ = some (.pointer none) := by rw [hZ, World.cell?_alloc_mark]; rfl
  have hz10 : Z.cell? ⟨X.heap.size, 10, none⟩ = some (.bool false) := by rw [hZ, World.cell?_alloc_mark]; rfl
  have y0 : Z.cell? ⟨q, 0, none⟩ = some (.int .i64 2) := (gZ.cell (p := ⟨q, 0, none⟩) hXl).trans x0
  have CZ := Lib.hid (rp_next_zero X.heap.size Z hz0 hz10)
  have G12 := Lib.hid (G11.out.trans gZ)
  rw [← hZ]
  clear hZ gZ hz0 hz10 x0
  refine CZ.out.mono ?_; rintro e v1 ⟨rfl, rfl⟩
  unfold ansV noneA
  go_wp2_with fail
  refine (rcount_nil _).mono ?_; rintro e v1 ⟨rfl, rfl⟩
  go_wp2_with fail
  go_ret
  exact ⟨rfl, G12.out⟩
end Go.Proofs.YtojlceoeacebmaaGreat
