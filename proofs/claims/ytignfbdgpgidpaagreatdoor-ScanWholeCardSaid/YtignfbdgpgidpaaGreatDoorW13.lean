/- In one text: RecLay, RecBlocks, RecParse, RecRlay. -/
import Derived.Test.YtignfbdgpgidpaaGreatDoorW12
import Derived.Test.YtignfbdgpgidpaaGreatDoorW10
import Derived.RangeFuncBox
import Derived.Maps.AppendAt
import Derived.Deep.RegionHeld3
/- The contract of Lay. -/
namespace Go.Proofs.YtignfbdgpgidpaaGreatDoor
open Go.RowKit Go.Shelf CrcPlain OctPlain FramePlain RecPlain
set_option linter.unusedVariables false
set_option linter.unusedSimpArgs false
set_option maxRecDepth 20000
attribute [local go_sem] Oper.semAt_some
theorem grown_cells {W W' : World} {row : Option Nat} (hg : W.grownBy W' row) (hr : ∀ r, row = some r → ∃ o : Obj, W.heap[r]? = some o ∧ o.isCells = false) {k : Nat} {c : Array Value} {T : TypeId} {fz : Nat × Nat} (h : W.heap[k]? = some (.cells c T fz)) : W'.heap[k]? = some (.cells c T fz) :=
  (hg.block k (blk_lt h) (fun e => by obtain ⟨o, ho, hc⟩ := hr k e.symm; rw [h] at ho; cases ho; cases hc)).trans h
def Boxes (Bs : Nat) (W : World) : Prop := (∃ s, W.heap[Bs]? = some (.cells s 23 (0, 0))) ∧ ∃ s, W.heap[Bs + 1]? = some (.cells s 3 (0, 0))
theorem Boxes.grown {Bs : Nat} {W W' : World} {row : Option Nat} (h : Boxes Bs W) (hg : W.grownBy W' row) (hr : ∀ r, row = some r → ∃ o : Obj, W.heap[r]? = some o ∧ o.isCells = false) : Boxes Bs W' :=
  ⟨h.1.imp fun _ h => grown_cells hg hr h, h.2.imp fun _ h => grown_cells hg hr h⟩
theorem four_lies {w W : World} {L : List ByteArray} {b off : Nat} (hv : L = [] ∨ SRow w b off L) (g : Gr w W) {j : Nat} (hj : 4 * j < L.length) : Lies W (fourV b off L.length j) (four L j) := by
  have hl := four_length L j
  refine ⟨some ⟨b, off + 4 * j, none⟩, min 4 (L.length - 4 * j), by unfold fourV; rw [hl], by omega, .inr ⟨b, off + 4 * j, rfl, ?_⟩⟩
  rcases hv with rfl | hr
  · simp at hj
  · have hr' := hr.gr g
    refine ⟨hr'.1, fun i x hi => ?_⟩
    have hx : L[4 * j + i]? = some x := by
      unfold four at hi
      have hlt := (List.getElem?_eq_some_iff.1 hi).1
      rw [List.getElem?_take_of_lt (by rw [List.length_take] at hlt; omega), List.getElem?_drop] at hi
      exact hi
    have := hr'.2 _ x hx
    rwa [show off + (4 * j + i) = off + 4 * j + i by omega] at this
theorem blk_le {size : Int} {p : List ByteArray} (h : blkB size p = true) : (cl (blk p)).size ≤ 261 := by
  obtain ⟨n, hn, _, h2, _⟩ := blk_cl h
  omega
theorem blks_le {size : Int} : ∀ ps : List (List ByteArray), (∀ p ∈ ps, blkB size p = true) → (blks ps).length ≤ 261 * ps.length
  | [], _ => by simp [blks_nil]
  | p :: ps, h => by
    have h1 := blk_le (h p (by simp))
    have h2 := blks_le ps fun q hq => h q (by simp [hq])
    rw [blks_cons, List.length_append, data_length, List.length_cons]
    omega
theorem lay_len {size : Int} {L : List ByteArray} {pre : List Nat} (h : ∀ j ∈ pre, blkB size (four L j) = true) {N : Nat} (hN : pre.length ≤ N) : ((headS size).data.toList ++ blks (pre.map (four L))).length ≤ 11 + 261 * N := by
  have := blks_le (size := size) (pre.map (four L)) (fun p hp => by obtain ⟨j, hj, rfl⟩ := List.mem_map.1 hp; exact h j hj)
  rw [List.length_map] at this
  rw [List.length_append, headS_length]
  omega
theorem peB_len {n : Nat} (h : n ≤ 1000000) : peB (n : Int) = true := by unfold peB; rw [decide_eq_true_iff]; omega
end Go.Proofs.YtignfbdgpgidpaaGreatDoor
/- The iterator of a file's blocks; what stands behind a head. -/
namespace Go.Proofs.YtignfbdgpgidpaaGreatDoor
open Go.RowKit Go.Shelf CrcPlain OctPlain FramePlain RecPlain
set_option linter.unusedVariables false
set_option linter.unusedSimpArgs false
set_option maxRecDepth 20000
attribute [local go_sem] Oper.semAt_some
theorem cut_run (s : ByteArray) (n : Nat) (h : n ≤ s.size) (w : World) :
    (Instr.slice 9 (.string s) (some (.int .i64 (n : Int))) none none).run Tryz.prog w = .ok (.string (s.extract n s.size)) w := by
  rw [run_slice_string_from_if w 9 s .i64 (n : Int) Tryz.underlying9, if_pos ⟨by omega, by omega⟩, Int.toNat_natCast]
end Go.Proofs.YtignfbdgpgidpaaGreatDoor
/- The contract of Parse. -/
namespace Go.Proofs.YtignfbdgpgidpaaGreatDoor
open Go.RowKit Go.Shelf CrcPlain OctPlain FramePlain RecPlain
set_option linter.unusedVariables false
set_option linter.unusedSimpArgs false
set_option maxRecDepth 20000
attribute [local go_sem] Oper.semAt_some
def PGot (size : Int) (s : ByteArray) (w : World) (e : Ending) (w' : World) : Prop :=
  (∃ L v, IsFile size s L ∧ e = .returned (.tuple #[v, .agg #[.int .i64 (L.length : Nat), .int .u32 (sumN L : Nat)], .int .i64 0]) ∧ Lies w' v L ∧ Gr w w') ∨
  ((∀ L, ¬ IsFile size s L) ∧ e = .returned (.tuple #[.slice none 0 0, .agg #[.int .i64 0, .int .u32 0], .int .i64 6]) ∧ Gr w w')
structure ParSt (w : World) (b : Nat) (acc : List ByteArray) (r : ByteArray) (lv : Value) (W : World) : Prop where
  p5 : W.heap[w.heap.size]? = some (.cells #[.int .i64 0, .int .u32 0] 50 (0, 0))
  p7 : Boxed W b 9 (.string r)
  p9 : Boxed W (b + 1) 23 lv
  row : W.ownsRow (b + 4) 9 1 lv acc.length (strs acc)
  bel : Below w.heap.size w W
  lo : w.heap.size + 1 ≤ b
theorem ownsRow_grown {W W' : World} {row : Option Nat} {base k : Nat} {e : TypeId} {sz : Nat} {v : Value} {xs : List Value} (h : W.ownsRow base e sz v k xs) (hg : W.grownBy W' row) (hr : ∀ r, row = some r → ∃ o : Obj, W.heap[r]? = some o ∧ o.isCells = false) : W'.ownsRow base e sz v k xs := by
  refine h.kept hg ?_
  rcases h.2 with ⟨rfl, _⟩ | ⟨g, cap, cur, rfl, _, hgb, _⟩
  · exact .inl rfl
  · refine .inr fun e => ?_
    obtain ⟨o, h1, h2⟩ := hr g (by simpa [Value.ownBlock] using e.symm)
    rw [hgb] at h1; cases h1; cases h2
theorem ParSt.grown {w : World} {b : Nat} {acc : List ByteArray} {r : ByteArray} {lv : Value} {W W' : World} {row : Option Nat} (h : ParSt w b acc r lv W) (hg : W.grownBy W' row) (hr : ∀ r, row = some r → w.heap.size ≤ r ∧ ∃ o : Obj, W.heap[r]? = some o ∧ o.isCells = false) : ParSt w b acc r lv W' :=
  ⟨grown_cells hg (fun r e => (hr r e).2) h.p5, grown_cells hg (fun r e => (hr r e).2) h.p7, grown_cells hg (fun r e => (hr r e).2) h.p9, ownsRow_grown h.row hg (fun r e => (hr r e).2), h.bel.grown hg h.bel.size (fun k e => (hr k e).1), h.lo⟩
def PBoxes (b : Nat) (W : World) : Prop := (∃ c, W.heap[b + 3]? = some (.cells c 9 (0, 0))) ∧ ∃ c, W.heap[b + 2]? = some (.cells c 3 (0, 0))
theorem PBoxes.grown {b : Nat} {W W' : World} {row : Option Nat} (h : PBoxes b W) (hg : W.grownBy W' row) (hr : ∀ r, row = some r → ∃ o : Obj, W.heap[r]? = some o ∧ o.isCells = false) : PBoxes b W' :=
  ⟨h.1.imp fun _ h => grown_cells hg hr h, h.2.imp fun _ h => grown_cells hg hr h⟩
theorem row_ne {W : World} {base k n : Nat} {e : TypeId} {sz : Nat} {v : Value} {xs : List Value} (h : W.ownsRow base e sz v n xs) (hk : k < base) : some k ≠ v.ownBlock := fun e => by have := (h.lt k e.symm).1; omega
theorem flat_snoc (ps : List (List ByteArray)) (p : List ByteArray) : (ps ++ [p]).flatten = ps.flatten ++ p := by simp
theorem blks_ge {size : Int} : ∀ ps : List (List ByteArray), (∀ p ∈ ps, blkB size p = true) → ps.flatten.length ≤ (blks ps).length
  | [], _ => by simp [blks_nil]
  | p :: ps, h => by
    have h2 := blks_ge ps fun q hq => h q (by simp [hq])
    obtain ⟨n, hn, _, _, h5, _⟩ := blk_cl (h p (by simp))
    obtain ⟨h1, _, _⟩ := blk_parts (h p (by simp))
    simp only [sizeB, decide_eq_true_eq] at h1
    have h6 : (p.length : Int) ≤ p.length * size := by
      have := Int.mul_le_mul_of_nonneg_left h1.1 (Int.natCast_nonneg p.length)
      omega
    rw [blks_cons, List.length_append, data_length, List.flatten_cons, List.length_append]
    omega
theorem grown_set (W : World) (b i : Nat) (v : Value) : W.grownBy (W.setCell ⟨b, i, none⟩ v) (some b) :=
  ⟨rfl, rfl, rfl, by simp [World.setCell], fun k _ hk => Below.heap_setCell _ _ _ k (fun e => hk (by rw [e]))⟩
theorem owns_set {W : World} {base e n k i : Nat} {v x : Value} {xs : List Value} (h : W.ownsRow base e 1 v n xs) (hk : k < base) : (W.setCell ⟨k, i, none⟩ x).ownsRow base e 1 v n xs :=
  h.kept (grown_set W k i x) (.inr fun e => row_ne h hk e.symm)
theorem set_two {Z : World} {k : Nat} {a b x y : Value} {T : TypeId} (h : Z.heap[k]? = some (.cells #[a, b] T (0, 0))) : ((Z.setCell ⟨k, 0, none⟩ x).setCell ⟨k, 1, none⟩ y).heap[k]? = some (.cells #[x, y] T (0, 0)) := by
  simpa using blk_set (blk_set h 0 x) 1 y
theorem set_two_below {w Z : World} {k : Nat} {x y : Value} (h : Below w.heap.size w Z) (hk : w.heap.size ≤ k) : Below w.heap.size w ((Z.setCell ⟨k, 0, none⟩ x).setCell ⟨k, 1, none⟩ y) :=
  (h.setCell (p := ⟨k, 0, none⟩) hk x).setCell (p := ⟨k, 1, none⟩) hk y
end Go.Proofs.YtignfbdgpgidpaaGreatDoor
/- The contract of the document's own Lay. -/
namespace Go.Proofs.YtignfbdgpgidpaaGreatDoor
open Go.RowKit CrcPlain OctPlain FramePlain RecPlain
set_option linter.unusedVariables false
set_option linter.unusedSimpArgs false
set_option maxRecDepth 20000
theorem all_none (a : Option Addr) (c : Nat) (size : Int) (w : World) :
    Calls Tryz.prog 72 #[.int .i64 size, .slice a 0 c] w fun e w' => e = .returned (.bool true) ∧ w = w' := by
  go_enter Tryz.func72, Tryz.ntmps72
  go_wp2_with fail
  go_rounds 1
  go_ret
  exact ⟨rfl, rfl⟩
theorem rall_c {w : World} {v : Value} {l : List ByteArray} (h : Lies w v l) (size : Int) (hk : I64 size) (hl : l.length ≤ 3000) :
    Calls Tryz.prog 72 #[.int .i64 size, v] w fun e w' => e = .returned (.bool (allB size l)) ∧ w = w' := by
  obtain ⟨a, c, rfl, hc, h⟩ := h
  rcases h with rfl | ⟨b, off, rfl, hr⟩
  · exact all_none a c size w
  · exact all_c b off c l size hk hl w hr
theorem mid_run (b off n c i e : Nat) (h1 : 1 ≤ e) (h2 : i + e ≤ n) (h3 : n ≤ c) (w : World) :
    (Instr.slice 23 (.slice (some ⟨b, off, none⟩) n c) (some (.int .i64 (i : Int))) (some (.int .i64 ((i : Int) + (e : Int)))) none).run Tryz.prog w = .ok (.slice (some ⟨b, off + i, none⟩) e (c - i)) w := by
  have hne : c ≠ i := by omega
  have k1 : (i : Int) + (e : Int) ≤ (c : Int) := by omega
  have k2 : (i : Int) ≤ (i : Int) + (e : Int) := by omega
  have k3 : ((i : Int) + (e : Int)).toNat = i + e := by omega
  have k4 : (0 : Int) ≤ (i : Int) + (e : Int) := by omega
  simp [Instr.slice, Instr.sliceBounds, run_underlying Tryz.underlying23, run_underlying Tryz.underlying9, go_sem, sliced, hne, k1, k2, k3, k4, addr_add, show Tryz.prog.cellsOf 9 = 1 by kernel_rfl]
theorem four_liesC {w W : World} {L : List ByteArray} {b off c e : Nat} (hr : SRow w b off L) (g : Gr w W) {j : Nat} (he : e = min 4 (L.length - 4 * j)) (hj : 4 * j < L.length) (hc : e ≤ c) : Lies W (.slice (some ⟨b, off + 4 * j, none⟩) e c) (four L j) := by
  obtain ⟨a', c', h1, h2, h3⟩ := four_lies (.inr hr) g hj
  unfold fourV at h1
  have hl := four_length L j
  rw [← he] at hl
  injection h1 with e1 e2 e3
  subst e1
  exact ⟨_, c, by rw [hl], by omega, h3⟩
def RlayAt (size : Int) (L : List ByteArray) (n : Nat) (w : World) (s i : Value) (wr : World) : Prop :=
  ∃ k : Nat, 4 * k ≤ n + 3 ∧ i = .int .i64 ((4 * k : Nat) : Int) ∧ s = .string (bs ((headS size).data.toList ++ blks (ups L k))) ∧ Below w.heap.size w wr
theorem ups_bound {size : Int} {L : List ByteArray} (hB : layB size L = true) {k : Nat} (hk : k ≤ cnt4 L) : (bs ((headS size).data.toList ++ blks (ups L k))).size ≤ 11 + 261 * k := by
  rw [bs_size]
  have := lay_len (size := size) (L := L) (pre := List.range k) (N := k) (fun j hj => four_blk hB (by have := List.mem_range.1 hj; omega)) (by rw [List.length_range]; omega)
  exact this
set_option maxHeartbeats 4000000 in
theorem rlay_c {w : World} {v : Value} {L : List ByteArray} (h : Lies w v L) (size : Int) (hk : I64 size) (hl : L.length ≤ 3000) (hz : ∀ s ∈ L, s.size ≤ 1000) :
    Calls Tryz.prog 36 #[.int .i64 size, v] w fun e w' => e = .returned (.tuple #[.string (layR size L), .bool (layB size L)]) ∧ Gr w w' := by
  have P := fun w => rputhead_c size hk w
  cases hs : sizeB size
  · have hB : layB size L = false := by unfold layB; rw [hs]; rfl
    rw [hs, headR_no hs] at P
    have HB := Lib.hid hB
    have HR := Lib.hid (layR_no hB)
    obtain ⟨a, c, rfl, _⟩ := h
    clear hs hB
    go_enter Tryz.func36, Tryz.ntmps36
    go_wp2_with fail
    refine (P _).mono ?_; rintro e u ⟨rfl, g⟩
    go_wp2_with fail
    go_ret2
    exact ⟨ret_sb HR.out.symm HB.out.symm, g⟩
  · rw [hs, headR_yes hs] at P
    cases ha : allB size L
    · have hB : layB size L = false := by unfold layB; rw [ha, Bool.and_false]
      have HB := Lib.hid hB
      have HR := Lib.hid (layR_no hB)
      have A := fun (u : World) (g : Gr w u) => rall_c (h.gr g) size hk hl
      rw [ha] at A
      have AA := Lib.hid A
      obtain ⟨a, c, rfl, _⟩ := h
      obtain ⟨hd, hhd⟩ : ∃ hd, hd = headS size := ⟨_, rfl⟩
      rw [← hhd] at P
      clear hs hB ha hhd A
      go_enter Tryz.func36, Tryz.ntmps36
      go_wp2_with fail
      refine (P _).mono ?_; rintro e u ⟨rfl, g⟩
      go_wp2_with fail
      refine (AA.out _ g).mono ?_; rintro e u2 ⟨rfl, rfl⟩
      go_wp2_with fail
      go_ret2
      exact ⟨ret_sb HR.out.symm HB.out.symm, g⟩
    · have hB : layB size L = true := by unfold layB; rw [ha, hs]; rfl
      have HB := Lib.hid hB
      have A := fun (u : World) (g : Gr w u) => rall_c (h.gr g) size hk hl
      rw [ha] at A
      have AA := Lib.hid A
      have HL := Lib.hid h
      obtain ⟨a, c, rfl, hc, h⟩ := h
      obtain ⟨n, hn⟩ : ∃ n, L.length = n := ⟨_, rfl⟩
      have HN := Lib.hid hn
      have H0 : 1 ≤ n → ∃ b off, a = some ⟨b, off, none⟩ ∧ SRow w b off L := fun h1 => h.elim (fun h0 => by rw [h0] at hn; simp at hn; omega) id
      have H := Lib.hid H0
      rw [hn] at hl hc HL AA ⊢
      have HZ := Lib.hid hz
      obtain ⟨hd, hhd⟩ : ∃ hd, hd = headS size := ⟨_, rfl⟩
      have hd11 : hd.size = 11 := by rw [hhd, headS_size]
      rw [← hhd] at P
      have HD := Lib.hid hhd
      clear hs hB ha hhd A hn h H0 hz
      go_enter Tryz.func36, Tryz.ntmps36
      go_wp2_with fail
      refine (P _).mono ?_; rintro e u ⟨rfl, g⟩
      go_wp2_with fail
      refine (AA.out _ g).mono ?_; rintro e u2 ⟨rfl, rfl⟩
      go_wp2_with fail
      go_loopw [6, 8] (fun s i wr => RlayAt size L n w s i wr) (fun _ i _ => n + 3 - (intOf i).toNat)
      case atStart => exact ⟨0, by omega, rfl, by rw [← HD.out]; simp [ups, blks_nil, bs_toList], g⟩
      case round =>
        obtain ⟨k, hk4, rfl, rfl, hb⟩ := hrel
        obtain ⟨i, hi⟩ : ∃ i, i = 4 * k := ⟨_, rfl⟩
        rw [← hi] at hk4 ⊢
        have HI := Lib.hid hi
        by_cases hlt : i < n
        · obtain ⟨b, off, rfl, hr⟩ := H.out (by omega)
          obtain ⟨e, he⟩ : ∃ e, e = min 4 (n - i) := ⟨_, rfl⟩
          have hmr := mid_run b off n c i e (by omega) (by omega) hc
          have hli := four_liesC hr (Gr.of hb) (c := c - i) (e := e) (j := k) (by have := HN.out; omega) (by have := HN.out; omega) (by omega)
          rw [← hi] at hli
          have hbk := four_blk HB.out (show k < cnt4 L by unfold cnt4; rw [HN.out]; omega)
          have F := rfput_c hli size hk (by have := four_le L k; omega)
          rw [hbk, blkS_yes hbk] at F
          have hmin : min ((i : Int) + 4) (n : Int) = (i : Int) + (e : Int) := by omega
          have hbd := ups_bound HB.out (show k ≤ cnt4 L by unfold cnt4; rw [HN.out]; omega)
          have hbz := blk_le hbk
          have hnext : bs ((headS size).data.toList ++ blks (ups L k)) ++ cl (blk (four L k)) = bs ((headS size).data.toList ++ blks (ups L (k + 1))) := by
            apply ext_toList
            rw [app_data, bs_data, bs_data, ups_succ, blks_app, List.append_assoc]
            simp [blks]
          have HX := Lib.hid hnext
          have HE := Lib.hid he
          generalize bs ((headS size).data.toList ++ blks (ups L k)) = S at hbd HX ⊢
          generalize cl (blk (four L k)) = B at F hbz HX
          have hi2 : (i : Int) ≤ 3010 := by omega
          have hS2 : (S.size : Int) ≤ 200000 := by omega
          have hB2 : (B.size : Int) ≤ 261 := by omega
          clear hi he hr hli hbk hnext hbd hbz hl hk4
          go_wp2_with fail
          refine F.mono ?_; rintro e2 u3 ⟨rfl, g3⟩
          go_wp2_with fail
          refine ⟨⟨k + 1, by have := HI.out; omega, by have := HI.out; congr 1; omega, by rw [HX.out], (Gr.of hb).trans g3⟩, ?_⟩
          simp [intOf]; omega
        · have hkc : k = cnt4 L := by unfold cnt4; rw [HN.out]; omega
          have hbd := ups_bound HB.out (show k ≤ cnt4 L by omega)
          have SC := rsum_c (HL.out.gr (Gr.of hb)) (by have := HN.out; omega) HZ.out
          have hpb := peB_len (show L.length ≤ 1000000 by have := HN.out; omega)
          have PE := fun w => rfputend_c (L.length : Int) (by have := HN.out; unfold I64; omega) (sumN L) (sumN_lt L) w
          rw [hpb, peS_yes hpb, Int.toNat_natCast] at PE
          have hze : (cl (endS L.length (sumN L))).size = 17 := by rw [cl_size, endS_size]
          have hfin : bs ((headS size).data.toList ++ blks (ups L k)) ++ cl (endS L.length (sumN L)) = layR size L := by
            rw [layR_yes HB.out, hkc]
            apply ext_toList
            rw [app_data, bs_data, bs_data]
            unfold layL endL
            rw [List.append_assoc]
          have HF := Lib.hid hfin
          generalize bs ((headS size).data.toList ++ blks (ups L k)) = S at hbd HF ⊢
          generalize cl (endS L.length (sumN L)) = E at PE hze HF
          have hS2 : (S.size : Int) ≤ 200000 := by omega
          have hE2 : (E.size : Int) ≤ 17 := by omega
          have hi2 : ¬ (i : Int) < (n : Int) := by omega
          clear hi hkc hbd hpb hfin hze hl hk4
          go_wp2_with fail
          refine SC.mono ?_; rintro e2 u3 ⟨rfl, g3⟩
          go_wp2_with fail
          refine (PE _).mono ?_; rintro e2 u4 ⟨rfl, g4⟩
          go_wp2_with fail
          go_ret2
          exact ⟨ret_sb HF.out HB.out.symm, ((Gr.of hb).trans g3).trans g4⟩
end Go.Proofs.YtignfbdgpgidpaaGreatDoor
