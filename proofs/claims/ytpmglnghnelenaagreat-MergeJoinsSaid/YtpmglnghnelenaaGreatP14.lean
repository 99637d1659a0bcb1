/- In one text: RecSum, Rd2, Rd3, InfoNe. -/
import Derived.Test.YtpmglnghnelenaaGreatP07
import Derived.Test.YtpmglnghnelenaaGreatP01
import Derived.StillTailTactics
import Derived.Test.YtpmglnghnelenaaGreatP13
import Derived.Test.YtpmglnghnelenaaGreatP06
import Derived.Test.YtpmglnghnelenaaGreatP00
/- Contracts of both Sums. -/
namespace Go.Proofs.YtpmglnghnelenaaGreat
open Go.RowKit CrcPlain OctPlain FramePlain RecPlain
set_option linter.unusedVariables false
set_option linter.unusedSimpArgs false
set_option maxRecDepth 20000
theorem blk_at {w : World} {b : Nat} {c : Array Value} {T : TypeId} (h : w.heap[b]? = some (.cells c T (0, 0))) (i : Nat) : w.cell? ⟨b, i, none⟩ = c[i]? := by simp [World.cell?, h]
theorem blk_free {w : World} {b : Nat} {c : Array Value} {T : TypeId} (h : w.heap[b]? = some (.cells c T (0, 0))) (i : Nat) : w.frozen? ⟨b, i, none⟩ = false := by simp [World.frozen?, h]
theorem blk_lt {w : World} {b : Nat} {o : Obj} (h : w.heap[b]? = some o) : b < w.heap.size := (Array.getElem?_eq_some_iff.1 h).1
theorem blk_set {w : World} {b : Nat} {c : Array Value} {T : TypeId} (h : w.heap[b]? = some (.cells c T (0, 0))) (i : Nat) (u : Value) : (w.setCell ⟨b, i, none⟩ u).heap[b]? = some (.cells (c.setIfInBounds i u) T (0, 0)) := by
  obtain ⟨hlt, hb⟩ := Array.getElem?_eq_some_iff.1 h
  simp only [World.setCell, Array.getElem?_modify, if_true, h]
  rfl
theorem blk_gr {w u : World} {b : Nat} {o : Obj} (h : w.heap[b]? = some o) (g : Gr w u) : u.heap[b]? = some o := (g.block b (blk_lt h)).trans h
theorem blk_other {w : World} {b : Nat} {o : Obj} (h : w.heap[b]? = some o) (a : Addr) (u : Value) (hne : a.block ≠ b) : (w.setCell a u).heap[b]? = some o := by
  rw [Below.heap_setCell _ _ _ _ (fun e => hne e.symm)]; exact h
theorem sumN_nil : sumN [] = 0 := by decide
theorem sumN_snoc (l : List ByteArray) (x : ByteArray) : sumN (l ++ [x]) = more (sumN l) x.data.toList := by
  unfold sumN; rw [cat_snoc, more_app]
theorem two_blks (w : World) (o p : Obj) : ((w.alloc o).alloc p).heap[w.heap.size]? = some o ∧ ((w.alloc o).alloc p).heap[w.heap.size + 1]? = some p ∧ Below w.heap.size w ((w.alloc o).alloc p) := by
  refine ⟨(Below.heap_alloc _ _ _ (by simp)).trans (heap_alloc_new w _), ?_, ((Gr.refl w).alloc (Nat.le_refl _) _).alloc (by simp) _⟩
  have := heap_alloc_new (w.alloc o) p
  rwa [World.size_alloc] at this
def SumAt (L : List ByteArray) (n : Nat) (w : World) (i : Value) (wr : World) : Prop :=
  ∃ j : Nat, j ≤ n ∧ i = .int .i64 j ∧ wr.heap[w.heap.size]? = some (.cells #[.int .i64 0, .int .u32 0] 33 (0, 0)) ∧ wr.heap[w.heap.size + 1]? = some (.cells #[.int .i64 n, .int .u32 (sumN (L.take j) : Nat)] 33 (0, 0)) ∧ Below w.heap.size w wr
/-- What both Sums come to. -/
def SumGot (L : List ByteArray) (w : World) (e : Ending) (w' : World) : Prop := e = .returned (.agg #[.int .i64 (L.length : Nat), .int .u32 (sumN L : Nat)]) ∧ Gr w w'
theorem sum_start (L : List ByteArray) (n : Nat) (w : World) : SumAt L n w (.int .i64 0) ((w.alloc (.cells #[.int .i64 0, .int .u32 0] 33)).alloc (.cells #[.int .i64 n, .int .u32 0] 33)) := by
  obtain ⟨h1, h2, h3⟩ := two_blks w (.cells #[.int .i64 0, .int .u32 0] 33) (.cells #[.int .i64 n, .int .u32 0] 33)
  refine ⟨0, Nat.zero_le _, rfl, h1, ?_, h3⟩
  rw [List.take_zero, sumN_nil]; exact h2
/-- Behind the store of a further sum. -/
theorem sum_next {L : List ByteArray} {n j : Nat} {w wr u : World} (hj : j < n) (r0 : wr.heap[w.heap.size]? = some (.cells #[.int .i64 0, .int .u32 0] 33 (0, 0)))
    (r1 : wr.heap[w.heap.size + 1]? = some (.cells #[.int .i64 n, .int .u32 (sumN (L.take j) : Nat)] 33 (0, 0))) (hb : Below w.heap.size w wr) (g : Gr wr u) (m : Nat) (hm : m = sumN (L.take (j + 1))) :
    SumAt L n w (.int .i64 ((j : Int) + 1)) (u.setCell ⟨w.heap.size + 1, 1, none⟩ (.int .u32 (m : Nat))) := by
  subst hm
  refine ⟨j + 1, hj, rfl, blk_other (blk_gr r0 g) _ _ (by simp), by simpa using blk_set (blk_gr r1 g) 1 (.int .u32 (sumN (L.take (j + 1)) : Nat)), ?_⟩
  exact ((Gr.of hb).trans g).setCell (p := ⟨w.heap.size + 1, 1, none⟩) (by simp) _
set_option maxRecDepth 20000 in
set_option maxHeartbeats 2000000 in
theorem rsum_c {w : World} {v : Value} {L : List ByteArray} (h : Lies w v L) (hl : L.length ≤ 1000000) (hz : ∀ s ∈ L, s.size ≤ 1000) :
    Calls Tryz.prog 14 #[v] w (SumGot L w) := by
  obtain ⟨a, c, rfl, hc, h⟩ := h
  obtain ⟨n, hn⟩ : ∃ n, L.length = n := ⟨_, rfl⟩
  have HN := Lib.hid hn
  have H0 : 1 ≤ n → ∃ b off, a = some ⟨b, off, none⟩ ∧ SRow w b off L := fun h1 => h.elim (fun h0 => by rw [h0] at hn; simp at hn; omega) id
  have H := Lib.hid H0
  have HZ := Lib.hid hz
  have hst := sum_start L n w
  rw [hn] at hl ⊢
  clear h hc hn H0 hz
  go_enter Tryz.func14, Tryz.ntmps14
  go_wp2_with fail
  go_loopw [4] (fun i wr => SumAt L n w i wr) (fun i _ => n - (intOf i).toNat)
  case atStart => exact hst
  case round =>
    clear hst
    obtain ⟨j, hj, rfl, r0, r1, hb⟩ := hrel
    have hln := HN.out
    by_cases hlt : j < n
    · obtain ⟨x, hx, hstep, hmem⟩ := take_at (l := L) (j := j) (by omega)
      obtain ⟨b, off, rfl, hr⟩ := H.out (by omega)
      have hcx : wr.cell? ⟨b, off + j, none⟩ = some (.string x) := by rw [hb.cell hr.1]; exact hr.2 j x hx
      have M := fun w => rmore_c (sumN (L.take j)) (sumN_lt _) x (HZ.out x hmem) w
      have hs := sumN_snoc (L.take j) x
      rw [← hstep] at hs
      have HS := Lib.hid hs.symm
      have c1 : wr.cell? ⟨w.heap.size + 1, 1, none⟩ = some (.int .u32 (sumN (L.take j) : Nat)) := by rw [blk_at r1]; rfl
      have hk : ∀ u, Gr wr u → u.cell? ⟨w.heap.size + 1, 1, none⟩ = some (.int .u32 (sumN (L.take j) : Nat)) ∧ u.frozen? ⟨w.heap.size + 1, 1, none⟩ = false :=
        fun u g => ⟨by rw [blk_at (blk_gr r1 g)]; rfl, blk_free (blk_gr r1 g) 1⟩
      have HK := Lib.hid hk
      have R0 := Lib.hid r0
      have R1 := Lib.hid r1
      have hbs0 : ∀ u, Gr wr u → ∀ m : Nat, m = sumN (L.take (j + 1)) → SumAt L n w (.int .i64 ((j : Int) + 1)) (u.setCell ⟨w.heap.size + 1, 1, none⟩ (.int .u32 (m : Nat))) := fun u g m hm => sum_next hlt r0 r1 hb g m hm
      have hbs := Lib.hid hbs0
      obtain ⟨m, hm⟩ : ∃ m, m = more (sumN (L.take j)) x.data.toList := ⟨_, rfl⟩
      rw [← hm] at M HS
      have HM := Lib.hid hm
      have MM := Lib.hid (fun w => (M w).mono fun e w' h => (show e = .returned (.int .u32 (m : Nat)) ∧ w' = w from ⟨h.1, h.2.symm⟩))
      have hl2 : (n : Int) ≤ 1000000 := by omega
      clear hm hs hbs0 hstep hmem hx hk r0 r1 hr H HZ M hl
      go_wp2_with fail
      obtain ⟨d1, f1⟩ := HK.out wr (Gr.refl _)
      refine wp_region_still_tail 8 (by kernel_rfl) (by kernel_rfl) ?_
      simp only [List.take_succ_cons, List.take_zero, List.drop_succ_cons, List.drop_zero]
      still_step
      still_step
      still_step
      still_step
      still_step
      still_step
      still_call (MM.out wr.drew)
      still_step
      refine wpStill_nil ?_
      change wpList _ _ _ _ _ wr.drew
      have f2 : wr.drew.frozen? ⟨w.heap.size + 1, 1, none⟩ = false := f1
      have d2 : wr.drew.cell? ⟨w.heap.size + 1, 1, none⟩ = some (.int .u32 (sumN (L.take j) : Nat)) := d1
      go_wp2_with fail
      refine ⟨hbs.out wr.drew (Gr.refl wr).drew m HS.out, ?_⟩
      simp [intOf]; omega
    · obtain rfl : j = n := by omega
      have hte : L.take j = L := List.take_of_length_le (by omega)
      rw [hte] at r1
      obtain ⟨m, hm⟩ : ∃ m, m = sumN L := ⟨_, rfl⟩
      rw [← hm] at r1
      have hw : Two w w.heap.size (.int .i64 0) (.int .u32 0) wr := ⟨blk_lt r0, by rw [blk_at r0]; rfl, by rw [blk_at r0]; rfl, blk_free r0 0, blk_free r0 1⟩
      obtain ⟨W, hW, d0, d1, gW⟩ := two_set hw (.int .i64 (j : Nat)) (.int .u32 (m : Nat)) (Gr.of hb) (Nat.le_refl _)
      have e0 : wr.cell? ⟨w.heap.size + 1, 0, none⟩ = some (.int .i64 (j : Nat)) := by rw [blk_at r1]; rfl
      have e1 : wr.cell? ⟨w.heap.size + 1, 1, none⟩ = some (.int .u32 (m : Nat)) := by rw [blk_at r1]; rfl
      obtain ⟨hlt2, c0, c1, f0, f1⟩ := hw
      have HW := Lib.hid hW
      have HM := Lib.hid hm
      clear hW r0 r1 hm hte H HZ
      go_wp2_with fail
      rw [← HW.out]
      exact bodyPost_ret (v := .agg #[.int .i64 (j : Nat), .int .u32 (m : Nat)]) (by simp [results, Tryz.results14, go_sem, d0, d1]) rfl ⟨by rw [hln, HM.out], gW⟩
end Go.Proofs.YtpmglnghnelenaaGreat
/- The program's reader: open, over, info, Count, handOut, stop. -/
namespace Go.Proofs.YtpmglnghnelenaaGreat
open Go.RowKit FsPlain CrcPlain OctPlain FramePlain RecPlain RdPlain
set_option linter.unusedVariables false
set_option linter.unusedSimpArgs false
set_option maxRecDepth 20000
theorem ropen_yes (x : Nat) (v : Addr) (w : World) (c0 : w.cell? ⟨x, 0, none⟩ = some (.pointer (some v))) :
    Calls Tryz.prog 58 #[.pointer (some ⟨x, 0, none⟩)] w fun e w' => e = .returned (.bool true) ∧ w = w' := by
  go_enter Tryz.func58, Tryz.ntmps58
  go_wp2_with fail
  go_ret
  exact ⟨rfl, rfl⟩
theorem ropen_no (x : Nat) (w : World) (c0 : w.cell? ⟨x, 0, none⟩ = some (.pointer none)) :
    Calls Tryz.prog 58 #[.pointer (some ⟨x, 0, none⟩)] w fun e w' => e = .returned (.bool false) ∧ w = w' := by
  go_enter Tryz.func58, Tryz.ntmps58
  go_wp2_with fail
  go_ret
  exact ⟨rfl, rfl⟩
theorem ropen_nil (w : World) :
    Calls Tryz.prog 58 #[.pointer none] w fun e w' => e = .returned (.bool false) ∧ w = w' := by
  go_enter Tryz.func58, Tryz.ntmps58
  go_wp2_with fail
  go_ret
  exact ⟨rfl, rfl⟩
theorem over_yes (x : Nat) (w : World) (c0 : w.cell? ⟨x, 10, none⟩ = some (.bool true)) :
    Calls Tryz.prog 102 #[.pointer (some ⟨x, 0, none⟩)] w fun e w' => e = .returned (.int .i64 0) ∧ w = w' := by
  go_enter Tryz.func102, Tryz.ntmps102
  go_wp2_with fail
  go_ret
  exact ⟨rfl, rfl⟩
theorem over_no (x : Nat) (w : World) (c0 : w.cell? ⟨x, 10, none⟩ = some (.bool false)) :
    Calls Tryz.prog 102 #[.pointer (some ⟨x, 0, none⟩)] w fun e w' => e = .returned (.int .i64 14) ∧ w = w' := by
  go_enter Tryz.func102, Tryz.ntmps102
  go_wp2_with fail
  go_ret
  exact ⟨rfl, rfl⟩
theorem over_nil (w : World) :
    Calls Tryz.prog 102 #[.pointer none] w fun e w' => e = .returned (.int .i64 14) ∧ w = w' := by
  go_enter Tryz.func102, Tryz.ntmps102
  go_wp2_with fail
  go_ret
  exact ⟨rfl, rfl⟩
set_option maxHeartbeats 1000000 in
/-- How many were handed out, and their sum. -/
theorem rinfo_at (x n k : Nat) (w : World) (hx : x < w.heap.size) (c8 : w.cell? ⟨x, 8, none⟩ = some (.int .i64 (n : Nat))) (c9 : w.cell? ⟨x, 9, none⟩ = some (.int .u32 (k : Nat))) :
    Calls Tryz.prog 139 #[.pointer (some ⟨x, 0, none⟩)] w fun e w' => e = .returned (.agg #[.int .i64 (n : Nat), .int .u32 (k : Nat)]) ∧ Gr w w' := by
  obtain ⟨W, hW⟩ : ∃ W, W = w.alloc (.cells #[.int .i64 0, .int .u32 0] 33) := ⟨_, rfl⟩
  have g0 : Gr w W := by rw [hW]; exact Below.alloc (Below.refl _ _) (Nat.le_refl _) _
  have d8 : W.drew.cell? ⟨x, 8, none⟩ = some (.int .i64 (n : Nat)) := (g0.cell (p := ⟨x, 8, none⟩) hx).trans c8
  have d9 : W.drew.cell? ⟨x, 9, none⟩ = some (.int .u32 (k : Nat)) := (g0.cell (p := ⟨x, 9, none⟩) hx).trans c9
  have hw : Two w w.heap.size (.int .i64 0) (.int .u32 0) W.drew := two_new w _ _ 33 (by rw [hW]; exact (Gr.refl _).drew)
  obtain ⟨V, hV, v0, v1, gV⟩ := two_set hw (.int .i64 (n : Nat)) (.int .u32 (k : Nat)) g0.drew (Nat.le_refl _)
  obtain ⟨hlt2, b0, b1, f0, f1⟩ := hw
  have HW := Lib.hid hW
  have HV := Lib.hid hV
  have d8' : W.cell? ⟨x, 8, none⟩ = some (.int .i64 (n : Nat)) := d8
  have d9' : W.cell? ⟨x, 9, none⟩ = some (.int .u32 (k : Nat)) := d9
  clear hW hV g0 c8 c9
  go_enter Tryz.func139, Tryz.ntmps139
  go_wp2_with fail
  rw [← HW.out]
  go_still_tail 9, (by kernel_rfl)
  change wpList _ _ _ _ _ W.drew
  generalize W.drew = W2 at *
  go_wp2_with fail
  rw [← HV.out]
  refine bodyPost_ret (v := .agg #[.int .i64 (n : Nat), .int .u32 (k : Nat)]) (by simp [results, Tryz.results139, go_sem, v0, v1]) rfl ⟨rfl, gV⟩
/-- Behind the two stores of handOut. -/
theorem ro_pop {x D P b off n c : Nat} {s : St} {bu : Bu} {y : Rs} {k : Nat} {r : ByteArray} {l : List ByteArray} {w : World} {B : Nat → Prop} (h : stars (rol x D P s bu (rdc D P y (.slice (some ⟨b, off, none⟩) n c) k false) (.slice (some ⟨b, off, none⟩) n c) y.queue) w B) (hrl : y.queue = r :: l) (hk : k = sumN y.all) (a : Option Addr) (m q : Nat) (hm : m = l.length) (hq : m ≤ q) (ha : 1 ≤ l.length → a = some ⟨b, off + 1, none⟩) (hz : ∀ b' off', a = some ⟨b', off', none⟩ → b' = b) (t : Int) (ht : t = (y.told : Int) + 1) :
    ∃ B', RO x D P ⟨s, bu, { y with queue := y.queue.tail, told := y.told + 1 }⟩ false ((w.setCell ⟨x, 6, none⟩ (.slice a m q)).setCell ⟨x, 8, none⟩ (.int .i64 t)) B' ∧ Nx B w B' ((w.setCell ⟨x, 6, none⟩ (.slice a m q)).setCell ⟨x, 8, none⟩ (.int .i64 t)) := by
  subst hk
  have h0 : ∃ B', stars (rol x D P s bu (rdc D P y (.slice (some ⟨b, off, none⟩) n c) (sumN y.all) false) (.slice a m q) l) w B' ∧ Nx B w B' w :=
    step_at (Q := QueA (.slice a m q) l) 2 rfl (frs_rol _ _ _ _ _ _ _ _) h fun B1 h1 => ⟨B1, que_tail (by rw [hrl] at h1; exact h1) a m q hm hq ha hz, Nx.refl _ _⟩
  obtain ⟨B0, h0, n0⟩ := h0
  obtain ⟨B1, h1, n1⟩ := rol_set (c' := rdc D P y (.slice a m q) (sumN y.all) false) 6 (.slice a m q) h0 rfl
  obtain ⟨B2, h2, n2⟩ := rol_set (c' := rdc D P { y with queue := y.queue.tail, told := y.told + 1 } (.slice a m q) (sumN y.all) false) 8 (.int .i64 t) h1 (by rw [ht]; rfl)
  have e : l = y.queue.tail := by rw [hrl]; rfl
  rw [e] at h2
  exact ⟨B2, ⟨.slice a m q, h2⟩, (n0.trans n1).trans n2⟩
set_option maxHeartbeats 2000000 in
theorem r_hand (x D P : Nat) (m : N3) (hql : m.x.queue.length ≤ 4) (hq : m.x.queue ≠ []) (ht : m.x.told ≤ 100000) (w : World) (B : Nat → Prop) (h : RO x D P m false w B) :
    Calls Tryz.prog 104 #[.pointer (some ⟨x, 0, none⟩)] w (Does w B (RO x D P (popN m).1 false) (.string (popN m).2.1)) := by
  obtain ⟨vq, h⟩ := h
  obtain ⟨_, hqa, _⟩ := part_at 2 rfl h
  obtain ⟨b, off, c, rfl, hc, hr, _⟩ := que_open hqa hq
  obtain ⟨r, l, hrl⟩ := List.exists_cons_of_ne_nil hq
  have y0 : w.cell? ⟨b, off, none⟩ = some (.string r) := by have := hr.2 0 r (by rw [hrl]; rfl); simpa using this
  have hb := rol_blk h
  obtain ⟨n, hn⟩ : ∃ n, m.x.queue.length = n := ⟨_, rfl⟩
  have hn1 : 1 ≤ n := by rw [← hn, hrl]; simp
  have hn4 : n ≤ 4 := by rw [← hn]; exact hql
  obtain ⟨k, hk⟩ : ∃ k, k = sumN m.x.all := ⟨_, rfl⟩
  rw [← hk] at h hb
  have c6 : w.cell? ⟨x, 6, none⟩ = some (.slice (some ⟨b, off, none⟩) n c) := by rw [cells_at hb, ← hn]; rfl
  have c8 : w.cell? ⟨x, 8, none⟩ = some (.int .i64 m.x.told) := by rw [cells_at hb]; rfl
  have f6 := cells_free hb 6
  have f8 := cells_free hb 8
  have hv : (popN m).2.1 = r := by unfold popN; rw [hrl]; rfl
  rw [hv]
  have H := Lib.hid h
  have HN := Lib.hid hn
  have HK := Lib.hid hk
  have HRL := Lib.hid hrl
  rw [hn] at hc
  clear h hqa hr hb hn hrl hq hql hk hv
  go_enter Tryz.func104, Tryz.ntmps104
  go_wp2_with fail
  · have hnl : n - 1 = l.length := by have := HN.out; rw [HRL.out] at this; simp at this; omega
    obtain ⟨B2, h2, n2⟩ := ro_pop (a := some ⟨b, off, none⟩) (m := n - 1) (q := 0) (by have := H.out; rw [HN.out] at this; exact this) HRL.out HK.out hnl (by omega) (fun h => by omega) (fun b' off' e => by simp at e; exact e.1.symm) ((m.x.told : Int) + 1) rfl
    go_ret
    exact ⟨rfl, B2, h2, n2⟩
  · have hnl : n - 1 = l.length := by have := HN.out; rw [HRL.out] at this; simp at this; omega
    obtain ⟨B2, h2, n2⟩ := ro_pop (a := some ⟨b, off + 1, none⟩) (m := n - 1) (q := c - 1) (by have := H.out; rw [HN.out] at this; exact this) HRL.out HK.out hnl (by omega) (fun h => rfl) (fun b' off' e => by simp at e; exact e.1.symm) ((m.x.told : Int) + 1) rfl
    go_ret
    exact ⟨rfl, B2, h2, n2⟩
end Go.Proofs.YtpmglnghnelenaaGreat
/- The program's reader: stop, takeEnd. -/
namespace Go.Proofs.YtpmglnghnelenaaGreat
open Go.RowKit FsPlain CrcPlain OctPlain FramePlain RecPlain RdPlain
set_option linter.unusedVariables false
set_option linter.unusedSimpArgs false
set_option maxRecDepth 20000
/-- An open one whose eleven cells are written is shut. -/
theorem ro_shut {x D P : Nat} {s : St} {b : Bu} {y : Rs} {vq : Value} {queue : List ByteArray} {k : Nat} {t : Bool} {w : World} {B : Nat → Prop} (h : stars (rol x D P s b (rdc D P y vq k t) vq queue) w B) :
    ∃ B', RSh x D P s b y.told k t (((((((((((w.setCell ⟨x, 0, none⟩ (.pointer none)).setCell ⟨x, 1, none⟩ (.string ⟨#[]⟩)).setCell ⟨x, 2, none⟩ (.int .i64 0)).setCell ⟨x, 3, none⟩ (.int .i64 0)).setCell ⟨x, 4, none⟩ (.pointer none)).setCell ⟨x, 5, none⟩ (.int .i64 0)).setCell ⟨x, 6, none⟩ (.slice none 0 0)).setCell ⟨x, 7, none⟩ (.bool false)).setCell ⟨x, 8, none⟩ (.int .i64 (y.told : Nat))).setCell ⟨x, 9, none⟩ (.int .u32 (k : Nat))).setCell ⟨x, 10, none⟩ (.bool t)) B' ∧ Nx B w B' (((((((((((w.setCell ⟨x, 0, none⟩ (.pointer none)).setCell ⟨x, 1, none⟩ (.string ⟨#[]⟩)).setCell ⟨x, 2, none⟩ (.int .i64 0)).setCell ⟨x, 3, none⟩ (.int .i64 0)).setCell ⟨x, 4, none⟩ (.pointer none)).setCell ⟨x, 5, none⟩ (.int .i64 0)).setCell ⟨x, 6, none⟩ (.slice none 0 0)).setCell ⟨x, 7, none⟩ (.bool false)).setCell ⟨x, 8, none⟩ (.int .i64 (y.told : Nat))).setCell ⟨x, 9, none⟩ (.int .u32 (k : Nat))).setCell ⟨x, 10, none⟩ (.bool t)) := by
  obtain ⟨B0, h0, n0⟩ := rol_set (c' := #[.pointer none, .string y.nm, .int .i64 (y.pos : Nat), .int .i64 (y.left : Nat), .pointer (some ⟨P, 0, none⟩), .int .i64 y.size, vq, .bool y.short, .int .i64 (y.told : Nat), .int .u32 (k : Nat), .bool t]) 0 (.pointer none) h rfl
  generalize w.setCell ⟨x, 0, none⟩ (.pointer none) = w0 at h0 n0 ⊢
  obtain ⟨B1, h1, n1⟩ := rol_set (c' := #[.pointer none, .string ⟨#[]⟩, .int .i64 (y.pos : Nat), .int .i64 (y.left : Nat), .pointer (some ⟨P, 0, none⟩), .int .i64 y.size, vq, .bool y.short, .int .i64 (y.told : Nat), .int .u32 (k : Nat), .bool t]) 1 (.string ⟨#[]⟩) h0 rfl
  generalize w0.setCell ⟨x, 1, none⟩ (.string ⟨#[]⟩) = w1 at h1 n1 ⊢
  obtain ⟨B2, h2, n2⟩ := rol_set (c' := #[.pointer none, .string ⟨#[]⟩, .int .i64 0, .int .i64 (y.left : Nat), .pointer (some ⟨P, 0, none⟩), .int .i64 y.size, vq, .bool y.short, .int .i64 (y.told : Nat), .int .u32 (k : Nat), .bool t]) 2 (.int .i64 0) h1 rfl
  generalize w1.setCell ⟨x, 2, none⟩ (.int .i64 0) = w2 at h2 n2 ⊢
  obtain ⟨B3, h3, n3⟩ := rol_set (c' := #[.pointer none, .string ⟨#[]⟩, .int .i64 0, .int .i64 0, .pointer (some ⟨P, 0, none⟩), .int .i64 y.size, vq, .bool y.short, .int .i64 (y.told : Nat), .int .u32 (k : Nat), .bool t]) 3 (.int .i64 0) h2 rfl
  generalize w2.setCell ⟨x, 3, none⟩ (.int .i64 0) = w3 at h3 n3 ⊢
  obtain ⟨B4, h4, n4⟩ := rol_set (c' := #[.pointer none, .string ⟨#[]⟩, .int .i64 0, .int .i64 0, .pointer none, .int .i64 y.size, vq, .bool y.short, .int .i64 (y.told : Nat), .int .u32 (k : Nat), .bool t]) 4 (.pointer none) h3 rfl
  generalize w3.setCell ⟨x, 4, none⟩ (.pointer none) = w4 at h4 n4 ⊢
  obtain ⟨B5, h5, n5⟩ := rol_set (c' := #[.pointer none, .string ⟨#[]⟩, .int .i64 0, .int .i64 0, .pointer none, .int .i64 0, vq, .bool y.short, .int .i64 (y.told : Nat), .int .u32 (k : Nat), .bool t]) 5 (.int .i64 0) h4 rfl
  generalize w4.setCell ⟨x, 5, none⟩ (.int .i64 0) = w5 at h5 n5 ⊢
  obtain ⟨B6, h6, n6⟩ := rol_set (c' := #[.pointer none, .string ⟨#[]⟩, .int .i64 0, .int .i64 0, .pointer none, .int .i64 0, .slice none 0 0, .bool y.short, .int .i64 (y.told : Nat), .int .u32 (k : Nat), .bool t]) 6 (.slice none 0 0) h5 rfl
  generalize w5.setCell ⟨x, 6, none⟩ (.slice none 0 0) = w6 at h6 n6 ⊢
  obtain ⟨B7, h7, n7⟩ := rol_set (c' := #[.pointer none, .string ⟨#[]⟩, .int .i64 0, .int .i64 0, .pointer none, .int .i64 0, .slice none 0 0, .bool false, .int .i64 (y.told : Nat), .int .u32 (k : Nat), .bool t]) 7 (.bool false) h6 rfl
  generalize w6.setCell ⟨x, 7, none⟩ (.bool false) = w7 at h7 n7 ⊢
  obtain ⟨B8, h8, n8⟩ := rol_set (c' := #[.pointer none, .string ⟨#[]⟩, .int .i64 0, .int .i64 0, .pointer none, .int .i64 0, .slice none 0 0, .bool false, .int .i64 (y.told : Nat), .int .u32 (k : Nat), .bool t]) 8 (.int .i64 (y.told : Nat)) h7 rfl
  generalize w7.setCell ⟨x, 8, none⟩ (.int .i64 (y.told : Nat)) = w8 at h8 n8 ⊢
  obtain ⟨B9, h9, n9⟩ := rol_set (c' := #[.pointer none, .string ⟨#[]⟩, .int .i64 0, .int .i64 0, .pointer none, .int .i64 0, .slice none 0 0, .bool false, .int .i64 (y.told : Nat), .int .u32 (k : Nat), .bool t]) 9 (.int .u32 (k : Nat)) h8 rfl
  generalize w8.setCell ⟨x, 9, none⟩ (.int .u32 (k : Nat)) = w9 at h9 n9 ⊢
  obtain ⟨B10, h10, n10⟩ := rol_set (c' := #[.pointer none, .string ⟨#[]⟩, .int .i64 0, .int .i64 0, .pointer none, .int .i64 0, .slice none 0 0, .bool false, .int .i64 (y.told : Nat), .int .u32 (k : Nat), .bool t]) 10 (.bool t) h9 rfl
  generalize w9.setCell ⟨x, 10, none⟩ (.bool t) = w10 at h10 n10 ⊢
  obtain ⟨B', h', n'⟩ := rol_none h10
  exact ⟨B', h', ((((((((((n0.trans n1).trans n2).trans n3).trans n4).trans n5).trans n6).trans n7).trans n8).trans n9).trans n10).trans n'⟩
set_option maxHeartbeats 4000000 in
theorem r_stop (x D P : Nat) (m : N3) (t : Bool) (w : World) (B : Nat → Prop) (h : RO x D P m t w B) :
    Calls Tryz.prog 59 #[.pointer (some ⟨x, 0, none⟩)] w (Does w B (RSh x D P m.s (m.b.give 4) m.x.told (sumN m.x.all) t) (.tuple #[])) := by
  obtain ⟨vq, h⟩ := h
  obtain ⟨k, hk⟩ : ∃ k, k = sumN m.x.all := ⟨_, rfl⟩
  rw [← hk] at h ⊢
  clear hk
  have hb := rol_blk h
  have c4 : w.cell? ⟨x, 4, none⟩ = some (.pointer (some ⟨P, 0, none⟩)) := by rw [cells_at hb]; rfl
  have C := does_at (f := 54) (Q := BuA P (m.b.give 4)) 3 rfl (frs_rol _ _ _ _ _ _ _ _) h fun B2 h2 => bu_give P m.b 4 w B2 h2
  have HC := Lib.hid C
  clear h hb C
  go_enter Tryz.func59, Tryz.ntmps59
  go_wp2_with fail
  refine HC.out.mono ?_; rintro e w1 hd
  obtain ⟨rfl, B1, h1, n1⟩ := hd
  have h2 := stars_gr (frs_rol _ _ _ _ _ _ _ _) h1 (Gr.refl w1).drew
  have n2 := n1.trans (Nx.gr (B := B1) (Gr.refl w1).drew)
  have hb1 := rol_blk h1
  have e8 : w1.cell? ⟨x, 8, none⟩ = some (.int .i64 (m.x.told : Nat)) := by rw [cells_at hb1]; rfl
  have e9 : w1.cell? ⟨x, 9, none⟩ = some (.int .u32 (k : Nat)) := by rw [cells_at hb1]; rfl
  have e10 : w1.cell? ⟨x, 10, none⟩ = some (.bool t) := by rw [cells_at hb1]; rfl
  clear h1 n1 HC hb1 c4
  go_wp2_with fail
  go_still_tail 15, (by kernel_rfl)
  change wpList _ _ _ _ _ w1.drew
  generalize w1.drew = w2 at h2 n2 ⊢
  have hb := rol_blk h2
  have b0 : w2.cell? ⟨x, 0, none⟩ = some (.pointer (some ⟨D, 0, none⟩)) := by rw [cells_at hb]; rfl
  have f0 := cells_free hb 0
  have b1 : w2.cell? ⟨x, 1, none⟩ = some (.string m.x.nm) := by rw [cells_at hb]; rfl
  have f1 := cells_free hb 1
  have b2 : w2.cell? ⟨x, 2, none⟩ = some (.int .i64 (m.x.pos : Nat)) := by rw [cells_at hb]; rfl
  have f2 := cells_free hb 2
  have b3 : w2.cell? ⟨x, 3, none⟩ = some (.int .i64 (m.x.left : Nat)) := by rw [cells_at hb]; rfl
  have f3 := cells_free hb 3
  have b4 : w2.cell? ⟨x, 4, none⟩ = some (.pointer (some ⟨P, 0, none⟩)) := by rw [cells_at hb]; rfl
  have f4 := cells_free hb 4
  have b5 : w2.cell? ⟨x, 5, none⟩ = some (.int .i64 m.x.size) := by rw [cells_at hb]; rfl
  have f5 := cells_free hb 5
  have b6 : w2.cell? ⟨x, 6, none⟩ = some (vq) := by rw [cells_at hb]; rfl
  have f6 := cells_free hb 6
  have b7 : w2.cell? ⟨x, 7, none⟩ = some (.bool m.x.short) := by rw [cells_at hb]; rfl
  have f7 := cells_free hb 7
  have b8 : w2.cell? ⟨x, 8, none⟩ = some (.int .i64 (m.x.told : Nat)) := by rw [cells_at hb]; rfl
  have f8 := cells_free hb 8
  have b9 : w2.cell? ⟨x, 9, none⟩ = some (.int .u32 (k : Nat)) := by rw [cells_at hb]; rfl
  have f9 := cells_free hb 9
  have b10 : w2.cell? ⟨x, 10, none⟩ = some (.bool t) := by rw [cells_at hb]; rfl
  have f10 := cells_free hb 10
  have SH := Lib.hid (ro_shut h2)
  have N2 := Lib.hid n2
  clear h2 n2 hb e8 e9 e10
  go_wp2_with fail
  go_end0
  obtain ⟨B3, h3, n3⟩ := SH.out
  exact ⟨rfl, B3, h3, N2.out.trans n3⟩
/-- The end was told, or not. -/
theorem ro_tell {x D P : Nat} {m : N3} {w : World} {B : Nat → Prop} (h : RO x D P m false w B) : ∃ B', RO x D P m true (w.setCell ⟨x, 10, none⟩ (.bool true)) B' ∧ Nx B w B' (w.setCell ⟨x, 10, none⟩ (.bool true)) := by
  obtain ⟨vq, h⟩ := h
  obtain ⟨B', h', n'⟩ := rol_set (c' := rdc D P m.x vq (sumN m.x.all) true) 10 (.bool true) h rfl
  exact ⟨B', ⟨vq, h'⟩, n'⟩
/-- What a reader knows of its cells. -/
theorem ro_cells {x D P : Nat} {m : N3} {t : Bool} {w : World} {B : Nat → Prop} (h : RO x D P m t w B) : x < w.heap.size ∧ (∀ u, Gr w u → u.cell? ⟨x, 3, none⟩ = some (.int .i64 (m.x.left : Nat)) ∧ u.cell? ⟨x, 8, none⟩ = some (.int .i64 (m.x.told : Nat)) ∧ u.cell? ⟨x, 9, none⟩ = some (.int .u32 (sumN m.x.all : Nat)) ∧ u.cell? ⟨x, 10, none⟩ = some (.bool t) ∧ u.frozen? ⟨x, 10, none⟩ = false) := by
  obtain ⟨vq, h⟩ := h
  refine ⟨lt_of_block (rol_blk h), fun u g => ?_⟩
  have hb := rol_blk (stars_gr (frs_rol _ _ _ _ _ _ _ _) h g)
  exact ⟨by rw [cells_at hb]; rfl, by rw [cells_at hb]; rfl, by rw [cells_at hb]; rfl, by rw [cells_at hb]; rfl, cells_free hb 10⟩
end Go.Proofs.YtpmglnghnelenaaGreat
/- Two Infos that are unlike. -/
namespace Go.Proofs.YtpmglnghnelenaaGreat
open Go.RowKit
set_option linter.unusedVariables false
set_option linter.unusedSimpArgs false
set_option maxRecDepth 20000
theorem info_off (n m n' m' : Int) (h : ¬ (n = n' ∧ m = m')) (w : World) : (Op.equalIn 10000 33 (.agg #[.int .i64 n, .int .u32 m]) (.agg #[.int .i64 n', .int .u32 m'])).run Tryz.prog w = .ok false w := by
  rw [run_equalIn_agg w 9999 _ _ _ (by kernel_rfl) (by kernel_rfl)]
  by_cases h1 : n = n'
  · have h2 : ¬ m = m' := fun e => h ⟨h1, e⟩
    simp [go_sem, h1, h2]
  · simp [go_sem, h1]
theorem info_neqt (n m n' m' : Int) (h : ¬ (n = n' ∧ m = m')) (w : World) : (binOp .neq 33 (.agg #[.int .i64 n, .int .u32 m]) (.agg #[.int .i64 n', .int .u32 m'])).run Tryz.prog w = .ok (.bool true) w := by
  rw [run_neq_struct, info_off n m n' m' h]
  rfl
end Go.Proofs.YtpmglnghnelenaaGreat
