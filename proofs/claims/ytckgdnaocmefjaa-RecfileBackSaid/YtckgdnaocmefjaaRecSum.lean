/- Contracts of both Sums. -/
import Derived.Test.YtckgdnaocmefjaaRecPlain
import Derived.Test.YtckgdnaocmefjaaCrcRmore
import Derived.StillTailTactics
namespace Go.Proofs.Ytckgdnaocmefjaa
open Go.RowKit CrcPlain OctPlain FramePlain RecPlain
set_option linter.unusedVariables false
set_option linter.unusedSimpArgs false
theorem blk_at {w : World} {b : Nat} {c : Array Value} {T : TypeId} (h : w.heap[b]? = some (.cells c T (0, 0))) (i : Nat) : w.cell? ⟨b, i, none⟩ = c[i]? := by simp [World.cell?, h]
theorem blk_free {w : World} {b : Nat} {c : Array Value} {T : TypeId} (h : w.heap[b]? = some (.cells c T (0, 0))) (i : Nat) : w.frozen? ⟨b, i, none⟩ = false := by simp [World.frozen?, h]
theorem blk_lt {w : World} {b : Nat} {o : Obj} (h : w.heap[b]? = some o) : b < w.heap.size := (Array.getElem?_eq_some_iff.1 h).1
theorem blk_set {w : World} {b : Nat} {c : Array Value} {T : TypeId} (h : w.heap[b]? = some (.cells c T (0, 0))) (i : Nat) (u : Value) : (w.setCell ⟨b, i, none⟩ u).heap[b]? = some (.cells (c.setIfInBounds i u) T (0, 0)) := by
  obtain ⟨hlt, hb⟩ := Array.getElem?_eq_some_iff.1 h
  simp only [World.setCell, Array.getElem?_modify, if_true, h]
  rfl
theorem blk_gr {w u : World} {b : Nat} {o : Obj} (h : w.heap[b]? = some o) (g : Gr w u) : u.heap[b]? = some o := (g.block b (blk_lt h)).trans h
theorem blk_other {w : World} {b : Nat} {o : Obj} (h : w.heap[b]? = some o) (a : Addr) (u : Value) (hne : a.block ≠ b) : (w.setCell a u).heap[b]? = some o := by
  rw [Below.heap_setCell _ _ _ _ (fun e => hne e.symm)]; exact h
theorem sumN_nil : sumN [] = 0 := by decide
theorem sumN_snoc (l : List ByteArray) (x : ByteArray) : sumN (l ++ [x]) = more (sumN l) x.data.toList := by
  unfold sumN; rw [cat_snoc, more_app]
theorem two_blks (w : World) (o p : Obj) : ((w.alloc o).alloc p).heap[w.heap.size]? = some o ∧ ((w.alloc o).alloc p).heap[w.heap.size + 1]? = some p ∧ Below w.heap.size w ((w.alloc o).alloc p) := by
  refine ⟨(Below.heap_alloc _ _ _ (by simp)).trans (heap_alloc_new w _), ?_, ((Gr.refl w).alloc (Nat.le_refl _) _).alloc (by simp) _⟩
  have := heap_alloc_new (w.alloc o) p
  rwa [World.size_alloc] at this
def SumAt (L : List ByteArray) (n : Nat) (w : World) (i : Value) (wr : World) : Prop :=
  ∃ j : Nat, j ≤ n ∧ i = .int .i64 j ∧ wr.heap[w.heap.size]? = some (.cells #[.int .i64 0, .int .u32 0] 29 (0, 0)) ∧ wr.heap[w.heap.size + 1]? = some (.cells #[.int .i64 n, .int .u32 (sumN (L.take j) : Nat)] 29 (0, 0)) ∧ Below w.heap.size w wr
/-- What both Sums come to. -/
def SumGot (L : List ByteArray) (w : World) (e : Ending) (w' : World) : Prop := e = .returned (.agg #[.int .i64 (L.length : Nat), .int .u32 (sumN L : Nat)]) ∧ Gr w w'
theorem sum_start (L : List ByteArray) (n : Nat) (w : World) : SumAt L n w (.int .i64 0) ((w.alloc (.cells #[.int .i64 0, .int .u32 0] 29)).alloc (.cells #[.int .i64 n, .int .u32 0] 29)) := by
  obtain ⟨h1, h2, h3⟩ := two_blks w (.cells #[.int .i64 0, .int .u32 0] 29) (.cells #[.int .i64 n, .int .u32 0] 29)
  refine ⟨0, Nat.zero_le _, rfl, h1, ?_, h3⟩
  rw [List.take_zero, sumN_nil]; exact h2
/-- Behind the store of a further sum. -/
theorem sum_next {L : List ByteArray} {n j : Nat} {w wr u : World} (hj : j < n) (r0 : wr.heap[w.heap.size]? = some (.cells #[.int .i64 0, .int .u32 0] 29 (0, 0)))
    (r1 : wr.heap[w.heap.size + 1]? = some (.cells #[.int .i64 n, .int .u32 (sumN (L.take j) : Nat)] 29 (0, 0))) (hb : Below w.heap.size w wr) (g : Gr wr u) (m : Nat) (hm : m = sumN (L.take (j + 1))) :
    SumAt L n w (.int .i64 ((j : Int) + 1)) (u.setCell ⟨w.heap.size + 1, 1, none⟩ (.int .u32 (m : Nat))) := by
  subst hm
  refine ⟨j + 1, hj, rfl, blk_other (blk_gr r0 g) _ _ (by simp), by simpa using blk_set (blk_gr r1 g) 1 (.int .u32 (sumN (L.take (j + 1)) : Nat)), ?_⟩
  exact ((Gr.of hb).trans g).setCell (p := ⟨w.heap.size + 1, 1, none⟩) (by simp) _
set_option maxHeartbeats 2000000 in
theorem sum_c {w : World} {v : Value} {L : List ByteArray} (h : Lies w v L) (hl : L.length ≤ 1000000) (hz : ∀ s ∈ L, s.size ≤ 1000) :
    Calls Try.prog 19 #[v] w (SumGot L w) := by
  obtain ⟨a, c, rfl, hc, h⟩ := h
  obtain ⟨n, hn⟩ : ∃ n, L.length = n := ⟨_, rfl⟩
  have HN := Lib.hid hn
  have H0 : 1 ≤ n → ∃ b off, a = some ⟨b, off, none⟩ ∧ SRow w b off L := fun h1 => h.elim (fun h0 => by rw [h0] at hn; simp at hn; omega) id
  have H := Lib.hid H0
  have HZ := Lib.hid hz
  have hst := sum_start L n w
  rw [hn] at hl ⊢
  clear h hc hn H0 hz
  go_enter Try.func19, Try.ntmps19
  go_wp2_with fail
  go_loopw [11] (fun i wr => SumAt L n w i wr) (fun i _ => n - (intOf i).toNat)
  case atStart => exact hst
  case round =>
    clear hst
    obtain ⟨j, hj, rfl, r0, r1, hb⟩ := hrel
    have hln := HN.out
    by_cases hlt : j < n
    · obtain ⟨x, hx, hstep, hmem⟩ := take_at (l := L) (j := j) (by omega)
      obtain ⟨b, off, rfl, hr⟩ := H.out (by omega)
      have hcx : wr.cell? ⟨b, off + j, none⟩ = some (.string x) := by rw [hb.cell hr.1]; exact hr.2 j x hx
      have M := fun w => more_c (sumN (L.take j)) (sumN_lt _) x (HZ.out x hmem) w
      have hs := sumN_snoc (L.take j) x
      rw [← hstep] at hs
      have HS := Lib.hid hs.symm
      have c1 : wr.cell? ⟨w.heap.size + 1, 1, none⟩ = some (.int .u32 (sumN (L.take j) : Nat)) := by rw [blk_at r1]; rfl
      have hk : ∀ u, Gr wr u → u.cell? ⟨w.heap.size + 1, 1, none⟩ = some (.int .u32 (sumN (L.take j) : Nat)) ∧ u.frozen? ⟨w.heap.size + 1, 1, none⟩ = false :=
        fun u g => ⟨by rw [blk_at (blk_gr r1 g)]; rfl, blk_free (blk_gr r1 g) 1⟩
      have HK := Lib.hid hk
      have R0 := Lib.hid r0
      have R1 := Lib.hid r1
      have hbs0 : ∀ u, Gr wr u → ∀ m : Nat, m = sumN (L.take (j + 1)) → SumAt L n w (.int .i64 ((j : Int) + 1)) (u.setCell ⟨w.heap.size + 1, 1, none⟩ (.int .u32 (m : Nat))) := fun u g m hm => sum_next hlt r0 r1 hb g m hm
      have hbs := Lib.hid hbs0
      obtain ⟨m, hm⟩ : ∃ m, m = more (sumN (L.take j)) x.data.toList := ⟨_, rfl⟩
      rw [← hm] at M HS
      have HM := Lib.hid hm
      clear hm hs hbs0 hstep hmem hx hk r0 r1 hr H HZ
      go_wp2_with fail
      refine (M _).mono ?_; rintro e u ⟨rfl, g⟩
      obtain ⟨d1, f1⟩ := HK.out u g
      go_wp2_with fail
      refine ⟨hbs.out u g m HS.out, ?_⟩
      simp [intOf]; omega
    · obtain rfl : j = n := by omega
      have hte : L.take j = L := List.take_of_length_le (by omega)
      rw [hte] at r1
      obtain ⟨m, hm⟩ : ∃ m, m = sumN L := ⟨_, rfl⟩
      rw [← hm] at r1
      have hw : Two w w.heap.size (.int .i64 0) (.int .u32 0) wr := ⟨blk_lt r0, by rw [blk_at r0]; rfl, by rw [blk_at r0]; rfl, blk_free r0 0, blk_free r0 1⟩
      obtain ⟨W, hW, d0, d1, gW⟩ := two_set hw (.int .i64 (j : Nat)) (.int .u32 (m : Nat)) (Gr.of hb) (Nat.le_refl _)
      have e0 : wr.cell? ⟨w.heap.size + 1, 0, none⟩ = some (.int .i64 (j : Nat)) := by rw [blk_at r1]; rfl
      have e1 : wr.cell? ⟨w.heap.size + 1, 1, none⟩ = some (.int .u32 (m : Nat)) := by rw [blk_at r1]; rfl
      obtain ⟨hlt2, c0, c1, f0, f1⟩ := hw
      have HW := Lib.hid hW
      have HM := Lib.hid hm
      clear hW r0 r1 hm hte H HZ
      go_wp2_with fail
      rw [← HW.out]
      exact bodyPost_ret (v := .agg #[.int .i64 (j : Nat), .int .u32 (m : Nat)]) (by simp [results, Try.results19, go_sem, d0, d1]) rfl ⟨by rw [hln, HM.out], gW⟩
set_option maxHeartbeats 2000000 in
theorem rsum_c {w : World} {v : Value} {L : List ByteArray} (h : Lies w v L) (hl : L.length ≤ 1000000) (hz : ∀ s ∈ L, s.size ≤ 1000) :
    Calls Try.prog 20 #[v] w (SumGot L w) := by
  obtain ⟨a, c, rfl, hc, h⟩ := h
  obtain ⟨n, hn⟩ : ∃ n, L.length = n := ⟨_, rfl⟩
  have HN := Lib.hid hn
  have H0 : 1 ≤ n → ∃ b off, a = some ⟨b, off, none⟩ ∧ SRow w b off L := fun h1 => h.elim (fun h0 => by rw [h0] at hn; simp at hn; omega) id
  have H := Lib.hid H0
  have HZ := Lib.hid hz
  have hst := sum_start L n w
  rw [hn] at hl ⊢
  clear h hc hn H0 hz
  go_enter Try.func20, Try.ntmps20
  go_wp2_with fail
  go_loopw [4] (fun i wr => SumAt L n w i wr) (fun i _ => n - (intOf i).toNat)
  case atStart => exact hst
  case round =>
    clear hst
    obtain ⟨j, hj, rfl, r0, r1, hb⟩ := hrel
    have hln := HN.out
    by_cases hlt : j < n
    · obtain ⟨x, hx, hstep, hmem⟩ := take_at (l := L) (j := j) (by omega)
      obtain ⟨b, off, rfl, hr⟩ := H.out (by omega)
      have hcx : wr.cell? ⟨b, off + j, none⟩ = some (.string x) := by rw [hb.cell hr.1]; exact hr.2 j x hx
      have M := fun w => rmore_c (sumN (L.take j)) (sumN_lt _) x (HZ.out x hmem) w
      have hs := sumN_snoc (L.take j) x
      rw [← hstep] at hs
      have HS := Lib.hid hs.symm
      have c1 : wr.cell? ⟨w.heap.size + 1, 1, none⟩ = some (.int .u32 (sumN (L.take j) : Nat)) := by rw [blk_at r1]; rfl
      have hk : ∀ u, Gr wr u → u.cell? ⟨w.heap.size + 1, 1, none⟩ = some (.int .u32 (sumN (L.take j) : Nat)) ∧ u.frozen? ⟨w.heap.size + 1, 1, none⟩ = false :=
        fun u g => ⟨by rw [blk_at (blk_gr r1 g)]; rfl, blk_free (blk_gr r1 g) 1⟩
      have HK := Lib.hid hk
      have R0 := Lib.hid r0
      have R1 := Lib.hid r1
      have hbs0 : ∀ u, Gr wr u → ∀ m : Nat, m = sumN (L.take (j + 1)) → SumAt L n w (.int .i64 ((j : Int) + 1)) (u.setCell ⟨w.heap.size + 1, 1, none⟩ (.int .u32 (m : Nat))) := fun u g m hm => sum_next hlt r0 r1 hb g m hm
      have hbs := Lib.hid hbs0
      obtain ⟨m, hm⟩ : ∃ m, m = more (sumN (L.take j)) x.data.toList := ⟨_, rfl⟩
      rw [← hm] at M HS
      have HM := Lib.hid hm
      have MM := Lib.hid (fun w => (M w).mono fun e w' h => (show e = .returned (.int .u32 (m : Nat)) ∧ w' = w from ⟨h.1, h.2.symm⟩))
      have hl2 : (n : Int) ≤ 1000000 := by omega
      clear hm hs hbs0 hstep hmem hx hk r0 r1 hr H HZ M hl
      go_wp2_with fail
      obtain ⟨d1, f1⟩ := HK.out wr (Gr.refl _)
      refine wp_region_still_tail 8 (by kernel_rfl) (by kernel_rfl) ?_
      simp only [List.take_succ_cons, List.take_zero, List.drop_succ_cons, List.drop_zero]
      still_step
      still_step
      still_step
      still_step
      still_step
      still_step
      still_call (MM.out wr.drew)
      still_step
      refine wpStill_nil ?_
      change wpList _ _ _ _ _ wr.drew
      have f2 : wr.drew.frozen? ⟨w.heap.size + 1, 1, none⟩ = false := f1
      have d2 : wr.drew.cell? ⟨w.heap.size + 1, 1, none⟩ = some (.int .u32 (sumN (L.take j) : Nat)) := d1
      go_wp2_with fail
      refine ⟨hbs.out wr.drew (Gr.refl wr).drew m HS.out, ?_⟩
      simp [intOf]; omega
    · obtain rfl : j = n := by omega
      have hte : L.take j = L := List.take_of_length_le (by omega)
      rw [hte] at r1
      obtain ⟨m, hm⟩ : ∃ m, m = sumN L := ⟨_, rfl⟩
      rw [← hm] at r1
      have hw : Two w w.heap.size (.int .i64 0) (.int .u32 0) wr := ⟨blk_lt r0, by rw [blk_at r0]; rfl, by rw [blk_at r0]; rfl, blk_free r0 0, blk_free r0 1⟩
      obtain ⟨W, hW, d0, d1, gW⟩ := two_set hw (.int .i64 (j : Nat)) (.int .u32 (m : Nat)) (Gr.of hb) (Nat.le_refl _)
      have e0 : wr.cell? ⟨w.heap.size + 1, 0, none⟩ = some (.int .i64 (j : Nat)) := by rw [blk_at r1]; rfl
      have e1 : wr.cell? ⟨w.heap.size + 1, 1, none⟩ = some (.int .u32 (m : Nat)) := by rw [blk_at r1]; rfl
      obtain ⟨hlt2, c0, c1, f0, f1⟩ := hw
      have HW := Lib.hid hW
      have HM := Lib.hid hm
      clear hW r0 r1 hm hte H HZ
      go_wp2_with fail
      rw [← HW.out]
      exact bodyPost_ret (v := .agg #[.int .i64 (j : Nat), .int .u32 (m : Nat)]) (by simp [results, Try.results20, go_sem, d0, d1]) rfl ⟨by rw [hln, HM.out], gW⟩
end Go.Proofs.Ytckgdnaocmefjaa
