/- The chapter's example. -/
import Derived.Test.YtipfdildnnfmkaaCeProg
namespace Go.Proofs.Ytipfdildnnfmkaa
open Go.RowKit DiPlain NumPlain CePlain Flt
set_option linter.unusedVariables false
set_option linter.unusedSimpArgs false
set_option maxRecDepth 20000
theorem liesI_new23 (w : World) (l : List Int) (T : TypeId) : LiesI (w.alloc (.cells (ints l).toArray T)) (.slice (some ⟨w.heap.size, 0, none⟩) l.length l.length) l := by
  refine ⟨_, l.length, rfl, Nat.le_refl _, .inr ⟨_, _, rfl, by simp, fun j x hj => ?_⟩⟩
  rw [Nat.zero_add, World.cell?_alloc_new, List.getElem?_toArray]
  exact hj
/-- A block that a call has just made for a place. -/
theorem pl_new23 (u : World) (x y : Int) (u2 : World) (g : Gr (u.alloc (.cells #[.int .i64 x, .int .i64 y] 24)) u2) : u2.heap[u.heap.size]? = some (.cells #[.int .i64 x, .int .i64 y] 24 (0, 0)) := by
  rw [Below.block g _ (by simp)]
  exact heap_alloc_new u _
theorem lt_block23 {w : World} {z : Nat} {o : Obj} (h : w.heap[z]? = some o) : z < w.heap.size := by
  rcases Nat.lt_or_ge z w.heap.size with k | k
  · exact k
  · rw [Array.getElem?_eq_none k] at h; cases h
set_option maxHeartbeats 2000000 in
theorem awake23_c (w : World) : Calls Try.prog 7 #[] w fun e w' => e = .returned (.bool true) ∧ Gr w w' := by
  have A1 := fun (x : World) (v : Value) (h : LiesI x v [-1, 5, 9]) => of23_c h (by decide) 3 (by unfold I64; omega)
  rw [show ofX [-1, 5, 9] 3 = -1 by decide +kernel, show ofY [-1, 5, 9] 3 = 1 by decide +kernel, show ofB [-1, 5, 9] 3 = true by decide +kernel] at A1
  have A2 := fun x => go23_c rep_zero rep_one (-1) 1 x
  rw [show goX (-1) 1 0 1 = -1 by decide +kernel, show goY (-1) 1 0 1 = 2 by decide +kernel, show goB (-1) 1 0 1 = true by decide +kernel] at A2
  have A3 := fun x => go23_c rep_two rep_zero (-1) 1 x
  rw [show goX (-1) 1 2 0 = 0 by decide +kernel, show goY (-1) 1 2 0 = 0 by decide +kernel, show goB (-1) 1 2 0 = false by decide +kernel] at A3
  have A4 := fun x => fits23_c 9 3 x
  rw [show fitsB 9 3 = true by decide +kernel] at A4
  have A5 := fun x => fits23_c 10 3 x
  rw [show fitsB 10 3 = false by decide +kernel] at A5
  have H1 := Lib.hid A1
  have H2 := Lib.hid A2
  have H3 := Lib.hid A3
  have H4 := Lib.hid A4
  have H5 := Lib.hid A5
  clear A1 A2 A3 A4 A5
  have E1 := pl_eql (-1) 1 (-1) 1 true (by decide)
  have E2 := pl_eql (-1) 2 (-1) 2 true (by decide)
  go_enter Try.func7, Try.ntmps7
  go_wp2_with fail
  refine (H1.out _ _ (liesI_new23 w [-1, 5, 9] 3)).mono ?_; rintro e u1 ⟨rfl, g1⟩
  obtain ⟨z1, hz1⟩ : ∃ z, u1.heap.size = z := ⟨_, rfl⟩
  have n1 := pl_new23 u1 (-1) 1
  have ga := (gr23 w (.cells (ints [-1, 5, 9]).toArray 3)).trans (g1.trans (gr23 u1 (.cells #[.int .i64 (-1), .int .i64 1] 24)))
  rw [hz1] at n1
  have N1 := Lib.hid n1
  have GA := Lib.hid ga
  clear n1 ga g1
  go_wp2_with fail
  refine (H2.out _).mono ?_; rintro e u2 ⟨rfl, g2⟩
  obtain ⟨z2, hz2⟩ : ∃ z, u2.heap.size = z := ⟨_, rfl⟩
  have n2 := pl_new23 u2 (-1) 2
  rw [hz2] at n2
  have c1 := N1.out u2 g2
  have h12 := lt_block23 c1
  rw [hz2] at h12
  obtain ⟨r0, r1, _, _⟩ := pl_cells (N1.out _ (g2.trans (gr23 u2 (.cells #[.int .i64 (-1), .int .i64 2] 24))))
  have N2 := Lib.hid n2
  have GB := Lib.hid (g2.trans (gr23 u2 (.cells #[.int .i64 (-1), .int .i64 2] 24)))
  clear n2 g2 c1
  go_wp2_with fail
  refine (H3.out _).mono ?_; rintro e u3 ⟨rfl, g3⟩
  have gc := g3.trans (gr23 u3 (.cells #[.int .i64 0, .int .i64 0] 24))
  obtain ⟨s0, s1, _, _⟩ := pl_cells (N1.out _ (GB.out.trans gc))
  obtain ⟨t0, t1, _, _⟩ := pl_cells (N2.out _ gc)
  have GC := Lib.hid (GA.out.trans (GB.out.trans gc))
  clear gc g3 r0 r1
  go_wp2_with fail
  refine (H4.out _).mono ?_; rintro e u4 ⟨rfl, rfl⟩
  go_wp2_with fail
  refine (H5.out _).mono ?_; rintro e u4 ⟨rfl, rfl⟩
  go_wp2_with fail
  go_ret
  exact ⟨rfl, GC.out⟩
end Go.Proofs.Ytipfdildnnfmkaa
