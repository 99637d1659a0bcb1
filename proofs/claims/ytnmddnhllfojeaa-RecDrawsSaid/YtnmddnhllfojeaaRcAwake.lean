/- The chapter's example. -/
import Derived.Test.YtnmddnhllfojeaaRcProg
import Derived.Test.YtnmddnhllfojeaaRcEq
namespace Go.Proofs.Ytnmddnhllfojeaa
open Go.RowKit OctPlain RcPlain
set_option linter.unusedVariables false
set_option linter.unusedSimpArgs false
set_option maxRecDepth 20000
theorem edge_size {f d i : Int} {nw : Bool} (h : edgeB f d i = true) : (edgeS f d i nw).size = 17 := by
  unfold edgeB idB at h
  simp only [Bool.and_eq_true, decide_eq_true_eq] at h
  unfold edgeS
  rw [if_pos (by unfold edgeB idB; simp only [Bool.and_eq_true, decide_eq_true_eq]; exact h)]
  have f1 : fitsB f (4 : Nat) = true := fits_nat (by omega) (by omega) (by omega)
  have f2 : fitsB d (8 : Nat) = true := fits_nat (by omega) (by omega) (by omega)
  have f3 : fitsB i (4 : Nat) = true := fits_nat (by omega) (by omega) (by omega)
  have f4 : fitsB (newN nw) (1 : Nat) = true := fits_nat (by omega) (by cases nw <;> decide) (by cases nw <;> decide)
  have s1 : (putS f 4).size = 4 := by have := put_size f1; exact this
  have s2 : (putS d 8).size = 8 := by have := put_size f2; exact this
  have s3 : (putS i 4).size = 4 := by have := put_size f3; exact this
  have s4 : (putS (newN nw) 1).size = 1 := by have := put_size f4; exact this
  simp only [ByteArray.size_append]
  omega
set_option maxHeartbeats 1000000 in
theorem awake14_c (w : World) : Calls Try.prog 15 #[] w fun e w' => e = .returned (.bool true) ∧ Gr w w' := by
  have A1 := fun u => putpair_c 1 2 ⟨by decide, by decide⟩ ⟨by decide, by decide⟩ u
  have A2 := fun u => putpair_c 2 2 ⟨by decide, by decide⟩ ⟨by decide, by decide⟩ u
  have A3 := fun u => putedge_c 1 3 2 true ⟨by decide, by decide⟩ ⟨by decide, by decide⟩ ⟨by decide, by decide⟩ u
  rw [show pairB 1 2 = true by decide, show pairS 1 2 = ⟨#[0, 0, 0, 1, 0, 0, 0, 2]⟩ by kernel_rfl] at A1
  rw [show pairB 2 2 = false by decide] at A2
  have hz := edge_size (f := 1) (d := 3) (i := 2) (nw := true) (by decide)
  rw [show edgeB 1 3 2 = true by decide] at A3
  generalize pairS 2 2 = s2 at A2
  generalize edgeS 1 3 2 true = s3 at A3 hz
  have t3 : ((s3.size : Int) == 17) = true := by simp; omega
  clear hz
  go_enter Try.func15, Try.ntmps15
  go_wp2_with fail
  refine (A1 _).mono ?_; rintro e u ⟨rfl, g1⟩
  go_wp2_with fail
  refine (A2 _).mono ?_; rintro e u2 ⟨rfl, g2⟩
  go_wp2_with fail
  refine (A3 _).mono ?_; rintro e u3 ⟨rfl, g3⟩
  go_wp2_with fail
  go_ret
  exact ⟨rfl, (g1.trans g2).trans g3⟩
end Go.Proofs.Ytnmddnhllfojeaa
