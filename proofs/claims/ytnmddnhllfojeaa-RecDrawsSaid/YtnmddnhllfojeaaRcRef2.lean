/- The document's records of edges and draws. -/
import Derived.Test.YtnmddnhllfojeaaRcRef1
namespace Go.Proofs.Ytnmddnhllfojeaa
open Go.RowKit OctPlain RcPlain
set_option linter.unusedVariables false
set_option linter.unusedSimpArgs false
set_option maxRecDepth 20000
theorem newN_64 (b : Bool) : I64 (newN b) := by cases b <;> (unfold newN I64; simp)
set_option maxHeartbeats 2000000 in
theorem rputedge_c (f d i : Int) (nw : Bool) (hf : I64 f) (hd : I64 d) (hi : I64 i) (w : World) :
    Calls Try.prog 12 #[.agg #[.int .i64 f, .int .i64 d, .int .i64 i, .bool nw]] w fun e w' => e = .returned (.tuple #[.string (edgeS f d i nw), .bool (edgeB f d i)]) ∧ Gr w w' := by
  obtain ⟨W, hW⟩ : ∃ W, w.alloc (.cells #[.int .i64 f, .int .i64 d, .int .i64 i, .bool nw] 29) = W := ⟨_, rfl⟩
  have gW : Gr w W := by rw [← hW]; exact Below.alloc (Below.refl _ _) (Nat.le_refl _) _
  have hz : w.heap.size < W.heap.size := by rw [← hW, World.size_alloc]; omega
  have c0 : W.cell? ⟨w.heap.size, 0, none⟩ = some (.int .i64 f) := by rw [← hW, World.cell?_alloc_new]; rfl
  have c1 : W.cell? ⟨w.heap.size, 1, none⟩ = some (.int .i64 d) := by rw [← hW, World.cell?_alloc_new]; rfl
  have c2 : W.cell? ⟨w.heap.size, 2, none⟩ = some (.int .i64 i) := by rw [← hW, World.cell?_alloc_new]; rfl
  have c3 : W.cell? ⟨w.heap.size, 3, none⟩ = some (.bool nw) := by rw [← hW, World.cell?_alloc_new]; rfl
  have SH := Lib.hid (fun u (g : Gr W u) => (⟨g, by rw [Below.cell g (p := ⟨w.heap.size, 0, none⟩) hz]; exact c0, by rw [Below.cell g (p := ⟨w.heap.size, 1, none⟩) hz]; exact c1, by rw [Below.cell g (p := ⟨w.heap.size, 2, none⟩) hz]; exact c2, by rw [Below.cell g (p := ⟨w.heap.size, 3, none⟩) hz]; exact c3⟩ : Gr W u ∧ u.cell? ⟨w.heap.size, 0, none⟩ = some (.int .i64 f) ∧ u.cell? ⟨w.heap.size, 1, none⟩ = some (.int .i64 d) ∧ u.cell? ⟨w.heap.size, 2, none⟩ = some (.int .i64 i) ∧ u.cell? ⟨w.heap.size, 3, none⟩ = some (.bool nw)))
  have gd : Gr W W.drew := Below.drew (Gr.refl W)
  have M0 : ∀ u, Gr W u → Calls Try.prog 30 #[.int .i64 f, .int .i64 4] u fun e w' => e = .returned (.string (putS f 4)) ∧ Gr W w' := fun u g => (rmust14_c f 4 (by unfold I64 at *; omega) ⟨by decide, by decide⟩ u).mono (fun e w' h => ⟨h.1, g.trans h.2⟩)
  have M1 : ∀ u, Gr W u → Calls Try.prog 30 #[.int .i64 d, .int .i64 8] u fun e w' => e = .returned (.string (putS d 8)) ∧ Gr W w' := fun u g => (rmust14_c d 8 (by unfold I64 at *; omega) ⟨by decide, by decide⟩ u).mono (fun e w' h => ⟨h.1, g.trans h.2⟩)
  have M2 : ∀ u, Gr W u → Calls Try.prog 30 #[.int .i64 i, .int .i64 4] u fun e w' => e = .returned (.string (putS i 4)) ∧ Gr W w' := fun u g => (rmust14_c i 4 (by unfold I64 at *; omega) ⟨by decide, by decide⟩ u).mono (fun e w' h => ⟨h.1, g.trans h.2⟩)
  have M3 : ∀ u, Gr W u → Calls Try.prog 30 #[.int .i64 (newN nw), .int .i64 1] u fun e w' => e = .returned (.string (putS (newN nw) 1)) ∧ Gr W w' := fun u g => (rmust14_c (newN nw) 1 (newN_64 nw) ⟨by decide, by decide⟩ u).mono (fun e w' h => ⟨h.1, g.trans h.2⟩)
  have HB := Lib.hid (show edgeB f d i = (idB f && (idB i && decide (0 ≤ d ∧ d ≤ 4611686018427387904))) from rfl)
  have HS := Lib.hid (fun (h : edgeB f d i = true) => (show edgeS f d i nw = ((putS f 4 ++ putS d 8) ++ putS i 4) ++ putS (newN nw) 1 by unfold edgeS; rw [if_pos h]))
  have HE := Lib.hid (fun (h : edgeB f d i = false) => (show edgeS f d i nw = ⟨#[]⟩ by unfold edgeS; rw [if_neg (by rw [h]; simp)]))
  have I0 := Lib.hid (fun u => rid14_c f u)
  have I1 := Lib.hid (fun u => rid14_c i u)
  generalize edgeB f d i = cb at HB HS HE ⊢
  generalize edgeS f d i nw = cs at HS HE ⊢
  generalize idB f = b0 at I0 HB
  generalize idB i = b1 at I1 HB
  have z0 := put_le f 4
  generalize putS f 4 = s0 at M0 HS z0
  have z1 := put_le d 8
  generalize putS d 8 = s1 at M1 HS z1
  have z2 := put_le i 4
  generalize putS i 4 = s2 at M2 HS z2
  have z3 := put_le (newN nw) 1
  generalize putS (newN nw) 1 = s3 at M3 HS z3
  have cat1 : ∀ u : World, (Op.stringOp .add (s0) s1).run Try.prog u = .ok (.string ((s0) ++ s1)) u := fun u => run_string_add_sum u _ _ (by omega)
  have cat2 : ∀ u : World, (Op.stringOp .add ((s0) ++ s1) s2).run Try.prog u = .ok (.string (((s0) ++ s1) ++ s2)) u := fun u => run_string_add_sum u _ _ (by simp only [ByteArray.size_append]; omega)
  have cat3 : ∀ u : World, (Op.stringOp .add (((s0) ++ s1) ++ s2) s3).run Try.prog u = .ok (.string ((((s0) ++ s1) ++ s2) ++ s3)) u := fun u => run_string_add_sum u _ _ (by simp only [ByteArray.size_append]; omega)
  have HM0 := Lib.hid M0
  have HM1 := Lib.hid M1
  have HM2 := Lib.hid M2
  have HM3 := Lib.hid M3
  clear M0 M1 M2 M3
  cases b0
  · have HQ := Lib.hid (show cb = false by rw [HB.out]; rfl)
    go_enter Try.func12, Try.ntmps12
    go_wp2_with fail
    refine (I0.out _).mono ?_; rintro e u3 ⟨rfl, rfl⟩
    go_wp2_with fail
    go_ret2
    exact ⟨ret_sb (HE.out HQ.out).symm HQ.out.symm, gW⟩
  · cases b1
    · have HQ := Lib.hid (show cb = false by rw [HB.out]; rfl)
      go_enter Try.func12, Try.ntmps12
      go_wp2_with fail
      refine (I0.out _).mono ?_; rintro e u3 ⟨rfl, rfl⟩
      go_wp2_with fail
      refine (I1.out _).mono ?_; rintro e u3 ⟨rfl, rfl⟩
      go_wp2_with fail
      go_ret2
      exact ⟨ret_sb (HE.out HQ.out).symm HQ.out.symm, gW⟩
    · by_cases d < 0
      · have HQ := Lib.hid (show cb = false by rw [HB.out]; simp; omega)
        go_enter Try.func12, Try.ntmps12
        go_wp2_with fail
        refine (I0.out _).mono ?_; rintro e u3 ⟨rfl, rfl⟩
        go_wp2_with fail
        refine (I1.out _).mono ?_; rintro e u3 ⟨rfl, rfl⟩
        go_wp2_with fail
        go_ret2
        exact ⟨ret_sb (HE.out HQ.out).symm HQ.out.symm, gW⟩
      · by_cases 4611686018427387904 < d
        · have HQ := Lib.hid (show cb = false by rw [HB.out]; simp; omega)
          go_enter Try.func12, Try.ntmps12
          go_wp2_with fail
          refine (I0.out _).mono ?_; rintro e u3 ⟨rfl, rfl⟩
          go_wp2_with fail
          refine (I1.out _).mono ?_; rintro e u3 ⟨rfl, rfl⟩
          go_wp2_with fail
          go_ret2
          exact ⟨ret_sb (HE.out HQ.out).symm HQ.out.symm, gW⟩
        · have HQ := Lib.hid (show cb = true by rw [HB.out]; simp; omega)
          cases nw
          · have M3 := HM3.out
            rw [show newN false = 0 from rfl] at M3
            have HM3 := Lib.hid M3
            clear M3
            go_enter Try.func12, Try.ntmps12
            go_wp2_with fail
            refine (I0.out _).mono ?_; rintro e u3 ⟨rfl, rfl⟩
            go_wp2_with fail
            refine (I1.out _).mono ?_; rintro e u3 ⟨rfl, rfl⟩
            go_wp2_with fail
            refine text_region (S := fun u => Gr W u ∧ u.cell? ⟨w.heap.size, 0, none⟩ = some (.int .i64 f) ∧ u.cell? ⟨w.heap.size, 1, none⟩ = some (.int .i64 d) ∧ u.cell? ⟨w.heap.size, 2, none⟩ = some (.int .i64 i) ∧ u.cell? ⟨w.heap.size, 3, none⟩ = some (.bool false)) (by kernel_rfl) (by kernel_rfl) (by kernel_rfl) (SH.out _ gd) ?_
            repeat (first
              | (refine text_skip (by rfl) ?_; (try simp only [Act.put, List.setIfInBounds_toArray, List.set_cons_zero, List.set_cons_succ]))
              | (refine text_val (v := ?_) (by rfl) ?_ ?_; rotate_left 1; (· intro u hu; (try dsimp only at hu); go_simp <;> with_reducible rfl); (try simp only [Act.put, List.setIfInBounds_toArray, List.set_cons_zero, List.set_cons_succ]))
              | (refine text_call (fun u hu => ((HM0.out u hu.1).mono (fun e w' h => ⟨h.1, SH.out w' h.2⟩))) (by rfl) ?_ ?_; (· intro u; go_simp); (try simp only [Act.put, List.setIfInBounds_toArray, List.set_cons_zero, List.set_cons_succ]))
              | (refine text_call (fun u hu => ((HM1.out u hu.1).mono (fun e w' h => ⟨h.1, SH.out w' h.2⟩))) (by rfl) ?_ ?_; (· intro u; go_simp); (try simp only [Act.put, List.setIfInBounds_toArray, List.set_cons_zero, List.set_cons_succ]))
              | (refine text_call (fun u hu => ((HM2.out u hu.1).mono (fun e w' h => ⟨h.1, SH.out w' h.2⟩))) (by rfl) ?_ ?_; (· intro u; go_simp); (try simp only [Act.put, List.setIfInBounds_toArray, List.set_cons_zero, List.set_cons_succ]))
              | (refine text_call (fun u hu => ((HM3.out u hu.1).mono (fun e w' h => ⟨h.1, SH.out w' h.2⟩))) (by rfl) ?_ ?_; (· intro u; go_simp); (try simp only [Act.put, List.setIfInBounds_toArray, List.set_cons_zero, List.set_cons_succ])))
            refine text_done (fun u hu => ?_)
            have gu := hu.1
            clear hu
            go_wp2_with fail
            go_ret2
            exact ⟨ret_sb (HS.out HQ.out).symm HQ.out.symm, gW.trans gu⟩
          · have M3 := HM3.out
            rw [show newN true = 1 from rfl] at M3
            have HM3 := Lib.hid M3
            clear M3
            go_enter Try.func12, Try.ntmps12
            go_wp2_with fail
            refine (I0.out _).mono ?_; rintro e u3 ⟨rfl, rfl⟩
            go_wp2_with fail
            refine (I1.out _).mono ?_; rintro e u3 ⟨rfl, rfl⟩
            go_wp2_with fail
            refine text_region (S := fun u => Gr W u ∧ u.cell? ⟨w.heap.size, 0, none⟩ = some (.int .i64 f) ∧ u.cell? ⟨w.heap.size, 1, none⟩ = some (.int .i64 d) ∧ u.cell? ⟨w.heap.size, 2, none⟩ = some (.int .i64 i) ∧ u.cell? ⟨w.heap.size, 3, none⟩ = some (.bool true)) (by kernel_rfl) (by kernel_rfl) (by kernel_rfl) (SH.out _ gd) ?_
            repeat (first
              | (refine text_skip (by rfl) ?_; (try simp only [Act.put, List.setIfInBounds_toArray, List.set_cons_zero, List.set_cons_succ]))
              | (refine text_val (v := ?_) (by rfl) ?_ ?_; rotate_left 1; (· intro u hu; (try dsimp only at hu); go_simp <;> with_reducible rfl); (try simp only [Act.put, List.setIfInBounds_toArray, List.set_cons_zero, List.set_cons_succ]))
              | (refine text_call (fun u hu => ((HM0.out u hu.1).mono (fun e w' h => ⟨h.1, SH.out w' h.2⟩))) (by rfl) ?_ ?_; (· intro u; go_simp); (try simp only [Act.put, List.setIfInBounds_toArray, List.set_cons_zero, List.set_cons_succ]))
              | (refine text_call (fun u hu => ((HM1.out u hu.1).mono (fun e w' h => ⟨h.1, SH.out w' h.2⟩))) (by rfl) ?_ ?_; (· intro u; go_simp); (try simp only [Act.put, List.setIfInBounds_toArray, List.set_cons_zero, List.set_cons_succ]))
              | (refine text_call (fun u hu => ((HM2.out u hu.1).mono (fun e w' h => ⟨h.1, SH.out w' h.2⟩))) (by rfl) ?_ ?_; (· intro u; go_simp); (try simp only [Act.put, List.setIfInBounds_toArray, List.set_cons_zero, List.set_cons_succ]))
              | (refine text_call (fun u hu => ((HM3.out u hu.1).mono (fun e w' h => ⟨h.1, SH.out w' h.2⟩))) (by rfl) ?_ ?_; (· intro u; go_simp); (try simp only [Act.put, List.setIfInBounds_toArray, List.set_cons_zero, List.set_cons_succ])))
            refine text_done (fun u hu => ?_)
            have gu := hu.1
            clear hu
            go_wp2_with fail
            go_ret2
            exact ⟨ret_sb (HS.out HQ.out).symm HQ.out.symm, gW.trans gu⟩
set_option maxHeartbeats 2000000 in
theorem rputdraw_c (o k l i : Int) (ho : I64 o) (hk : I64 k) (hl : I64 l) (hi : I64 i) (w : World) :
    Calls Try.prog 14 #[.agg #[.int .i64 o, .int .i64 k, .int .i64 l, .int .i64 i]] w fun e w' => e = .returned (.tuple #[.string (drawS o k l i), .bool (drawB o k l i)]) ∧ Gr w w' := by
  obtain ⟨W, hW⟩ : ∃ W, w.alloc (.cells #[.int .i64 o, .int .i64 k, .int .i64 l, .int .i64 i] 31) = W := ⟨_, rfl⟩
  have gW : Gr w W := by rw [← hW]; exact Below.alloc (Below.refl _ _) (Nat.le_refl _) _
  have hz : w.heap.size < W.heap.size := by rw [← hW, World.size_alloc]; omega
  have c0 : W.cell? ⟨w.heap.size, 0, none⟩ = some (.int .i64 o) := by rw [← hW, World.cell?_alloc_new]; rfl
  have c1 : W.cell? ⟨w.heap.size, 1, none⟩ = some (.int .i64 k) := by rw [← hW, World.cell?_alloc_new]; rfl
  have c2 : W.cell? ⟨w.heap.size, 2, none⟩ = some (.int .i64 l) := by rw [← hW, World.cell?_alloc_new]; rfl
  have c3 : W.cell? ⟨w.heap.size, 3, none⟩ = some (.int .i64 i) := by rw [← hW, World.cell?_alloc_new]; rfl
  have SH := Lib.hid (fun u (g : Gr W u) => (⟨g, by rw [Below.cell g (p := ⟨w.heap.size, 0, none⟩) hz]; exact c0, by rw [Below.cell g (p := ⟨w.heap.size, 1, none⟩) hz]; exact c1, by rw [Below.cell g (p := ⟨w.heap.size, 2, none⟩) hz]; exact c2, by rw [Below.cell g (p := ⟨w.heap.size, 3, none⟩) hz]; exact c3⟩ : Gr W u ∧ u.cell? ⟨w.heap.size, 0, none⟩ = some (.int .i64 o) ∧ u.cell? ⟨w.heap.size, 1, none⟩ = some (.int .i64 k) ∧ u.cell? ⟨w.heap.size, 2, none⟩ = some (.int .i64 l) ∧ u.cell? ⟨w.heap.size, 3, none⟩ = some (.int .i64 i)))
  have gd : Gr W W.drew := Below.drew (Gr.refl W)
  have M0 : ∀ u, Gr W u → Calls Try.prog 30 #[.int .i64 o, .int .i64 4] u fun e w' => e = .returned (.string (putS o 4)) ∧ Gr W w' := fun u g => (rmust14_c o 4 (by unfold I64 at *; omega) ⟨by decide, by decide⟩ u).mono (fun e w' h => ⟨h.1, g.trans h.2⟩)
  have M1 : ∀ u, Gr W u → Calls Try.prog 30 #[.int .i64 k, .int .i64 1] u fun e w' => e = .returned (.string (putS k 1)) ∧ Gr W w' := fun u g => (rmust14_c k 1 (by unfold I64 at *; omega) ⟨by decide, by decide⟩ u).mono (fun e w' h => ⟨h.1, g.trans h.2⟩)
  have M2 : ∀ u, Gr W u → Calls Try.prog 30 #[.int .i64 l, .int .i64 8] u fun e w' => e = .returned (.string (putS l 8)) ∧ Gr W w' := fun u g => (rmust14_c l 8 (by unfold I64 at *; omega) ⟨by decide, by decide⟩ u).mono (fun e w' h => ⟨h.1, g.trans h.2⟩)
  have M3 : ∀ u, Gr W u → Calls Try.prog 30 #[.int .i64 i, .int .i64 4] u fun e w' => e = .returned (.string (putS i 4)) ∧ Gr W w' := fun u g => (rmust14_c i 4 (by unfold I64 at *; omega) ⟨by decide, by decide⟩ u).mono (fun e w' h => ⟨h.1, g.trans h.2⟩)
  have HB := Lib.hid (show drawB o k l i = (idB o && (idB i && decide ((0 ≤ k ∧ k ≤ 255) ∧ 0 ≤ l))) from rfl)
  have HS := Lib.hid (fun (h : drawB o k l i = true) => (show drawS o k l i = ((putS o 4 ++ putS k 1) ++ putS l 8) ++ putS i 4 by unfold drawS; rw [if_pos h]))
  have HE := Lib.hid (fun (h : drawB o k l i = false) => (show drawS o k l i = ⟨#[]⟩ by unfold drawS; rw [if_neg (by rw [h]; simp)]))
  have I0 := Lib.hid (fun u => rid14_c o u)
  have I1 := Lib.hid (fun u => rid14_c i u)
  generalize drawB o k l i = cb at HB HS HE ⊢
  generalize drawS o k l i = cs at HS HE ⊢
  generalize idB o = b0 at I0 HB
  generalize idB i = b1 at I1 HB
  have z0 := put_le o 4
  generalize putS o 4 = s0 at M0 HS z0
  have z1 := put_le k 1
  generalize putS k 1 = s1 at M1 HS z1
  have z2 := put_le l 8
  generalize putS l 8 = s2 at M2 HS z2
  have z3 := put_le i 4
  generalize putS i 4 = s3 at M3 HS z3
  have cat1 : ∀ u : World, (Op.stringOp .add (s0) s1).run Try.prog u = .ok (.string ((s0) ++ s1)) u := fun u => run_string_add_sum u _ _ (by omega)
  have cat2 : ∀ u : World, (Op.stringOp .add ((s0) ++ s1) s2).run Try.prog u = .ok (.string (((s0) ++ s1) ++ s2)) u := fun u => run_string_add_sum u _ _ (by simp only [ByteArray.size_append]; omega)
  have cat3 : ∀ u : World, (Op.stringOp .add (((s0) ++ s1) ++ s2) s3).run Try.prog u = .ok (.string ((((s0) ++ s1) ++ s2) ++ s3)) u := fun u => run_string_add_sum u _ _ (by simp only [ByteArray.size_append]; omega)
  have HM0 := Lib.hid M0
  have HM1 := Lib.hid M1
  have HM2 := Lib.hid M2
  have HM3 := Lib.hid M3
  clear M0 M1 M2 M3
  cases b0
  · have HQ := Lib.hid (show cb = false by rw [HB.out]; rfl)
    go_enter Try.func14, Try.ntmps14
    go_wp2_with fail
    refine (I0.out _).mono ?_; rintro e u3 ⟨rfl, rfl⟩
    go_wp2_with fail
    go_ret2
    exact ⟨ret_sb (HE.out HQ.out).symm HQ.out.symm, gW⟩
  · cases b1
    · have HQ := Lib.hid (show cb = false by rw [HB.out]; rfl)
      go_enter Try.func14, Try.ntmps14
      go_wp2_with fail
      refine (I0.out _).mono ?_; rintro e u3 ⟨rfl, rfl⟩
      go_wp2_with fail
      refine (I1.out _).mono ?_; rintro e u3 ⟨rfl, rfl⟩
      go_wp2_with fail
      go_ret2
      exact ⟨ret_sb (HE.out HQ.out).symm HQ.out.symm, gW⟩
    · by_cases k < 0
      · have HQ := Lib.hid (show cb = false by rw [HB.out]; simp; omega)
        go_enter Try.func14, Try.ntmps14
        go_wp2_with fail
        refine (I0.out _).mono ?_; rintro e u3 ⟨rfl, rfl⟩
        go_wp2_with fail
        refine (I1.out _).mono ?_; rintro e u3 ⟨rfl, rfl⟩
        go_wp2_with fail
        go_ret2
        exact ⟨ret_sb (HE.out HQ.out).symm HQ.out.symm, gW⟩
      · by_cases 255 < k
        · have HQ := Lib.hid (show cb = false by rw [HB.out]; simp; omega)
          go_enter Try.func14, Try.ntmps14
          go_wp2_with fail
          refine (I0.out _).mono ?_; rintro e u3 ⟨rfl, rfl⟩
          go_wp2_with fail
          refine (I1.out _).mono ?_; rintro e u3 ⟨rfl, rfl⟩
          go_wp2_with fail
          go_ret2
          exact ⟨ret_sb (HE.out HQ.out).symm HQ.out.symm, gW⟩
        · by_cases l < 0
          · have HQ := Lib.hid (show cb = false by rw [HB.out]; simp; omega)
            go_enter Try.func14, Try.ntmps14
            go_wp2_with fail
            refine (I0.out _).mono ?_; rintro e u3 ⟨rfl, rfl⟩
            go_wp2_with fail
            refine (I1.out _).mono ?_; rintro e u3 ⟨rfl, rfl⟩
            go_wp2_with fail
            go_ret2
            exact ⟨ret_sb (HE.out HQ.out).symm HQ.out.symm, gW⟩
          · have HQ := Lib.hid (show cb = true by rw [HB.out]; simp; omega)
            go_enter Try.func14, Try.ntmps14
            go_wp2_with fail
            refine (I0.out _).mono ?_; rintro e u3 ⟨rfl, rfl⟩
            go_wp2_with fail
            refine (I1.out _).mono ?_; rintro e u3 ⟨rfl, rfl⟩
            go_wp2_with fail
            refine text_region (S := fun u => Gr W u ∧ u.cell? ⟨w.heap.size, 0, none⟩ = some (.int .i64 o) ∧ u.cell? ⟨w.heap.size, 1, none⟩ = some (.int .i64 k) ∧ u.cell? ⟨w.heap.size, 2, none⟩ = some (.int .i64 l) ∧ u.cell? ⟨w.heap.size, 3, none⟩ = some (.int .i64 i)) (by kernel_rfl) (by kernel_rfl) (by kernel_rfl) (SH.out _ gd) ?_
            repeat (first
              | (refine text_skip (by rfl) ?_; (try simp only [Act.put, List.setIfInBounds_toArray, List.set_cons_zero, List.set_cons_succ]))
              | (refine text_val (v := ?_) (by rfl) ?_ ?_; rotate_left 1; (· intro u hu; (try dsimp only at hu); go_simp <;> with_reducible rfl); (try simp only [Act.put, List.setIfInBounds_toArray, List.set_cons_zero, List.set_cons_succ]))
              | (refine text_call (fun u hu => ((HM0.out u hu.1).mono (fun e w' h => ⟨h.1, SH.out w' h.2⟩))) (by rfl) ?_ ?_; (· intro u; go_simp); (try simp only [Act.put, List.setIfInBounds_toArray, List.set_cons_zero, List.set_cons_succ]))
              | (refine text_call (fun u hu => ((HM1.out u hu.1).mono (fun e w' h => ⟨h.1, SH.out w' h.2⟩))) (by rfl) ?_ ?_; (· intro u; go_simp); (try simp only [Act.put, List.setIfInBounds_toArray, List.set_cons_zero, List.set_cons_succ]))
              | (refine text_call (fun u hu => ((HM2.out u hu.1).mono (fun e w' h => ⟨h.1, SH.out w' h.2⟩))) (by rfl) ?_ ?_; (· intro u; go_simp); (try simp only [Act.put, List.setIfInBounds_toArray, List.set_cons_zero, List.set_cons_succ]))
              | (refine text_call (fun u hu => ((HM3.out u hu.1).mono (fun e w' h => ⟨h.1, SH.out w' h.2⟩))) (by rfl) ?_ ?_; (· intro u; go_simp); (try simp only [Act.put, List.setIfInBounds_toArray, List.set_cons_zero, List.set_cons_succ])))
            refine text_done (fun u hu => ?_)
            have gu := hu.1
            clear hu
            go_wp2_with fail
            go_ret2
            exact ⟨ret_sb (HS.out HQ.out).symm HQ.out.symm, gW.trans gu⟩
end Go.Proofs.Ytnmddnhllfojeaa
