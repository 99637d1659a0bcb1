/- The document's records of cells and pairs. -/
import Derived.Test.YtnmddnhllfojeaaRcPlain
import Derived.Test.YtnmddnhllfojeaaText
namespace Go.Proofs.Ytnmddnhllfojeaa
open Go.RowKit OctPlain RcPlain
set_option linter.unusedVariables false
set_option linter.unusedSimpArgs false
set_option maxRecDepth 20000
theorem ret_b14 {a b : Bool} (h : a = b) : Ending.returned (.bool a) = .returned (.bool b) := by rw [h]
theorem rmust14_c (n k : Int) (hn : I64 n) (hk : I64 k) (w : World) :
    Calls Try.prog 30 #[.int .i64 n, .int .i64 k] w fun e w' => e = .returned (.string (putS n k)) ∧ Gr w w' := by
  go_enter Try.func30, Try.ntmps30
  go_wp2_with fail
  refine (rput_c n k hn hk _).mono ?_; rintro e u ⟨rfl, g⟩
  go_wp2_with fail
  go_ret
  exact ⟨rfl, g⟩
theorem rid14_c (n : Int) (w : World) :
    Calls Try.prog 29 #[.int .i64 n] w fun e w' => e = .returned (.bool (idB n)) ∧ w = w' := by
  unfold idB
  go_enter Try.func29, Try.ntmps29
  go_wp2_with fail
  all_goals
    go_ret
    refine ⟨ret_b14 ?_, rfl⟩
    apply Bool.eq_iff_iff.2
    simp
    try omega
set_option maxHeartbeats 1000000 in
theorem rputcell_c (x y n : Int) (hx : I64 x) (hy : I64 y) (hn : I64 n) (w : World) :
    Calls Try.prog 8 #[.agg #[.int .i64 x, .int .i64 y], .int .i64 n] w fun e w' => e = .returned (.tuple #[.string (cellS x y n), .bool (cellB x y n)]) ∧ Gr w w' := by
  obtain ⟨W, hW⟩ : ∃ W, w.alloc (.cells #[.int .i64 x, .int .i64 y] 23) = W := ⟨_, rfl⟩
  have gW : Gr w W := by rw [← hW]; exact Below.alloc (Below.refl _ _) (Nat.le_refl _) _
  have hb : w.heap.size < W.heap.size := by rw [← hW, World.size_alloc]; omega
  have c1 : W.cell? ⟨w.heap.size, 0, none⟩ = some (.int .i64 x) := by rw [← hW, World.cell?_alloc_new]; rfl
  have c2 : W.cell? ⟨w.heap.size, 1, none⟩ = some (.int .i64 y) := by rw [← hW, World.cell?_alloc_new]; rfl
  have K2 := Lib.hid (fun u (g : Gr W u) => (show u.cell? ⟨w.heap.size, 1, none⟩ = some (.int .i64 y) by rw [Below.cell g (p := ⟨w.heap.size, 1, none⟩) hb]; exact c2))
  have C1 := Lib.hid (fun u => rcoord_c x hx u)
  have C2 := Lib.hid (fun u => rcoord_c y hy u)
  have ID := Lib.hid (fun u => rid14_c n u)
  have MU := Lib.hid (fun u => rmust14_c n 4 hn ⟨by decide, by decide⟩ u)
  have HB := Lib.hid (show cellB x y n = (coordB x && (coordB y && idB n)) from rfl)
  have HS := Lib.hid (fun (h : cellB x y n = true) => (show cellS x y n = (coordS x ++ coordS y) ++ putS n 4 by unfold cellS; rw [if_pos h]))
  have HE := Lib.hid (fun (h : cellB x y n = false) => (show cellS x y n = ⟨#[]⟩ by unfold cellS; rw [if_neg (by rw [h]; simp)]))
  generalize cellB x y n = cb at HB HS HE ⊢
  generalize cellS x y n = cs at HS HE ⊢
  generalize coordB x = b1 at C1 HB
  generalize coordB y = b2 at C2 HB
  generalize idB n = b3 at ID HB
  have z1 := coord_le x
  have z2 := coord_le y
  have z3 := put_le n 4
  generalize coordS x = s1 at C1 HS z1
  generalize coordS y = s2 at C2 HS z2
  generalize putS n 4 = s3 at MU HS z3
  clear c2 hx hy hn
  go_enter Try.func8, Try.ntmps8
  go_wp2_with fail
  refine (C1.out _).mono ?_; rintro e u ⟨rfl, g⟩
  have k2 := K2.out u g
  go_wp2_with fail
  refine (C2.out _).mono ?_; rintro e u2 ⟨rfl, g2⟩
  have gA := gW.trans (g.trans g2)
  clear k2 c1
  cases b1
  · have HB' := HB.out
    have hcb : cb = false := by rw [HB']; rfl
    have HQ := Lib.hid hcb
    clear hcb HB'
    go_wp2_with fail
    go_ret2
    exact ⟨ret_sb (HE.out HQ.out).symm HQ.out.symm, gA⟩
  · cases b2
    · have HB' := HB.out
      have hcb : cb = false := by rw [HB']; rfl
      have HQ := Lib.hid hcb
      clear hcb HB'
      go_wp2_with fail
      go_ret2
      exact ⟨ret_sb (HE.out HQ.out).symm HQ.out.symm, gA⟩
    · cases b3
      · have HB' := HB.out
        have hcb : cb = false := by rw [HB']; rfl
        have HQ := Lib.hid hcb
        clear hcb HB'
        go_wp2_with fail
        refine (ID.out _).mono ?_; rintro e u3 ⟨rfl, rfl⟩
        go_wp2_with fail
        go_ret2
        exact ⟨ret_sb (HE.out HQ.out).symm HQ.out.symm, gA⟩
      · have HB' := HB.out
        have hcb : cb = true := by rw [HB']; rfl
        have HQ := Lib.hid hcb
        clear hcb HB'
        go_wp2_with fail
        refine (ID.out _).mono ?_; rintro e u3 ⟨rfl, rfl⟩
        go_wp2_with fail
        refine (MU.out _).mono ?_; rintro e u4 ⟨rfl, g4⟩
        go_wp2_with fail
        go_ret2
        exact ⟨ret_sb (HS.out HQ.out).symm HQ.out.symm, gA.trans g4⟩
set_option maxHeartbeats 1000000 in
theorem rputpair_c (a b : Int) (ha : I64 a) (hb : I64 b) (w : World) :
    Calls Try.prog 10 #[.agg #[.int .i64 a, .int .i64 b]] w fun e w' => e = .returned (.tuple #[.string (pairS a b), .bool (pairB a b)]) ∧ Gr w w' := by
  obtain ⟨W, hW⟩ : ∃ W, w.alloc (.cells #[.int .i64 a, .int .i64 b] 25) = W := ⟨_, rfl⟩
  have gW : Gr w W := by rw [← hW]; exact Below.alloc (Below.refl _ _) (Nat.le_refl _) _
  have hz : w.heap.size < W.heap.size := by rw [← hW, World.size_alloc]; omega
  have c1 : W.cell? ⟨w.heap.size, 0, none⟩ = some (.int .i64 a) := by rw [← hW, World.cell?_alloc_new]; rfl
  have c2 : W.cell? ⟨w.heap.size, 1, none⟩ = some (.int .i64 b) := by rw [← hW, World.cell?_alloc_new]; rfl
  have SH := Lib.hid (fun u (g : Gr W u) => (⟨g, by rw [Below.cell g (p := ⟨w.heap.size, 0, none⟩) hz]; exact c1, by rw [Below.cell g (p := ⟨w.heap.size, 1, none⟩) hz]; exact c2⟩ : Gr W u ∧ u.cell? ⟨w.heap.size, 0, none⟩ = some (.int .i64 a) ∧ u.cell? ⟨w.heap.size, 1, none⟩ = some (.int .i64 b)))
  have gd : Gr W W.drew := Below.drew (Gr.refl W)
  have IA := Lib.hid (fun u => rid14_c a u)
  have IB := Lib.hid (fun u => rid14_c b u)
  have MA : ∀ u, Gr W u → Calls Try.prog 30 #[.int .i64 a, .int .i64 4] u fun e w' => e = .returned (.string (putS a 4)) ∧ Gr W w' := fun u g => (rmust14_c a 4 ha ⟨by decide, by decide⟩ u).mono (fun e w' h => ⟨h.1, g.trans h.2⟩)
  have MB : ∀ u, Gr W u → Calls Try.prog 30 #[.int .i64 b, .int .i64 4] u fun e w' => e = .returned (.string (putS b 4)) ∧ Gr W w' := fun u g => (rmust14_c b 4 hb ⟨by decide, by decide⟩ u).mono (fun e w' h => ⟨h.1, g.trans h.2⟩)
  have HB := Lib.hid (show pairB a b = (idB a && (idB b && decide (a < b))) from rfl)
  have HS := Lib.hid (fun (h : pairB a b = true) => (show pairS a b = putS a 4 ++ putS b 4 by unfold pairS; rw [if_pos h]))
  have HE := Lib.hid (fun (h : pairB a b = false) => (show pairS a b = ⟨#[]⟩ by unfold pairS; rw [if_neg (by rw [h]; simp)]))
  generalize pairB a b = cb at HB HS HE ⊢
  generalize pairS a b = cs at HS HE ⊢
  generalize idB a = b1 at IA HB
  generalize idB b = b2 at IB HB
  have z1 := put_le a 4
  have z2 := put_le b 4
  generalize putS a 4 = s1 at MA HS z1
  generalize putS b 4 = s2 at MB HS z2
  have HMA := Lib.hid MA
  have HMB := Lib.hid MB
  clear MA MB ha hb
  cases b1
  · have HQ := Lib.hid (show cb = false by rw [HB.out]; rfl)
    go_enter Try.func10, Try.ntmps10
    go_wp2_with fail
    refine (IA.out _).mono ?_; rintro e u3 ⟨rfl, rfl⟩
    go_wp2_with fail
    go_ret2
    exact ⟨ret_sb (HE.out HQ.out).symm HQ.out.symm, gW⟩
  · cases b2
    · have HQ := Lib.hid (show cb = false by rw [HB.out]; rfl)
      go_enter Try.func10, Try.ntmps10
      go_wp2_with fail
      refine (IA.out _).mono ?_; rintro e u3 ⟨rfl, rfl⟩
      go_wp2_with fail
      refine (IB.out _).mono ?_; rintro e u3 ⟨rfl, rfl⟩
      go_wp2_with fail
      go_ret2
      exact ⟨ret_sb (HE.out HQ.out).symm HQ.out.symm, gW⟩
    · by_cases hab : a < b
      · have HQ := Lib.hid (show cb = true by rw [HB.out]; simp [hab])
        have hab2 : ¬ b ≤ a := by omega
        have cat : ∀ u : World, (Op.stringOp .add s1 s2).run Try.prog u = .ok (.string (s1 ++ s2)) u := fun u => run_string_add_sum u s1 s2 (by omega)
        go_enter Try.func10, Try.ntmps10
        go_wp2_with fail
        refine (IA.out _).mono ?_; rintro e u3 ⟨rfl, rfl⟩
        go_wp2_with fail
        refine (IB.out _).mono ?_; rintro e u3 ⟨rfl, rfl⟩
        go_wp2_with fail
        refine text_region (S := fun u => Gr W u ∧ u.cell? ⟨w.heap.size, 0, none⟩ = some (.int .i64 a) ∧ u.cell? ⟨w.heap.size, 1, none⟩ = some (.int .i64 b)) (by kernel_rfl) (by kernel_rfl) (by kernel_rfl) (SH.out _ gd) ?_
        repeat (first
          | (refine text_skip (by rfl) ?_; (try simp only [Act.put, List.setIfInBounds_toArray, List.set_cons_zero, List.set_cons_succ]))
          | (refine text_val (v := ?_) (by rfl) ?_ ?_; rotate_left 1; (· intro u hu; (try dsimp only at hu); go_simp <;> with_reducible rfl); (try simp only [Act.put, List.setIfInBounds_toArray, List.set_cons_zero, List.set_cons_succ]))
          | (refine text_call (fun u hu => ((HMA.out u hu.1).mono (fun e w' h => ⟨h.1, SH.out w' h.2⟩))) (by rfl) ?_ ?_; (· intro u; go_simp); (try simp only [Act.put, List.setIfInBounds_toArray, List.set_cons_zero, List.set_cons_succ]))
          | (refine text_call (fun u hu => ((HMB.out u hu.1).mono (fun e w' h => ⟨h.1, SH.out w' h.2⟩))) (by rfl) ?_ ?_; (· intro u; go_simp); (try simp only [Act.put, List.setIfInBounds_toArray, List.set_cons_zero, List.set_cons_succ])))
        refine text_done (fun u hu => ?_)
        have gu := hu.1
        clear hu
        go_wp2_with fail
        go_ret2
        exact ⟨ret_sb (HS.out HQ.out).symm HQ.out.symm, gW.trans gu⟩
      · have HQ := Lib.hid (show cb = false by rw [HB.out]; simp [hab])
        have hab2 : b ≤ a := by omega
        go_enter Try.func10, Try.ntmps10
        go_wp2_with fail
        refine (IA.out _).mono ?_; rintro e u3 ⟨rfl, rfl⟩
        go_wp2_with fail
        refine (IB.out _).mono ?_; rintro e u3 ⟨rfl, rfl⟩
        go_wp2_with fail
        go_ret2
        exact ⟨ret_sb (HE.out HQ.out).symm HQ.out.symm, gW⟩
end Go.Proofs.Ytnmddnhllfojeaa
