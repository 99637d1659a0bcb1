/- In one text: St. -/
import Derived.Test.YtgopodgjnblgkaaDoorP34
import Derived.Deep.RegionHeld3
/- The program's layer 21: Fits. -/
namespace Go.Proofs.YtgopodgjnblgkaaDoor
open Go.RowKit FsPlain MnPlain RnPlain StPlain
set_option linter.unusedVariables false
set_option linter.unusedSimpArgs false
set_option maxRecDepth 20000
/-- The manifest handed in, and the step that it tells of. -/
def FtV (w : World) (s p : Int) (v : Value) : World := (w.alloc (.cells #[.int .i64 s, .int .i64 p, v] 34)).alloc (.cells #[.int .i64 s, .int .i64 p] 25)
theorem ftv_at {w u : World} {s p : Int} {v : Value} (g : Gr (FtV w s p v) u) : u.heap[w.heap.size]? = some (.cells #[.int .i64 s, .int .i64 p, v] 34 (0, 0)) ∧ u.heap[w.heap.size + 1]? = some (.cells #[.int .i64 s, .int .i64 p] 25 (0, 0)) ∧ Gr w u := by
  have h1 : (w.alloc (.cells #[.int .i64 s, .int .i64 p, v] 34)).heap.size = w.heap.size + 1 := by simp
  have hz : (FtV w s p v).heap.size = w.heap.size + 2 := by simp [FtV]
  refine ⟨?_, ?_, (grst w _).trans ((grst _ _).trans g)⟩
  · rw [Below.block g _ (by omega)]
    unfold FtV
    rw [Below.block (grst _ _) _ (by omega)]
    exact heap_alloc_new w _
  · rw [Below.block g _ (by omega), ← h1]
    exact heap_alloc_new _ _
theorem grdst {a b : World} (g : Gr a b) : Gr a b.drew := g.drew
set_option maxHeartbeats 2000000 in
theorem fits21_c (m : Mn) (r : Int) {a : Option Addr} {n c : Nat} (w : World) (h : LiesFl w (.slice a n c) m.files) (hl : m.files.length ≤ maxLen) (hK : ∀ f ∈ m.files, flK f) (hs : I64 m.stage) (hp : I64 m.pass) (hr : I64 r) (hT : Tab w) : Calls Tryd.prog 8 #[.agg #[.int .i64 m.stage, .int .i64 m.pass, .slice a n c], .int .i64 r] w fun e w' => e = .returned (.bool (fitP m r)) ∧ Gr w w' := by
  obtain ⟨s, p, l⟩ := m
  simp only at h hl hK hs hp
  obtain ⟨V, hV⟩ : ∃ V, V = FtV w s p (.slice a n c) := ⟨_, rfl⟩
  have HV := Lib.hid (show (w.alloc (.cells #[.int .i64 s, .int .i64 p, .slice a n c] 34)).alloc (.cells #[.int .i64 s, .int .i64 p] 25) = V from by rw [hV]; rfl)
  have VC := Lib.hid (fun u (g : Gr V u) => ftv_at (w := w) (s := s) (p := p) (v := .slice a n c) (by rw [← hV]; exact g))
  have MR := Lib.hid (mright_c s p a n c l V (h.gr (VC.out V (Gr.refl _)).2.2) hl hK)
  have RC := Lib.hid (fun u => right21_c s p r hs hp hr u)
  have FC := Lib.hid (fun u (g : Gr V u) => files21_c s p hs hp u (hT.gr (VC.out u g).2.2))
  have EC := Lib.hid (fun u (g : Gr V u) (b : Option Addr) (d : Nat) (k : LiesFl u (.slice b (filesP s p).length d) (filesP s p)) => eqf21_c a b n (filesP s p).length c d l (filesP s p) u (h.gr (VC.out u g).2.2) k hl (by have := files_few s p; unfold maxLen; omega))
  have SH := Lib.hid (fun u (g : Gr V u) => (show Gr V u ∧ u.cell? ⟨w.heap.size, 2, none⟩ = some (.slice a n c) ∧ u.cell? ⟨w.heap.size + 1, 0, none⟩ = some (.int .i64 s) ∧ u.cell? ⟨w.heap.size + 1, 1, none⟩ = some (.int .i64 p) from ⟨g, by rw [cells_at (VC.out u g).1]; rfl, by rw [cells_at (VC.out u g).2.1]; rfl, by rw [cells_at (VC.out u g).2.1]; rfl⟩))
  obtain ⟨R, hR⟩ : ∃ R, fitP ⟨s, p, l⟩ r = R := ⟨_, rfl⟩
  rw [hR]
  unfold fitP at hR
  simp only at hR
  generalize filesP s p = F at FC EC hR
  cases d1 : mnB ⟨s, p, l⟩
  · rw [d1] at MR hR
    obtain rfl : R = false := by rw [← hR]; rfl
    clear hR hV h hl hK hT hs hp hr d1
    go_enter Tryd.func8, Tryd.ntmps8
    go_wp2_with fail
    rw [HV.out]
    refine MR.out.mono ?_; rintro e u ⟨rfl, g⟩
    go_wp2_with fail
    go_ret
    exact ⟨rfl, (VC.out u g).2.2⟩
  · have hs0 : s ≠ 0 := by
      intro e
      unfold mnB at d1
      rw [decide_eq_false (by rintro ⟨h1, _⟩; simp only at h1; omega), Bool.false_and] at d1
      cases d1
    rw [d1, Bool.true_and, decide_eq_true hs0, Bool.true_and] at hR
    rw [d1] at MR
    cases d2 : rightP s p r
    · rw [d2] at RC hR
      obtain rfl : R = false := by rw [← hR]; rfl
      clear hR hV h hl hK hT hs hp hr d1 d2 hs0
      go_enter Tryd.func8, Tryd.ntmps8
      go_wp2_with fail
      rw [HV.out]
      refine MR.out.mono ?_; rintro e u ⟨rfl, g⟩
      obtain ⟨_, _, y0, y1⟩ := SH.out u g
      go_wp2_with fail
      refine (RC.out u).mono ?_; rintro e u2 ⟨rfl, g2⟩
      go_wp2_with fail
      go_ret
      exact ⟨rfl, (VC.out u2 (g.trans g2)).2.2⟩
    · rw [d2] at RC
      rw [d2, Bool.true_and] at hR
      have HR := Lib.hid hR
      clear hR hV h hl hK hT hs hp hr d1 d2 hs0
      go_enter Tryd.func8, Tryd.ntmps8
      go_wp2_with fail
      rw [HV.out]
      refine MR.out.mono ?_; rintro e u ⟨rfl, g⟩
      obtain ⟨_, _, y0, y1⟩ := SH.out u g
      go_wp2_with fail
      refine (RC.out u).mono ?_; rintro e u2 ⟨rfl, g2⟩
      have gg := Gr.trans g g2
      clear g g2 y0 y1
      go_wp2_with fail
      go_region_held3 (fun u => Gr V u ∧ u.cell? ⟨w.heap.size, 2, none⟩ = some (.slice a n c) ∧ u.cell? ⟨w.heap.size + 1, 0, none⟩ = some (.int .i64 s) ∧ u.cell? ⟨w.heap.size + 1, 1, none⟩ = some (.int .i64 p))
        (first | exact SH.out _ (grdst (by assumption)) | exact SH.out _ (by assumption) | go_keep)
        ((first
          | (go_at_call 9; (with_reducible refine (FC.out _ (by first | exact grdst (by assumption) | assumption)).mono ?_); rintro e u3 ⟨b, d, rfl, hF, g3⟩; have q3 : Gr V u3 := by first | exact Gr.trans (grdst (by assumption)) g3 | exact Gr.trans (by assumption) g3)
          | (go_at_call 14; (with_reducible refine (EC.out _ (by assumption) _ _ (by assumption)).mono ?_); rintro e u4 ⟨rfl, g4⟩; have q4 : Gr V u4 := Gr.trans (by assumption) g4)))
      go_wp2_with fail
      go_ret
      rw [HR.out]
      exact ⟨rfl, (VC.out _ (by assumption)).2.2⟩
end Go.Proofs.YtgopodgjnblgkaaDoor
