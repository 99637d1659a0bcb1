/- In one text: StAwake. -/
import Derived.Test.YtgopodgjnblgkaaDoorP38
/- The example of layer 21's statements. -/
namespace Go.Proofs.YtgopodgjnblgkaaDoor
open Go.RowKit FsPlain MnPlain RnPlain StPlain
set_option linter.unusedVariables false
set_option linter.unusedSimpArgs false
set_option maxRecDepth 20000
theorem gn_12 : gnB 12 = ⟨#[103, 114, 97, 112, 104, 46, 49, 50]⟩ := by
  unfold gnB
  rw [if_neg (by decide), show (12 : Int).toNat = 12 from rfl, digB_big (n := 12) (by decide), digB_small (n := 12 / 10) (by decide)]
  rfl
theorem awake21_c (w : World) (hT : Tab w) : Calls Tryd.prog 4 #[] w fun e w' => e = .returned (.bool true) ∧ Gr w w' := by
  have NX := Lib.hid (fun u => by
    have h := next21_c 3 0 1 false (by unfold I64; omega) (by unfold I64; omega) (by unfold I64; omega) u
    rw [show nextP 3 0 1 false = (5, 1, true) from by decide] at h
    exact h)
  have GX := Lib.hid (fun u (g : Gr w u) => by
    have h := graph21_c 12 (by decide) (by unfold I64; omega) u (hT.gr g)
    rw [gn_12] at h
    exact h)
  have FX := Lib.hid (fun u (g : Gr w u) => by
    have h := files21_c 5 1 (by unfold I64; omega) (by unfold I64; omega) u (hT.gr g)
    rw [show (filesP 5 1).length = 2 from by unfold filesP; simp] at h
    exact h)
  clear hT
  go_enter Tryd.func4, Tryd.ntmps4
  go_wp2_with fail
  refine (mk21_c 3 0 w).mono ?_; rintro e u1 ⟨rfl, g1⟩
  have G1 := Lib.hid g1
  clear g1
  go_wp2_with fail
  refine (NX.out u1).mono ?_; rintro e u2 ⟨rfl, g2⟩
  obtain ⟨V, hV⟩ : ∃ V, u2.alloc (.cells #[.int .i64 5, .int .i64 1] 25) = V := ⟨_, rfl⟩
  have KV := Lib.hid (show Gr w V ∧ ∀ u, Gr V u → u.heap[u2.heap.size]? = some (.cells #[.int .i64 5, .int .i64 1] 25 (0, 0)) from by
    refine ⟨by rw [← hV]; exact (G1.out.trans g2).trans (gr21 u2 _), fun u g => ?_⟩
    rw [Below.block g _ (by rw [← hV]; simp), ← hV]
    exact heap_alloc_new u2 _)
  have GXv := Lib.hid (GX.out V KV.out.1)
  obtain ⟨k0, k1, _, _⟩ := sp_cells (KV.out.2 V (Gr.refl _))
  clear g2 GX NX G1
  go_wp2_with fail
  refine GXv.out.mono ?_; rintro e u3 ⟨rfl, g3⟩
  obtain ⟨y0, y1, _, _⟩ := sp_cells (KV.out.2 u3 g3)
  have FXv := Lib.hid (FX.out u3 (KV.out.1.trans g3))
  have G3 := Lib.hid (KV.out.1.trans g3)
  clear k0 k1 g3 GXv FX hV KV
  go_wp2_with fail
  refine FXv.out.mono ?_; rintro e u4 ⟨a, c, rfl, _, g4⟩
  have G4 := Lib.hid (G3.out.trans g4)
  clear g4 FXv G3
  go_wp2_with fail
  go_ret
  exact ⟨rfl, G4.out⟩
end Go.Proofs.YtgopodgjnblgkaaDoor
