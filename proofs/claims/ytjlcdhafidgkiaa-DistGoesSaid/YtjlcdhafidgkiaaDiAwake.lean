/- The chapter's example. -/
import Derived.Test.YtjlcdhafidgkiaaDiSquare
namespace Go.Proofs.Ytjlcdhafidgkiaa
open Go.RowKit DiPlain
set_option linter.unusedVariables false
set_option linter.unusedSimpArgs false
set_option maxRecDepth 20000
/-- A slice of numbers that a call has just made. -/
theorem liesI_new (w : World) (l : List Int) (T : TypeId) (hl : l ≠ []) : LiesI (w.alloc (.cells (ints l).toArray T)) (.slice (some ⟨w.heap.size, 0, none⟩) l.length l.length) l := by
  refine ⟨_, l.length, rfl, Nat.le_refl _, .inr ⟨_, _, rfl, by simp, fun j x hj => ?_⟩⟩
  rw [Nat.zero_add, World.cell?_alloc_new, List.getElem?_toArray]
  exact hj
theorem liesI_nil (w : World) : LiesI w (.slice none 0 0) [] := ⟨none, 0, rfl, Nat.le_refl _, .inl rfl⟩
theorem grA (w : World) (o : Obj) : Gr w (w.alloc o) := Below.alloc (Below.refl _ _) (Nat.le_refl _) _
set_option maxHeartbeats 1000000 in
theorem awake11_c (w : World) : Calls Try.prog 5 #[] w fun e w' => e = .returned (.bool true) ∧ Gr w w' := by
  have A1 := fun (x : World) (v1 v2 : Value) (h1 : LiesI x v1 [1, 2]) (h2 : LiesI x v2 [4, 6]) => dsquare_c h1 h2 (by decide) (by decide)
  have A2 := fun (x : World) (v1 v2 : Value) (h1 : LiesI x v1 [1]) (h2 : LiesI x v2 []) => dsquare_c h1 h2 (by decide) (by decide)
  have A3 := fun (x : World) (v1 v2 : Value) (h1 : LiesI x v1 [1]) (h2 : LiesI x v2 [2]) => dwithin_c h1 h2 (by decide) (by decide) 1
  have A4 := fun (x : World) (v1 v2 : Value) (h1 : LiesI x v1 []) (h2 : LiesI x v2 []) => dwithin_c h1 h2 (by decide) (by decide) 1
  rw [show squareN [1, 2] [4, 6] = 25 by kernel_rfl, show squareE [1, 2] [4, 6] = 0 by kernel_rfl] at A1
  rw [show squareN [1] [] = 0 by kernel_rfl, show squareE [1] [] = 1 by kernel_rfl] at A2
  rw [show withinB [1] [2] 1 = true by kernel_rfl] at A3
  rw [show withinB [] [] 1 = false by kernel_rfl] at A4
  have H1 := Lib.hid A1
  have H2 := Lib.hid A2
  have H3 := Lib.hid A3
  have H4 := Lib.hid A4
  clear A1 A2 A3 A4
  go_enter Try.func5, Try.ntmps5
  go_wp2_with fail
  refine (H1.out _ _ _ ((liesI_new w [1, 2] 3 (by simp)).gr (grA _ _)) (by have := liesI_new (w.alloc (.cells (ints [1, 2]).toArray 3)) [4, 6] 3 (by simp); rw [World.size_alloc] at this; exact this)).mono ?_; rintro e u ⟨rfl, g⟩
  have g1 : Gr w u := ((grA _ _).trans (grA _ _)).trans g
  clear g
  go_wp2_with fail
  refine (H2.out _ _ _ (liesI_new u [1] 3 (by simp)) (liesI_nil _)).mono ?_; rintro e u2 ⟨rfl, g⟩
  have g2 : Gr w u2 := g1.trans ((grA _ _).trans g)
  clear g
  go_wp2_with fail
  refine (H3.out _ _ _ ((liesI_new u2 [1] 3 (by simp)).gr (grA _ _)) (by have := liesI_new (u2.alloc (.cells (ints [1]).toArray 3)) [2] 3 (by simp); rw [World.size_alloc] at this; exact this)).mono ?_; rintro e u3 ⟨rfl, g⟩
  have g3 : Gr w u3 := g2.trans (((grA _ _).trans (grA _ _)).trans g)
  clear g
  go_wp2_with fail
  refine (H4.out _ _ _ (liesI_nil _) (liesI_nil _)).mono ?_; rintro e u4 ⟨rfl, g⟩
  go_wp2_with fail
  go_ret
  exact ⟨rfl, g3.trans g⟩
end Go.Proofs.Ytjlcdhafidgkiaa
