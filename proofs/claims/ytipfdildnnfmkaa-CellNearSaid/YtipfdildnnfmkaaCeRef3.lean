/- The document's layer 23: Of. -/
import Derived.Test.YtipfdildnnfmkaaCeRef2
namespace Go.Proofs.Ytipfdildnnfmkaa
open Go.RowKit DiPlain NumPlain CePlain
set_option linter.unusedVariables false
set_option linter.unusedSimpArgs false
set_option maxRecDepth 20000
theorem pl_store {u : World} {q : Nat} {x0 y0 : Value} (hc : u.heap[q]? = some (.cells #[x0, y0] 24 (0, 0))) (x y : Value) :
    ((u.setCell ⟨q, 0, none⟩ x).setCell ⟨q, 1, none⟩ y).heap[q]? = some (.cells #[x, y] 24 (0, 0)) := by
  rw [cells_set (cells_set hc 0 _) 1 _]; rfl
theorem pl_cells {u : World} {q : Nat} {x y : Value} (h : u.heap[q]? = some (.cells #[x, y] 24 (0, 0))) : u.cell? ⟨q, 0, none⟩ = some x ∧ u.cell? ⟨q, 1, none⟩ = some y ∧ u.frozen? ⟨q, 0, none⟩ = false ∧ u.frozen? ⟨q, 1, none⟩ = false :=
  ⟨by rw [cells_at h]; rfl, by rw [cells_at h]; rfl, cells_free h 0, cells_free h 1⟩
theorem ofB_no1 {l : List Int} {w : Int} (h : rightV l = false) : ofB l w = false := by unfold ofB; rw [h]; rfl
theorem of_zero {l : List Int} {w : Int} (h : ofB l w = false) : ofX l w = 0 ∧ ofY l w = 0 := by
  unfold ofX ofY
  rw [h]
  exact ⟨rfl, if_neg (fun k => by cases k.1)⟩
set_option maxHeartbeats 2000000 in
theorem rof23_c {w : World} {v : Value} {l : List Int} (h : LiesI w v l) (hl : l.length ≤ 4000) (w0 : Int) (hw : I64 w0) :
    Calls Try.prog 9 #[v, .int .i64 w0] w fun e w' => e = .returned (.tuple #[.agg #[.int .i64 (ofX l w0), .int .i64 (ofY l w0)], .bool (ofB l w0)]) ∧ Gr w w' := by
  have y0 := heap_alloc_new w (.cells #[.int .i64 0, .int .i64 0] 24)
  have g0 := gr23 w (.cells #[.int .i64 0, .int .i64 0] 24)
  obtain ⟨V, hV⟩ : ∃ V, w.alloc (.cells #[.int .i64 0, .int .i64 0] 24) = V := ⟨_, rfl⟩
  have hVz : V.heap.size = w.heap.size + 1 := by rw [← hV]; simp
  rw [hV] at y0 g0
  obtain ⟨z, hz⟩ : ∃ z, w.heap.size = z := ⟨_, rfl⟩
  rw [hz] at y0 hVz
  have HZ := Lib.hid hz
  have HV := Lib.hid hV
  have HY := Lib.hid y0
  have G0 := Lib.hid g0
  have HVZ := Lib.hid hVz
  have hR := rright11_c (h.gr g0) hl
  have H := Lib.hid (h.gr g0)
  obtain ⟨a, c, rfl, hc, hh⟩ := id h
  obtain ⟨d0, d1, f0, f1⟩ := pl_cells y0
  obtain ⟨n, hn⟩ : ∃ n, l.length = n := ⟨_, rfl⟩
  rw [hn] at hc hR H ⊢
  unfold I64 at hw
  have ST := Lib.hid (fun u (g : Gr V u) (x y : Value) => pl_store ((Below.block g z (by rw [HVZ.out]; omega)).trans HY.out) x y)
  have GS := Lib.hid (fun u (g : Gr V u) (x y : Value) => (show Gr w ((u.setCell ⟨z, 0, none⟩ x).setCell ⟨z, 1, none⟩ y) from Below.setCell (Below.setCell (G0.out.trans g) (by rw [HZ.out]; exact Nat.le_refl _) _) (by rw [HZ.out]; exact Nat.le_refl _) _))
  have bad : ofB l w0 = false → (rightV l = false ∨ (rightV l = true ∧ w0 < 1) ∨ (rightV l = true ∧ ¬ w0 < 1 ∧ 2147483648 < w0)) → Calls Try.prog 9 #[.slice a n c, .int .i64 w0] w fun e w' => e = .returned (.tuple #[.agg #[.int .i64 (ofX l w0), .int .i64 (ofY l w0)], .bool (ofB l w0)]) ∧ Gr w w' := by
    intro e2 hcase
    have e := of_zero e2
    rw [e.1, e.2, e2]
    have RR := Lib.hid hR
    clear h hh hV hz g0 y0 hVz hR e e2
    rcases hcase with h1 | ⟨h1, h2⟩ | ⟨h1, h2, h3⟩
    all_goals
      rw [h1] at RR
      clear h1
      go_enter Try.func9, Try.ntmps9
      go_wp2_with fail
      rw [HZ.out, HV.out]
      refine RR.out.mono ?_; rintro e u ⟨rfl, rfl⟩
      go_wp2_with fail
      exact bodyPost_ret (by exact pl_results rfl rfl rfl (ST.out V (Gr.refl _) (.int .i64 0) (.int .i64 0))) rfl ⟨rfl, GS.out V (Gr.refl _) (.int .i64 0) (.int .i64 0)⟩
  cases hr : rightV l with
  | false => exact bad (ofB_no1 hr) (.inl hr)
  | true =>
    by_cases h1 : w0 < 1
    · exact bad (by unfold ofB wideB; rw [decide_eq_false (show ¬ (1 ≤ w0 ∧ w0 ≤ 2147483648) by omega), Bool.and_false]) (.inr (.inl ⟨hr, h1⟩))
    by_cases h2 : 2147483648 < w0
    · exact bad (by unfold ofB wideB; rw [decide_eq_false (show ¬ (1 ≤ w0 ∧ w0 ≤ 2147483648) by omega), Bool.and_false]) (.inr (.inr ⟨hr, h1, h2⟩))
    clear bad
    have hob : ofB l w0 = true := by unfold ofB wideB; rw [hr, decide_eq_true (show 1 ≤ w0 ∧ w0 ≤ 2147483648 by omega)]; rfl
    obtain ⟨⟨hn1, hn2⟩, hfit⟩ := rightV_parts hr
    obtain ⟨b, off, rfl, hrow⟩ := hh.resolve_left (fun e => by rw [e] at hn1; cases hn1)
    have hrowV := hrow.gr g0
    obtain ⟨x0, hx0⟩ : ∃ x, l[0]? = some x := ⟨_, List.getElem?_eq_getElem (by omega)⟩
    have k0 : V.cell? ⟨b, off, none⟩ = some (.int .i64 x0) := by
      have := hrowV.2 0 (.int .i64 x0) (by unfold ints; rw [List.getElem?_map, hx0]; rfl)
      simpa using this
    have b0 := hfit x0 (List.mem_of_getElem? hx0)
    have FL0 := Lib.hid (rfloor_any x0 w0 V ⟨by omega, by omega⟩ hw)
    have hX : ofX l w0 = floorF x0 w0 := by unfold ofX; rw [if_pos hob, List.getD_eq_getElem?_getD, hx0]; rfl
    rw [hob, hX]
    rw [hr] at hR
    have RR := Lib.hid hR
    obtain ⟨f0', hf0⟩ : ∃ f, floorF x0 w0 = f := ⟨_, rfl⟩
    rw [hf0] at FL0 ⊢
    have gX := gr23 V (.cells #[.int .i64 f0', .int .i64 0] 24)
    have q0 : (0 : Int) < (n : Int) := by omega
    have q0' : 0 < n := by omega
    by_cases hn3 : 1 < n
    · obtain ⟨x1, hx1⟩ : ∃ x, l[1]? = some x := ⟨_, List.getElem?_eq_getElem (by omega)⟩
      have hY : ofY l w0 = floorF x1 w0 := by unfold ofY; rw [if_pos ⟨hob, by omega⟩, List.getD_eq_getElem?_getD, hx1]; rfl
      have b1 := hfit x1 (List.mem_of_getElem? hx1)
      rw [hY]
      have k1 : (V.alloc (.cells #[.int .i64 f0', .int .i64 0] 24)).cell? ⟨b, off + 1, none⟩ = some (.int .i64 x1) := (hrowV.gr gX).2 1 (.int .i64 x1) (by unfold ints; rw [List.getElem?_map, hx1]; rfl)
      have FL1 := Lib.hid (fun u => rfloor_any x1 w0 u ⟨by omega, by omega⟩ hw)
      obtain ⟨f1', hf1⟩ : ∃ f, floorF x1 w0 = f := ⟨_, rfl⟩
      rw [hf1] at FL1 ⊢
      have gX2 := gr23 V (.cells #[.int .i64 f0', .int .i64 f1'] 24)
      have zx := pl_cells ((Below.block gX2 z (by omega)).trans y0)
      obtain ⟨zx0, zx1, zx2, zx3⟩ := zx
      have q1 : (1 : Int) < (n : Int) := by omega
      have GX := Lib.hid gX2
      clear h hh hV hz g0 y0 hVz hR hrow hrowV hfit hx0 hx1 hX hY hf0 hf1 b0 b1 gX gX2 hob hr
      go_enter Try.func9, Try.ntmps9
      go_wp2_with fail
      rw [HZ.out, HV.out]
      refine RR.out.mono ?_; rintro e u ⟨rfl, rfl⟩
      go_wp2_with fail
      refine FL0.out.mono ?_; rintro e u ⟨rfl, rfl⟩
      go_wp2_with fail
      refine (FL1.out _).mono ?_; rintro e u ⟨rfl, rfl⟩
      go_wp2_with fail
      exact bodyPost_ret (by exact pl_results rfl rfl rfl (ST.out _ GX.out _ _)) rfl ⟨rfl, GS.out _ GX.out _ _⟩
    · have hY : ofY l w0 = 0 := by unfold ofY; rw [if_neg (fun k => by omega)]
      rw [hY]
      have zx := pl_cells ((Below.block gX z (by omega)).trans y0)
      obtain ⟨zx0, zx1, zx2, zx3⟩ := zx
      have q1 : ¬ (1 : Int) < (n : Int) := by omega
      have GX := Lib.hid gX
      clear h hh hV hz g0 y0 hVz hR hrow hrowV hfit hx0 hX hY hf0 b0 gX hob hr
      go_enter Try.func9, Try.ntmps9
      go_wp2_with fail
      rw [HZ.out, HV.out]
      refine RR.out.mono ?_; rintro e u ⟨rfl, rfl⟩
      go_wp2_with fail
      refine FL0.out.mono ?_; rintro e u ⟨rfl, rfl⟩
      go_wp2_with fail
      exact bodyPost_ret (by exact pl_results rfl rfl rfl (ST.out _ GX.out _ _)) rfl ⟨rfl, GS.out _ GX.out _ _⟩
end Go.Proofs.Ytipfdildnnfmkaa
