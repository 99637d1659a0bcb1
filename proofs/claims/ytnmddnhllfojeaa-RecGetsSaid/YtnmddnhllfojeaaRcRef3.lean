/- The document's GetCell, GetPair, GetEdge, GetDraw, EdgeLess. -/
import Derived.Test.YtnmddnhllfojeaaRcRef2
import Derived.Test.YtnmddnhllfojeaaRcGetP
import Derived.Test.YtnmddnhllfojeaaOnly
namespace Go.Proofs.Ytnmddnhllfojeaa
open Go.RowKit OctPlain RcPlain
set_option linter.unusedVariables false
set_option linter.unusedSimpArgs false
set_option maxRecDepth 20000
theorem gral14 (w : World) (o : Obj) : Gr w (w.alloc o) := Below.alloc (Below.refl _ _) (Nat.le_refl _) _
/-- A block of two cells of one's own, written anew. -/
theorem set2_14 {W : World} {p : Nat} {a b x y : Value} {T : TypeId} (h : W.heap[p]? = some (.cells #[a, b] T (0, 0))) : ((W.setCell ⟨p, 0, none⟩ x).setCell ⟨p, 1, none⟩ y).heap[p]? = some (.cells #[x, y] T (0, 0)) := by
  simpa using cells_set (cells_set h 0 x) 1 y
theorem below14 {w W : World} {p : Nat} (h : Below w.heap.size w W) (hp : w.heap.size ≤ p) {x y : Value} : Below w.heap.size w ((W.setCell ⟨p, 0, none⟩ x).setCell ⟨p, 1, none⟩ y) :=
  (h.setCell (p := ⟨p, 0, none⟩) hp x).setCell (p := ⟨p, 1, none⟩) hp y
set_option maxHeartbeats 1000000 in
theorem rgetcell_c (s : ByteArray) (hs : s.size ≤ 1000) (w : World) :
    Calls Try.prog 17 #[.string s] w fun e w' => e = .returned (.tuple #[.agg #[.int .i64 (gcellX s), .int .i64 (gcellY s)], .int .i64 (gcellN s), .bool (gcellB s)]) ∧ Gr w w' := by
  have C0 := Lib.hid (fun u => rgcoord_c s 0 ⟨by decide, by decide⟩ u hs)
  have C4 := Lib.hid (fun u => rgcoord_c s 4 ⟨by decide, by decide⟩ u hs)
  have C8 := Lib.hid (fun u => rget_c s 8 4 ⟨by decide, by decide⟩ ⟨by decide, by decide⟩ u hs)
  have ID := Lib.hid (fun u => rid14_c (getN s 8 4) u)
  have HB := Lib.hid (show gcellB s = (decide (s.size = 12) && idB (getN s 8 4)) from rfl)
  have HX := Lib.hid (show gcellX s = if gcellB s = true then gcN s 0 else 0 from rfl)
  have HY := Lib.hid (show gcellY s = if gcellB s = true then gcN s 4 else 0 from rfl)
  have HN := Lib.hid (show gcellN s = if gcellB s = true then getN s 8 4 else 0 from rfl)
  obtain ⟨W, hW⟩ : ∃ W, W = w.alloc (.cells #[.int .i64 0, .int .i64 0] 23) := ⟨_, rfl⟩
  have c0 : W.heap[w.heap.size]? = some (.cells #[.int .i64 0, .int .i64 0] 23 (0, 0)) := by rw [hW]; exact heap_alloc_new w _
  have gW : Gr w W := by rw [hW]; exact gral14 _ _
  have d0 : W.cell? ⟨w.heap.size, 0, none⟩ = some (.int .i64 0) := by rw [cells_at c0]; rfl
  have d1 : W.cell? ⟨w.heap.size, 1, none⟩ = some (.int .i64 0) := by rw [cells_at c0]; rfl
  have f0 : W.frozen? ⟨w.heap.size, 0, none⟩ = false := cells_free c0 0
  have f1 : W.frozen? ⟨w.heap.size, 1, none⟩ = false := cells_free c0 1
  have HC := Lib.hid c0
  have HW := Lib.hid hW
  clear c0 hW
  generalize gcellB s = cb at HB HX HY HN ⊢
  generalize gcellX s = rx at HX ⊢
  generalize gcellY s = ry at HY ⊢
  generalize gcellN s = rn at HN ⊢
  generalize gcN s 0 = x at C0 HX
  generalize gcN s 4 = y at C4 HY
  generalize getB s 8 4 = q8 at C8
  generalize getB s 0 4 = q0 at C0
  generalize getB s 4 4 = q4 at C4
  generalize getN s 8 4 = n at C8 ID HB HN
  generalize idB n = b3 at ID HB
  have fin : ∀ (x y n : Int) (b : Bool), rx = x → ry = y → rn = n → cb = b → ∀ W', W'.heap[w.heap.size]? = some (.cells #[.int .i64 x, .int .i64 y] 23 (0, 0)) → Below w.heap.size w W' →
      (Ending.returned (.tuple #[.agg #[.int .i64 x, .int .i64 y], .int .i64 n, .bool b]) = Ending.returned (.tuple #[.agg #[.int .i64 rx, .int .i64 ry], .int .i64 rn, .bool cb])) ∧ Gr w W' := by
    rintro x y n b rfl rfl rfl rfl W' h1 h2; exact ⟨rfl, h2⟩
  have FIN := Lib.hid fin
  clear fin
  by_cases hz : s.size = 12
  · have t1 : ((s.size : Int) != 12) = false := by simp; omega
    have HZ := Lib.hid hz
    clear hz
    cases b3
    · have HQ := Lib.hid (show cb = false by rw [HB.out, Bool.and_false])
      go_enter Try.func17, Try.ntmps17
      go_wp2_with fail
      rw [← HW.out]
      refine (C0.out _).mono ?_; rintro e u ⟨rfl, rfl⟩
      go_wp2_with fail
      refine (C4.out _).mono ?_; rintro e u ⟨rfl, rfl⟩
      go_wp2_with fail
      refine (C8.out _).mono ?_; rintro e u ⟨rfl, rfl⟩
      go_wp2_with fail
      refine (ID.out _).mono ?_; rintro e u ⟨rfl, rfl⟩
      go_wp2_with fail
      have k := set2_14 (x := .int .i64 0) (y := .int .i64 0) HC.out
      have e0 := cells_at k 0
      have e1 := cells_at k 1
      exact bodyPost_ret (v := .tuple #[.agg #[.int .i64 0, .int .i64 0], .int .i64 0, .bool false]) (by simp [results, Try.results17, go_sem, e0, e1]) rfl
        (FIN.out _ _ _ _ (by rw [HX.out, HQ.out]; rfl) (by rw [HY.out, HQ.out]; rfl) (by rw [HN.out, HQ.out]; rfl) HQ.out _ k (below14 gW (Nat.le_refl _)))
    · have HQ := Lib.hid (show cb = true by rw [HB.out, HZ.out]; rfl)
      go_enter Try.func17, Try.ntmps17
      go_wp2_with fail
      rw [← HW.out]
      refine (C0.out _).mono ?_; rintro e u ⟨rfl, rfl⟩
      go_wp2_with fail
      refine (C4.out _).mono ?_; rintro e u ⟨rfl, rfl⟩
      go_wp2_with fail
      refine (C8.out _).mono ?_; rintro e u ⟨rfl, rfl⟩
      go_wp2_with fail
      refine (ID.out _).mono ?_; rintro e u ⟨rfl, rfl⟩
      go_wp2_with fail
      have k := set2_14 (x := .int .i64 x) (y := .int .i64 y) HC.out
      have e0 := cells_at k 0
      have e1 := cells_at k 1
      exact bodyPost_ret (v := .tuple #[.agg #[.int .i64 x, .int .i64 y], .int .i64 n, .bool true]) (by simp [results, Try.results17, go_sem, e0, e1]) rfl
        (FIN.out _ _ _ _ (by rw [HX.out, if_pos HQ.out]) (by rw [HY.out, if_pos HQ.out]) (by rw [HN.out, if_pos HQ.out]) HQ.out _ k (below14 gW (Nat.le_refl _)))
  · have t1 : ((s.size : Int) != 12) = true := by simp; omega
    have HQ := Lib.hid (show cb = false by rw [HB.out, decide_eq_false hz]; rfl)
    clear hz
    go_enter Try.func17, Try.ntmps17
    go_wp2_with fail
    rw [← HW.out]
    have k := HC.out
    have e0 := cells_at k 0
    have e1 := cells_at k 1
    exact bodyPost_ret (v := .tuple #[.agg #[.int .i64 0, .int .i64 0], .int .i64 0, .bool false]) (by simp [results, Try.results17, go_sem, e0, e1]) rfl
      (FIN.out _ _ _ _ (by rw [HX.out, HQ.out]; rfl) (by rw [HY.out, HQ.out]; rfl) (by rw [HN.out, HQ.out]; rfl) HQ.out _ k gW)
end Go.Proofs.Ytnmddnhllfojeaa
