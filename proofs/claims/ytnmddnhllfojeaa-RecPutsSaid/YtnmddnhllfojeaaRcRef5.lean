/- The document's GetDraw and EdgeLess. -/
import Derived.Test.YtnmddnhllfojeaaRcRef4
namespace Go.Proofs.Ytnmddnhllfojeaa
open Go.RowKit OctPlain RcPlain
set_option linter.unusedVariables false
set_option linter.unusedSimpArgs false
set_option maxRecDepth 20000
set_option maxHeartbeats 2000000 in
theorem rgetdraw_c (s : ByteArray) (hs : s.size ≤ 1000) (w : World) :
    Calls Try.prog 23 #[.string s] w fun e w' => e = .returned (.tuple #[.agg #[.int .i64 (gdrawO s), .int .i64 (gdrawK s), .int .i64 (gdrawL s), .int .i64 (gdrawI s)], .bool (gdrawB s)]) ∧ Gr w w' := by
  have C0 := Lib.hid (fun u => rget_c s 0 4 ⟨by decide, by decide⟩ ⟨by decide, by decide⟩ u hs)
  have C4 := Lib.hid (fun u => rget_c s 4 1 ⟨by decide, by decide⟩ ⟨by decide, by decide⟩ u hs)
  have C5 := Lib.hid (fun u => rget_c s 5 8 ⟨by decide, by decide⟩ ⟨by decide, by decide⟩ u hs)
  have C13 := Lib.hid (fun u => rget_c s 13 4 ⟨by decide, by decide⟩ ⟨by decide, by decide⟩ u hs)
  have I0 := Lib.hid (fun u => rid14_c (getN s 0 4) u)
  have I13 := Lib.hid (fun u => rid14_c (getN s 13 4) u)
  have HB := Lib.hid (show gdrawB s = (decide (s.size = 17) && (getB s 5 8 && (idB (getN s 0 4) && idB (getN s 13 4)))) from rfl)
  have HX := Lib.hid (show gdrawO s = if gdrawB s = true then getN s 0 4 else 0 from rfl)
  have HY := Lib.hid (show gdrawK s = if gdrawB s = true then getN s 4 1 else 0 from rfl)
  have HI := Lib.hid (show gdrawL s = if gdrawB s = true then getN s 5 8 else 0 from rfl)
  have HN := Lib.hid (show gdrawI s = if gdrawB s = true then getN s 13 4 else 0 from rfl)
  obtain ⟨W, hW⟩ : ∃ W, W = w.alloc (.cells #[.int .i64 0, .int .i64 0, .int .i64 0, .int .i64 0] 31) := ⟨_, rfl⟩
  have c0 : Four14 w.heap.size 31 (.int .i64 0) (.int .i64 0) (.int .i64 0) (.int .i64 0) W := by rw [hW]; exact Four14.new w _ _ _ _ _
  have gW : Gr w W := by rw [hW]; exact gral14 _ _
  have HC := Lib.hid c0
  have HW := Lib.hid hW
  clear c0 hW
  generalize gdrawB s = cb at HB HX HY HI HN ⊢
  generalize gdrawO s = rx at HX ⊢
  generalize gdrawK s = ry at HY ⊢
  generalize gdrawL s = ri at HI ⊢
  generalize gdrawI s = rt at HN ⊢
  generalize getB s 0 4 = q0 at C0
  generalize getB s 4 1 = q4 at C4
  generalize getB s 13 4 = q13 at C13
  generalize getB s 5 8 = q5 at C5 HB
  generalize getN s 0 4 = x at C0 HB HX I0
  generalize getN s 4 1 = y at C4 HY
  generalize getN s 5 8 = z at C5 HI
  generalize getN s 13 4 = t at C13 HB HN I13
  generalize idB x = b0 at I0 HB
  generalize idB t = b13 at I13 HB
  have fin : ∀ (x y z t : Int) (b : Bool), rx = x → ry = y → ri = z → rt = t → cb = b → ∀ W', Below w.heap.size w W' →
      (Ending.returned (.tuple #[.agg #[.int .i64 x, .int .i64 y, .int .i64 z, .int .i64 t], .bool b]) = Ending.returned (.tuple #[.agg #[.int .i64 rx, .int .i64 ry, .int .i64 ri, .int .i64 rt], .bool cb])) ∧ Gr w W' := by
    rintro x y z t b rfl rfl rfl rfl rfl W' h2; exact ⟨rfl, h2⟩
  have FIN := Lib.hid fin
  clear fin
  by_cases hz : s.size = 17
  · have t1 : ((s.size : Int) != 17) = false := by simp; omega
    have HZ := Lib.hid hz
    clear hz
    obtain ⟨V', hV⟩ : ∃ V', V' = W.alloc (.cells #[.int .i64 x, .int .i64 y, .int .i64 z, .int .i64 t] 31) := ⟨_, rfl⟩
    have gV : Gr W V' := by rw [hV]; exact gral14 _ _
    have HKV := Lib.hid (show Four14 W.heap.size 31 (.int .i64 x) (.int .i64 y) (.int .i64 z) (.int .i64 t) V' by rw [hV]; exact Four14.new W _ _ _ _ _)
    obtain ⟨⟨p0, p1, p2, p3⟩, _⟩ := HKV.out.at
    have HV := Lib.hid hV
    clear hV
    have k0 := HC.out.gr gV
    have hlt := lt_of_block HC.out
    obtain ⟨⟨e0, e1, e2, e3⟩, f0, f1, f2, f3⟩ := k0.at
    obtain ⟨⟨e4, e5, e6, e7⟩, f4, f5, f6, f7⟩ := HC.out.at
    have H1 := Lib.hid k0
    clear k0
    cases q5
    · have HQ := Lib.hid (show cb = false by rw [HB.out]; simp)
      go_enter Try.func23, Try.ntmps23
      go_wp2_with fail
      rw [← HW.out]
      refine (C0.out _).mono ?_; rintro e u ⟨rfl, rfl⟩
      go_wp2_with fail
      refine (C4.out _).mono ?_; rintro e u ⟨rfl, rfl⟩
      go_wp2_with fail
      refine (C5.out _).mono ?_; rintro e u ⟨rfl, rfl⟩
      go_wp2_with fail
      refine (C13.out _).mono ?_; rintro e u ⟨rfl, rfl⟩
      go_wp2_with fail
      have k := Four14.gr (set4_14 (x := .int .i64 0) (y := .int .i64 0) (z := .int .i64 0) (t := .int .i64 0) HC.out) (gral14 _ (.cells #[.int .i64 x, .int .i64 y, .int .i64 z, .int .i64 t] 31))
      obtain ⟨⟨e0, e1, e2, e3⟩, _⟩ := Four14.at k
      exact bodyPost_ret (v := .tuple #[.agg #[.int .i64 0, .int .i64 0, .int .i64 0, .int .i64 0], .bool false]) (by simp [results, Try.results23, go_sem, e0, e1, e2, e3]) rfl
        (FIN.out _ _ _ _ _ (by rw [HX.out, HQ.out]; rfl) (by rw [HY.out, HQ.out]; rfl) (by rw [HI.out, HQ.out]; rfl) (by rw [HN.out, HQ.out]; rfl) HQ.out _ (Gr.trans (below14_4 gW (Nat.le_refl _)) (gral14 _ _)))
    · cases b0
      · have HQ := Lib.hid (show cb = false by rw [HB.out]; simp)
        go_enter Try.func23, Try.ntmps23
        go_wp2_with fail
        rw [← HW.out]
        refine (C0.out _).mono ?_; rintro e u ⟨rfl, rfl⟩
        go_wp2_with fail
        refine (C4.out _).mono ?_; rintro e u ⟨rfl, rfl⟩
        go_wp2_with fail
        refine (C5.out _).mono ?_; rintro e u ⟨rfl, rfl⟩
        go_wp2_with fail
        refine (C13.out _).mono ?_; rintro e u ⟨rfl, rfl⟩
        go_wp2_with fail
        rw [← HV.out]
        refine (I0.out _).mono ?_; rintro e u ⟨rfl, rfl⟩
        go_wp2_with fail
        have k := set4_14 (x := .int .i64 0) (y := .int .i64 0) (z := .int .i64 0) (t := .int .i64 0) H1.out
        obtain ⟨⟨e0, e1, e2, e3⟩, _⟩ := Four14.at k
        exact bodyPost_ret (v := .tuple #[.agg #[.int .i64 0, .int .i64 0, .int .i64 0, .int .i64 0], .bool false]) (by simp [results, Try.results23, go_sem, e0, e1, e2, e3]) rfl
          (FIN.out _ _ _ _ _ (by rw [HX.out, HQ.out]; rfl) (by rw [HY.out, HQ.out]; rfl) (by rw [HI.out, HQ.out]; rfl) (by rw [HN.out, HQ.out]; rfl) HQ.out _ (below14_4 (gW.trans gV) (Nat.le_refl _)))
      · cases b13
        · have HQ := Lib.hid (show cb = false by rw [HB.out]; simp)
          go_enter Try.func23, Try.ntmps23
          go_wp2_with fail
          rw [← HW.out]
          refine (C0.out _).mono ?_; rintro e u ⟨rfl, rfl⟩
          go_wp2_with fail
          refine (C4.out _).mono ?_; rintro e u ⟨rfl, rfl⟩
          go_wp2_with fail
          refine (C5.out _).mono ?_; rintro e u ⟨rfl, rfl⟩
          go_wp2_with fail
          refine (C13.out _).mono ?_; rintro e u ⟨rfl, rfl⟩
          go_wp2_with fail
          rw [← HV.out]
          refine (I0.out _).mono ?_; rintro e u ⟨rfl, rfl⟩
          go_wp2_with fail
          refine (I13.out _).mono ?_; rintro e u ⟨rfl, rfl⟩
          go_wp2_with fail
          have k := set4_14 (x := .int .i64 0) (y := .int .i64 0) (z := .int .i64 0) (t := .int .i64 0) H1.out
          obtain ⟨⟨e0, e1, e2, e3⟩, _⟩ := Four14.at k
          exact bodyPost_ret (v := .tuple #[.agg #[.int .i64 0, .int .i64 0, .int .i64 0, .int .i64 0], .bool false]) (by simp [results, Try.results23, go_sem, e0, e1, e2, e3]) rfl
            (FIN.out _ _ _ _ _ (by rw [HX.out, HQ.out]; rfl) (by rw [HY.out, HQ.out]; rfl) (by rw [HI.out, HQ.out]; rfl) (by rw [HN.out, HQ.out]; rfl) HQ.out _ (below14_4 (gW.trans gV) (Nat.le_refl _)))
        · have HQ := Lib.hid (show cb = true by rw [HB.out, HZ.out]; rfl)
          go_enter Try.func23, Try.ntmps23
          go_wp2_with fail
          rw [← HW.out]
          refine (C0.out _).mono ?_; rintro e u ⟨rfl, rfl⟩
          go_wp2_with fail
          refine (C4.out _).mono ?_; rintro e u ⟨rfl, rfl⟩
          go_wp2_with fail
          refine (C5.out _).mono ?_; rintro e u ⟨rfl, rfl⟩
          go_wp2_with fail
          refine (C13.out _).mono ?_; rintro e u ⟨rfl, rfl⟩
          go_wp2_with fail
          rw [← HV.out]
          refine (I0.out _).mono ?_; rintro e u ⟨rfl, rfl⟩
          go_wp2_with fail
          refine (I13.out _).mono ?_; rintro e u ⟨rfl, rfl⟩
          go_wp2_with fail
          have k := set4_14 (x := .int .i64 x) (y := .int .i64 y) (z := .int .i64 z) (t := .int .i64 t) H1.out
          obtain ⟨⟨e0, e1, e2, e3⟩, _⟩ := Four14.at k
          exact bodyPost_ret (v := .tuple #[.agg #[.int .i64 x, .int .i64 y, .int .i64 z, .int .i64 t], .bool true]) (by simp [results, Try.results23, go_sem, e0, e1, e2, e3]) rfl
            (FIN.out _ _ _ _ _ (by rw [HX.out, if_pos HQ.out]) (by rw [HY.out, if_pos HQ.out]) (by rw [HI.out, if_pos HQ.out]) (by rw [HN.out, if_pos HQ.out]) HQ.out _ (below14_4 (gW.trans gV) (Nat.le_refl _)))
  · have t1 : ((s.size : Int) != 17) = true := by simp; omega
    have HQ := Lib.hid (show cb = false by rw [HB.out, decide_eq_false hz]; rfl)
    clear hz
    go_enter Try.func23, Try.ntmps23
    go_wp2_with fail
    rw [← HW.out]
    obtain ⟨⟨e0, e1, e2, e3⟩, _⟩ := HC.out.at
    exact bodyPost_ret (v := .tuple #[.agg #[.int .i64 0, .int .i64 0, .int .i64 0, .int .i64 0], .bool false]) (by simp [results, Try.results23, go_sem, e0, e1, e2, e3]) rfl
      (FIN.out _ _ _ _ _ (by rw [HX.out, HQ.out]; rfl) (by rw [HY.out, HQ.out]; rfl) (by rw [HI.out, HQ.out]; rfl) (by rw [HN.out, HQ.out]; rfl) HQ.out _ gW)
/-- One edge stands ahead of another one. -/
def edgeLess (f d i : Int) (nw : Bool) (f' d' i' : Int) (nw' : Bool) : Bool :=
  if f = f' then (if d = d' then (if i = i' then (!nw && nw') else decide (i < i')) else decide (d < d')) else decide (f < f')
set_option maxHeartbeats 2000000 in
theorem redgeless_c (f d i : Int) (nw : Bool) (f' d' i' : Int) (nw' : Bool) (w : World) :
    Calls Try.prog 24 #[.agg #[.int .i64 f, .int .i64 d, .int .i64 i, .bool nw], .agg #[.int .i64 f', .int .i64 d', .int .i64 i', .bool nw']] w fun e w' => e = .returned (.bool (edgeLess f d i nw f' d' i' nw')) ∧ Gr w w' := by
  obtain ⟨W, hW⟩ : ∃ W, W = w.alloc (.cells #[.int .i64 f, .int .i64 d, .int .i64 i, .bool nw] 29) := ⟨_, rfl⟩
  have c0 : Four14 w.heap.size 29 (.int .i64 f) (.int .i64 d) (.int .i64 i) (.bool nw) W := by rw [hW]; exact Four14.new w _ _ _ _ _
  obtain ⟨V, hV⟩ : ∃ V, V = W.alloc (.cells #[.int .i64 f', .int .i64 d', .int .i64 i', .bool nw'] 29) := ⟨_, rfl⟩
  have c1 : Four14 W.heap.size 29 (.int .i64 f') (.int .i64 d') (.int .i64 i') (.bool nw') V := by rw [hV]; exact Four14.new W _ _ _ _ _
  have gV : Gr W V := by rw [hV]; exact gral14 _ _
  have hsz : W.heap.size = w.heap.size + 1 := by rw [hW]; simp
  have gg : Gr w V := Gr.trans (by rw [hW]; exact gral14 _ _) gV
  have c0 := c0.gr gV
  obtain ⟨⟨e0, e1, e2, e3⟩, _⟩ := c0.at
  obtain ⟨⟨p0, p1, p2, p3⟩, _⟩ := c1.at
  rw [hsz] at p0 p1 p2 p3
  rw [hW] at hV
  have HV := Lib.hid hV
  clear c0 c1 hW hV hsz gV
  by_cases h1 : f = f'
  · by_cases h2 : d = d'
    · by_cases h3 : i = i'
      · have HQ := Lib.hid (show edgeLess f d i nw f' d' i' nw' = (!nw && nw') by unfold edgeLess; rw [if_pos h1, if_pos h2, if_pos h3])
        generalize edgeLess f d i nw f' d' i' nw' = r at HQ ⊢
        have t1 : (f != f') = false := by rw [h1]; simp
        have t2 : (d != d') = false := by rw [h2]; simp
        have t3 : (i != i') = false := by rw [h3]; simp
        clear h1 h2 h3
        cases nw
        all_goals
          have HR := HQ.out
          go_enter Try.func24, Try.ntmps24
          go_wp2_with fail
          rw [← HV.out]
          go_wp2_with fail
          go_ret
          exact ⟨ret_b14 (by rw [HQ.out]; rfl), gg⟩
      · have HQ := Lib.hid (show edgeLess f d i nw f' d' i' nw' = decide (i < i') by unfold edgeLess; rw [if_pos h1, if_pos h2, if_neg h3])
        generalize edgeLess f d i nw f' d' i' nw' = r at HQ ⊢
        have t1 : (f != f') = false := by rw [h1]; simp
        have t2 : (d != d') = false := by rw [h2]; simp
        have t3 : (i != i') = true := by simp; exact h3
        clear h1 h2 h3
        go_enter Try.func24, Try.ntmps24
        go_wp2_with fail
        rw [← HV.out]
        go_wp2_with fail
        go_ret
        exact ⟨ret_b14 (by rw [HQ.out]), gg⟩
    · have HQ := Lib.hid (show edgeLess f d i nw f' d' i' nw' = decide (d < d') by unfold edgeLess; rw [if_pos h1, if_neg h2])
      generalize edgeLess f d i nw f' d' i' nw' = r at HQ ⊢
      have t1 : (f != f') = false := by rw [h1]; simp
      have t2 : (d != d') = true := by simp; exact h2
      clear h1 h2
      go_enter Try.func24, Try.ntmps24
      go_wp2_with fail
      rw [← HV.out]
      go_wp2_with fail
      go_ret
      exact ⟨ret_b14 (by rw [HQ.out]), gg⟩
  · have HQ := Lib.hid (show edgeLess f d i nw f' d' i' nw' = decide (f < f') by unfold edgeLess; rw [if_neg h1])
    generalize edgeLess f d i nw f' d' i' nw' = r at HQ ⊢
    have t1 : (f != f') = true := by simp; exact h1
    clear h1
    go_enter Try.func24, Try.ntmps24
    go_wp2_with fail
    rw [← HV.out]
    go_wp2_with fail
    go_ret
    exact ⟨ret_b14 (by rw [HQ.out]), gg⟩
end Go.Proofs.Ytnmddnhllfojeaa
