/- The program's GetDraw and GetEdge. -/
import Derived.Test.YtnmddnhllfojeaaRcGet
namespace Go.Proofs.Ytnmddnhllfojeaa
open Go.RowKit OctPlain RcPlain
set_option linter.unusedVariables false
set_option linter.unusedSimpArgs false
set_option maxRecDepth 20000
theorem draw_right (s : ByteArray) : (!(((((false || !getB s 0 4) || !getB s 4 1) || !getB s 5 8) || !getB s 13 4) || !(idB (getN s 0 4) && idB (getN s 13 4))) && decide ((17 : Int) = s.size)) = gdrawB s := by
  unfold gdrawB
  by_cases hz : s.size = 17
  · have h0 : getB s 0 4 = true := (get_small (s := s) (a := 0) (k := 4) (by omega) (by omega)).1
    have h4 : getB s 4 1 = true := (get_small (s := s) (a := 4) (k := 1) (by omega) (by omega)).1
    have h13 : getB s 13 4 = true := (get_small (s := s) (a := 13) (k := 4) (by omega) (by omega)).1
    rw [h0, h4, h13, decide_eq_true hz, decide_eq_true (show (17 : Int) = s.size by omega)]
    cases getB s 5 8 <;> cases (idB (getN s 0 4) && idB (getN s 13 4)) <;> rfl
  · rw [decide_eq_false hz, decide_eq_false (show ¬ (17 : Int) = s.size by omega), Bool.and_false, Bool.false_and]
theorem edge_right (s : ByteArray) : (!(((((((false || !getB s 0 4) || !getB s 4 8) || !getB s 12 4) || !getB s 16 1) || !decide (getN s 16 1 ≤ 1)) || !edgeB (getN s 0 4) (getN s 4 8) (getN s 12 4))) && decide ((17 : Int) = s.size)) = gedgeB s := by
  unfold gedgeB
  by_cases hz : s.size = 17
  · have h0 : getB s 0 4 = true := (get_small (s := s) (a := 0) (k := 4) (by omega) (by omega)).1
    have h12 : getB s 12 4 = true := (get_small (s := s) (a := 12) (k := 4) (by omega) (by omega)).1
    have h16 : getB s 16 1 = true := (get_small (s := s) (a := 16) (k := 1) (by omega) (by omega)).1
    rw [h0, h12, h16, decide_eq_true hz, decide_eq_true (show (17 : Int) = s.size by omega)]
    cases getB s 4 8 <;> cases edgeB (getN s 0 4) (getN s 4 8) (getN s 12 4) <;> cases decide (getN s 16 1 ≤ 1) <;> rfl
  · rw [decide_eq_false hz, decide_eq_false (show ¬ (17 : Int) = s.size by omega), Bool.and_false, Bool.false_and]
set_option maxHeartbeats 2000000 in
theorem getdraw_c (s : ByteArray) (hs : s.size ≤ 1000) (w : World) :
    Calls Try.prog 22 #[.string s] w fun e w' => e = .returned (.tuple #[.agg #[.int .i64 (gdrawO s), .int .i64 (gdrawK s), .int .i64 (gdrawL s), .int .i64 (gdrawI s)], .bool (gdrawB s)]) ∧ Gr w w' := by
  have ID := Lib.hid (fun u => isdraw_c (getN s 0 4) (getN s 4 1) (getN s 5 8) (getN s 13 4) u)
  have HB := Lib.hid (draw_right s)
  have HX := Lib.hid (show gdrawO s = if gdrawB s = true then getN s 0 4 else 0 from rfl)
  have HY := Lib.hid (show gdrawK s = if gdrawB s = true then getN s 4 1 else 0 from rfl)
  have HZ := Lib.hid (show gdrawL s = if gdrawB s = true then getN s 5 8 else 0 from rfl)
  have HT := Lib.hid (show gdrawI s = if gdrawB s = true then getN s 13 4 else 0 from rfl)
  have C0 := Lib.hid (fun u q (h : RdrAt (w.heap.size + 1) s 0 q u) => rdr_number_c 4 (a := 0) ⟨by decide, by decide⟩ ⟨by decide, by decide⟩ hs h)
  have C4 := Lib.hid (fun u q (h : RdrAt (w.heap.size + 1) s 4 q u) => rdr_number_c 1 (a := 4) ⟨by decide, by decide⟩ ⟨by decide, by decide⟩ hs h)
  have C5 := Lib.hid (fun u q (h : RdrAt (w.heap.size + 1) s 5 q u) => rdr_number_c 8 (a := 5) ⟨by decide, by decide⟩ ⟨by decide, by decide⟩ hs h)
  have C13 := Lib.hid (fun u q (h : RdrAt (w.heap.size + 1) s 13 q u) => rdr_number_c 4 (a := 13) ⟨by decide, by decide⟩ ⟨by decide, by decide⟩ hs h)
  have CR := Lib.hid (fun u q (h : RdrAt (w.heap.size + 1) s 17 q u) => rdr_right_c (a := 17) ⟨by decide, by decide⟩ hs h)
  obtain ⟨W, hW⟩ : ∃ W, W = (w.alloc (.cells #[.int .i64 0, .int .i64 0, .int .i64 0, .int .i64 0] 37)).alloc (.cells #[.string s, .int .i64 0, .bool false] 67) := ⟨_, rfl⟩
  have st0 : GSt w 37 #[.int .i64 0, .int .i64 0, .int .i64 0, .int .i64 0] s 0 false W := by rw [hW]; exact GSt.new _ _ _ _
  have S0 := Lib.hid st0
  have HW := Lib.hid hW
  clear st0 hW hs
  generalize gdrawB s = cb at HB HX HY HZ HT ⊢
  generalize gdrawO s = rx at HX ⊢
  generalize gdrawK s = ry at HY ⊢
  generalize gdrawL s = rz at HZ ⊢
  generalize gdrawI s = rt at HT ⊢
  generalize getB s 0 4 = q0 at C0 HB
  generalize getB s 4 1 = q4 at C4 HB
  generalize getB s 5 8 = q5 at C5 HB
  generalize getB s 13 4 = q13 at C13 HB
  generalize getN s 0 4 = x at C0 ID HB HX
  generalize getN s 4 1 = y at C4 ID HB HY
  generalize getN s 5 8 = z at C5 ID HB HZ
  generalize getN s 13 4 = t at C13 ID HB HT
  generalize (idB x && idB t) = b3 at ID HB
  have fin : ∀ (x y z t : Int) (b : Bool), rx = x → ry = y → rz = z → rt = t → cb = b → ∀ W', Below w.heap.size w W' →
      (Ending.returned (.tuple #[.agg #[.int .i64 x, .int .i64 y, .int .i64 z, .int .i64 t], .bool b]) = Ending.returned (.tuple #[.agg #[.int .i64 rx, .int .i64 ry, .int .i64 rz, .int .i64 rt], .bool cb])) ∧ Gr w W' := by
    rintro x y z t b rfl rfl rfl rfl rfl W' h2; exact ⟨rfl, h2⟩
  have FIN := Lib.hid fin
  clear fin
  cases cb
  all_goals
    have CQ := Lib.hid (fun u (h : RdrAt (w.heap.size + 1) s 17 (((((false || !q0) || !q4) || !q5) || !q13) || !b3) u) => by have := CR.out u _ h; rw [HB.out] at this; exact this)
    clear CR
    go_enter Try.func22, Try.ntmps22
    go_wp2_with fail
    rw [← HW.out]
    refine (C0.out _ _ S0.out.rdr).mono ?_; rintro e u1 ⟨rfl, r1⟩
    have S1 := Lib.hid (S0.out.next (a' := 4) r1)
    clear r1
    go_wp2_with fail
    refine (C4.out _ _ S1.out.rdr).mono ?_; rintro e u2 ⟨rfl, r2⟩
    have S2 := Lib.hid (S1.out.next (a' := 5) r2)
    clear r2
    go_wp2_with fail
    refine (C5.out _ _ S2.out.rdr).mono ?_; rintro e u3 ⟨rfl, r3⟩
    have S3 := Lib.hid (S2.out.next (a' := 13) r3)
    clear r3
    go_wp2_with fail
    refine (C13.out _ _ S3.out.rdr).mono ?_; rintro e u4 ⟨rfl, r4⟩
    have S4 := Lib.hid (S3.out.next (a' := 17) r4)
    clear r4
    obtain ⟨V, hV⟩ : ∃ V, V = u4.alloc (.cells #[.int .i64 x, .int .i64 y, .int .i64 z, .int .i64 t] 37) := ⟨_, rfl⟩
    have S5 := Lib.hid (show GSt w 37 #[.int .i64 0, .int .i64 0, .int .i64 0, .int .i64 0] s 17 _ V by rw [hV]; exact S4.out.gr (gral14 _ _))
    have L5 := Lib.hid (show Loc14 u4.heap.size 37 #[.int .i64 x, .int .i64 y, .int .i64 z, .int .i64 t] V by rw [hV]; exact Loc14.new _ _ _)
    have HV := Lib.hid hV
    clear hV
    go_wp2_with fail
    rw [← HV.out]
    refine (ID.out _).mono ?_; rintro e u5 ⟨rfl, g5⟩
    have S6 := Lib.hid (S5.out.gr g5)
    have L6 := Lib.hid (L5.out.gr g5)
    clear g5
    go_wp2_with fail
    refine (rdr_note_c b3 S6.out.rdr).mono ?_; rintro e u6 ⟨rfl, r6⟩
    have S7 := Lib.hid (S6.out.next r6)
    have L7 := Lib.hid (L6.out.next r6 S4.out.size)
    clear r6
    go_wp2_with fail
    refine (CQ.out _ S7.out.rdr).mono ?_; rintro e u7 ⟨rfl, g7⟩
    have S8 := S7.out.gr g7
    have L8 := L7.out.gr g7
    obtain ⟨⟨d0, d1, d2, d3⟩, f0, f1, f2, f3⟩ := Four14.at S8.res
    obtain ⟨⟨p0, p1, p2, p3⟩, _⟩ := Four14.at L8
    have HS := Lib.hid S8
    clear S8 L8 g7
    go_wp2_with fail
  · have k := set4_14 (x := .int .i64 0) (y := .int .i64 0) (z := .int .i64 0) (t := .int .i64 0) HS.out.res
    obtain ⟨⟨e0, e1, e2, e3⟩, _⟩ := Four14.at k
    exact bodyPost_ret (v := .tuple #[.agg #[.int .i64 0, .int .i64 0, .int .i64 0, .int .i64 0], .bool false]) (by simp [results, Try.results22, go_sem, e0, e1, e2, e3]) rfl
      (FIN.out _ _ _ _ _ (by rw [HX.out]; rfl) (by rw [HY.out]; rfl) (by rw [HZ.out]; rfl) (by rw [HT.out]; rfl) rfl _ (below14_4 HS.out.bel (Nat.le_refl _)))
  · have k := set4_14 (x := .int .i64 x) (y := .int .i64 y) (z := .int .i64 z) (t := .int .i64 t) HS.out.res
    obtain ⟨⟨e0, e1, e2, e3⟩, _⟩ := Four14.at k
    exact bodyPost_ret (v := .tuple #[.agg #[.int .i64 x, .int .i64 y, .int .i64 z, .int .i64 t], .bool true]) (by simp [results, Try.results22, go_sem, e0, e1, e2, e3]) rfl
      (FIN.out _ _ _ _ _ (by rw [HX.out]; simp) (by rw [HY.out]; simp) (by rw [HZ.out]; simp) (by rw [HT.out]; simp) rfl _ (below14_4 HS.out.bel (Nat.le_refl _)))
theorem Loc14.set3 {p : Nat} {T : TypeId} {a b c d x y z : Value} {W : World} (h : Loc14 p T #[a, b, c, d] W) : Loc14 p T #[a, x, y, z] (((W.setCell ⟨p, 1, none⟩ x).setCell ⟨p, 2, none⟩ y).setCell ⟨p, 3, none⟩ z) := by
  unfold Loc14 at h ⊢
  simpa using cells_set (cells_set (cells_set h 1 x) 2 y) 3 z
theorem GSt.set3 {w W : World} {T : TypeId} {v : Array Value} {s : ByteArray} {a : Int} {q : Bool} {p : Nat} {x y z : Value} (h : GSt w T v s a q W) (hp : w.heap.size + 1 < p) : GSt w T v s a q (((W.setCell ⟨p, 1, none⟩ x).setCell ⟨p, 2, none⟩ y).setCell ⟨p, 3, none⟩ z) := by
  have o : Only (fun i => i = p) W (((W.setCell ⟨p, 1, none⟩ x).setCell ⟨p, 2, none⟩ y).setCell ⟨p, 3, none⟩ z) :=
    ((Only.cell1 _ _ _ _).trans (Only.cell1 _ _ _ _)).trans (Only.cell1 _ _ _ _)
  refine ⟨(o.block _ (lt_of_block h.res) (by omega)).trans h.res, (o.block _ (lt_of_block h.rdr) (by omega)).trans h.rdr, Below.trans h.bel (o.toBelow h.bel.size (fun i hi => by omega))⟩
set_option maxHeartbeats 4000000 in
theorem getedge_c (s : ByteArray) (hs : s.size ≤ 1000) (w : World) :
    Calls Try.prog 20 #[.string s] w fun e w' => e = .returned (.tuple #[.agg #[.int .i64 (gedgeF s), .int .i64 (gedgeD s), .int .i64 (gedgeI s), .bool (gedgeW s)], .bool (gedgeB s)]) ∧ Gr w w' := by
  have ID := Lib.hid (fun u => isedge_c (getN s 0 4) (getN s 4 8) (getN s 12 4) (decide (getN s 16 1 = 1)) u)
  have HB := Lib.hid (edge_right s)
  have HX := Lib.hid (show gedgeF s = if gedgeB s = true then getN s 0 4 else 0 from rfl)
  have HY := Lib.hid (show gedgeD s = if gedgeB s = true then getN s 4 8 else 0 from rfl)
  have HZ := Lib.hid (show gedgeI s = if gedgeB s = true then getN s 12 4 else 0 from rfl)
  have HT := Lib.hid (show gedgeW s = (gedgeB s && decide (getN s 16 1 = 1)) from rfl)
  have C0 := Lib.hid (fun u q (h : RdrAt (w.heap.size + 1) s 0 q u) => rdr_number_c 4 (a := 0) ⟨by decide, by decide⟩ ⟨by decide, by decide⟩ hs h)
  have C4 := Lib.hid (fun u q (h : RdrAt (w.heap.size + 1) s 4 q u) => rdr_number_c 8 (a := 4) ⟨by decide, by decide⟩ ⟨by decide, by decide⟩ hs h)
  have C12 := Lib.hid (fun u q (h : RdrAt (w.heap.size + 1) s 12 q u) => rdr_number_c 4 (a := 12) ⟨by decide, by decide⟩ ⟨by decide, by decide⟩ hs h)
  have C16 := Lib.hid (fun u q (h : RdrAt (w.heap.size + 1) s 16 q u) => rdr_flag_c 1 (a := 16) ⟨by decide, by decide⟩ ⟨by decide, by decide⟩ hs h)
  have CR := Lib.hid (fun u q (h : RdrAt (w.heap.size + 1) s 17 q u) => rdr_right_c (a := 17) ⟨by decide, by decide⟩ hs h)
  obtain ⟨W, hW⟩ : ∃ W, W = (w.alloc (.cells #[.int .i64 0, .int .i64 0, .int .i64 0, .bool false] 29)).alloc (.cells #[.string s, .int .i64 0, .bool false] 67) := ⟨_, rfl⟩
  have st0 : GSt w 29 #[.int .i64 0, .int .i64 0, .int .i64 0, .bool false] s 0 false W := by rw [hW]; exact GSt.new _ _ _ _
  have S0 := Lib.hid st0
  have HW := Lib.hid hW
  clear st0 hW hs
  generalize gedgeB s = cb at HB HX HY HZ HT ⊢
  generalize gedgeF s = rx at HX ⊢
  generalize gedgeD s = ry at HY ⊢
  generalize gedgeI s = rz at HZ ⊢
  generalize gedgeW s = rt at HT ⊢
  generalize getB s 0 4 = q0 at C0 HB
  generalize getB s 4 8 = q4 at C4 HB
  generalize getB s 12 4 = q12 at C12 HB
  generalize getB s 16 1 = q16 at C16 HB
  generalize getN s 0 4 = x at C0 ID HB HX
  generalize getN s 4 8 = y at C4 ID HB HY
  generalize getN s 12 4 = z at C12 ID HB HZ
  generalize decide (getN s 16 1 = 1) = t at C16 ID HT
  generalize decide (getN s 16 1 ≤ 1) = l1 at C16 HB
  generalize edgeB x y z = b3 at ID HB
  have fin : ∀ (x y z : Int) (t : Bool) (b : Bool), rx = x → ry = y → rz = z → rt = t → cb = b → ∀ W', Below w.heap.size w W' →
      (Ending.returned (.tuple #[.agg #[.int .i64 x, .int .i64 y, .int .i64 z, .bool t], .bool b]) = Ending.returned (.tuple #[.agg #[.int .i64 rx, .int .i64 ry, .int .i64 rz, .bool rt], .bool cb])) ∧ Gr w W' := by
    rintro x y z t b rfl rfl rfl rfl rfl W' h2; exact ⟨rfl, h2⟩
  have FIN := Lib.hid fin
  clear fin
  cases cb
  all_goals
    have CQ := Lib.hid (fun u (h : RdrAt (w.heap.size + 1) s 17 ((((((false || !q0) || !q4) || !q12) || !q16) || !l1) || !b3) u) => by have := CR.out u _ h; rw [HB.out] at this; exact this)
    clear CR
    go_enter Try.func20, Try.ntmps20
    go_wp2_with fail
    rw [← HW.out]
    refine (C0.out _ _ S0.out.rdr).mono ?_; rintro e u1 ⟨rfl, r1⟩
    have S1 := Lib.hid (S0.out.next (a' := 4) r1)
    clear r1
    obtain ⟨V, hV⟩ : ∃ V, V = u1.alloc (.cells #[.int .i64 x, .int .i64 0, .int .i64 0, .bool false] 29) := ⟨_, rfl⟩
    have S2 := Lib.hid (show GSt w 29 #[.int .i64 0, .int .i64 0, .int .i64 0, .bool false] s 4 _ V by rw [hV]; exact S1.out.gr (gral14 _ _))
    have L2 := Lib.hid (show Loc14 u1.heap.size 29 #[.int .i64 x, .int .i64 0, .int .i64 0, .bool false] V by rw [hV]; exact Loc14.new _ _ _)
    have HV := Lib.hid hV
    clear hV
    go_wp2_with fail
    rw [← HV.out]
    refine (C4.out _ _ S2.out.rdr).mono ?_; rintro e u2 ⟨rfl, r2⟩
    have S3 := Lib.hid (S2.out.next (a' := 12) r2)
    have L3 := Lib.hid (L2.out.next r2 S1.out.size)
    clear r2
    go_wp2_with fail
    refine (C12.out _ _ S3.out.rdr).mono ?_; rintro e u3 ⟨rfl, r3⟩
    have S4 := Lib.hid (S3.out.next (a' := 16) r3)
    have L4 := Lib.hid (L3.out.next r3 S1.out.size)
    clear r3
    go_wp2_with fail
    refine (C16.out _ _ S4.out.rdr).mono ?_; rintro e u4 ⟨rfl, r4⟩
    have S5 := Lib.hid ((S4.out.next (a' := 17) r4).set3 (p := u1.heap.size) (x := .int .i64 y) (y := .int .i64 z) (z := .bool t) S1.out.size)
    have L5 := Lib.hid ((L4.out.next r4 S1.out.size).set3 (x := .int .i64 y) (y := .int .i64 z) (z := .bool t))
    obtain ⟨_, _, f1, f2, f3⟩ := Four14.at (L4.out.next r4 S1.out.size)
    obtain ⟨⟨p0, p1, p2, p3⟩, _⟩ := Four14.at L5.out
    clear r4
    go_wp2_with fail
    refine (ID.out _).mono ?_; rintro e u5 ⟨rfl, g5⟩
    have S6 := Lib.hid (S5.out.gr g5)
    have L6 := Lib.hid (L5.out.gr g5)
    clear g5 f1 f2 f3 p0 p1 p2 p3
    go_wp2_with fail
    refine (rdr_note_c b3 S6.out.rdr).mono ?_; rintro e u6 ⟨rfl, r6⟩
    have S7 := Lib.hid (S6.out.next r6)
    have L7 := Lib.hid (L6.out.next r6 S1.out.size)
    clear r6
    go_wp2_with fail
    refine (CQ.out _ S7.out.rdr).mono ?_; rintro e u7 ⟨rfl, g7⟩
    have S8 := S7.out.gr g7
    have L8 := L7.out.gr g7
    obtain ⟨⟨d0, d1, d2, d3⟩, f0, f1, f2, f3⟩ := Four14.at S8.res
    obtain ⟨⟨p0, p1, p2, p3⟩, _⟩ := Four14.at L8
    have HS := Lib.hid S8
    clear S8 L8 g7
    go_wp2_with fail
  · have k := set4_14 (x := .int .i64 0) (y := .int .i64 0) (z := .int .i64 0) (t := .bool false) HS.out.res
    obtain ⟨⟨e0, e1, e2, e3⟩, _⟩ := Four14.at k
    exact bodyPost_ret (v := .tuple #[.agg #[.int .i64 0, .int .i64 0, .int .i64 0, .bool false], .bool false]) (by simp [results, Try.results20, go_sem, e0, e1, e2, e3]) rfl
      (FIN.out _ _ _ _ _ (by rw [HX.out]; rfl) (by rw [HY.out]; rfl) (by rw [HZ.out]; rfl) (by rw [HT.out]; rfl) rfl _ (below14_4 HS.out.bel (Nat.le_refl _)))
  · have k := set4_14 (x := .int .i64 x) (y := .int .i64 y) (z := .int .i64 z) (t := .bool t) HS.out.res
    obtain ⟨⟨e0, e1, e2, e3⟩, _⟩ := Four14.at k
    exact bodyPost_ret (v := .tuple #[.agg #[.int .i64 x, .int .i64 y, .int .i64 z, .bool t], .bool true]) (by simp [results, Try.results20, go_sem, e0, e1, e2, e3]) rfl
      (FIN.out _ _ _ _ _ (by rw [HX.out]; simp) (by rw [HY.out]; simp) (by rw [HZ.out]; simp) (by rw [HT.out]; simp) rfl _ (below14_4 HS.out.bel (Nat.le_refl _)))
end Go.Proofs.Ytnmddnhllfojeaa
