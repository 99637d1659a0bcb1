/- The program's GetCell and GetPair. -/
import Derived.Test.YtnmddnhllfojeaaRcRdr
namespace Go.Proofs.Ytnmddnhllfojeaa
open Go.RowKit OctPlain RcPlain
set_option linter.unusedVariables false
set_option linter.unusedSimpArgs false
set_option maxRecDepth 20000
/-- On the way of a Get: the result's block, the reader's. -/
structure GSt (w : World) (T : TypeId) (v : Array Value) (s : ByteArray) (a : Int) (q : Bool) (W : World) : Prop where
  res : W.heap[w.heap.size]? = some (.cells v T (0, 0))
  rdr : RdrAt (w.heap.size + 1) s a q W
  bel : Below w.heap.size w W
theorem GSt.next {w W W' : World} {T : TypeId} {v : Array Value} {s : ByteArray} {a a' : Int} {q q' : Bool} (h : GSt w T v s a q W) (r : RdrNext (w.heap.size + 1) s a' q' W W') : GSt w T v s a' q' W' :=
  ⟨(r.2.block _ (lt_of_block h.res) (by omega)).trans h.res, r.1, Below.trans h.bel (r.2.toBelow h.bel.size (fun i hi => by omega))⟩
theorem GSt.gr {w W W' : World} {T : TypeId} {v : Array Value} {s : ByteArray} {a : Int} {q : Bool} (h : GSt w T v s a q W) (g : Gr W W') : GSt w T v s a q W' :=
  ⟨(g.block _ (lt_of_block h.res)).trans h.res, h.rdr.gr g, Below.trans h.bel (Below.mono g h.bel.size)⟩
theorem GSt.new (w : World) (T : TypeId) (v : Array Value) (s : ByteArray) : GSt w T v s 0 false ((w.alloc (.cells v T)).alloc (.cells #[.string s, .int .i64 0, .bool false] 67)) := by
  refine ⟨?_, ?_, (gral14 w _).trans (gral14 _ _)⟩
  · have h := heap_alloc_new w (.cells v T)
    exact ((gral14 (w.alloc (.cells v T)) (.cells #[.string s, .int .i64 0, .bool false] 67)).block _ (lt_of_block h)).trans h
  · have h := heap_alloc_new (w.alloc (.cells v T)) (.cells #[.string s, .int .i64 0, .bool false] 67)
    rw [World.size_alloc] at h
    exact h
theorem GSt.size {w W : World} {T : TypeId} {v : Array Value} {s : ByteArray} {a : Int} {q : Bool} (h : GSt w T v s a q W) : w.heap.size + 1 < W.heap.size := lt_of_block h.rdr
/-- A block of the call's own, besides. -/
def Loc14 (p : Nat) (T : TypeId) (v : Array Value) (W : World) : Prop := W.heap[p]? = some (.cells v T (0, 0))
theorem Loc14.new (W : World) (T : TypeId) (v : Array Value) : Loc14 W.heap.size T v (W.alloc (.cells v T)) := heap_alloc_new W _
theorem Loc14.gr {p : Nat} {T : TypeId} {v : Array Value} {W W' : World} (h : Loc14 p T v W) (g : Gr W W') : Loc14 p T v W' := (g.block _ (lt_of_block h)).trans h
theorem Loc14.next {p r : Nat} {T : TypeId} {v : Array Value} {s : ByteArray} {a : Int} {q : Bool} {W W' : World} (h : Loc14 p T v W) (n : RdrNext r s a q W W') (hp : r < p) : Loc14 p T v W' :=
  (n.2.block _ (lt_of_block h) (by omega)).trans h
theorem cell_right (s : ByteArray) : (!((((false || !getB s 0 4) || !getB s 4 4) || !getB s 8 4) || !idB (getN s 8 4)) && decide ((12 : Int) = s.size)) = gcellB s := by
  unfold gcellB
  by_cases hz : s.size = 12
  · have h0 : getB s 0 4 = true := (get_small (s := s) (a := 0) (k := 4) (by omega) (by omega)).1
    have h4 : getB s 4 4 = true := (get_small (s := s) (a := 4) (k := 4) (by omega) (by omega)).1
    have h8 : getB s 8 4 = true := (get_small (s := s) (a := 8) (k := 4) (by omega) (by omega)).1
    rw [h0, h4, h8, decide_eq_true hz, decide_eq_true (show (12 : Int) = s.size by omega)]
    cases idB (getN s 8 4) <;> rfl
  · rw [decide_eq_false hz, decide_eq_false (show ¬ (12 : Int) = s.size by omega), Bool.and_false, Bool.false_and]
theorem pair_right (s : ByteArray) : (!(((false || !getB s 0 4) || !getB s 4 4) || !pairB (getN s 0 4) (getN s 4 4)) && decide ((8 : Int) = s.size)) = gpairB s := by
  unfold gpairB
  by_cases hz : s.size = 8
  · have h0 : getB s 0 4 = true := (get_small (s := s) (a := 0) (k := 4) (by omega) (by omega)).1
    have h4 : getB s 4 4 = true := (get_small (s := s) (a := 4) (k := 4) (by omega) (by omega)).1
    rw [h0, h4, decide_eq_true hz, decide_eq_true (show (8 : Int) = s.size by omega)]
    cases pairB (getN s 0 4) (getN s 4 4) <;> rfl
  · rw [decide_eq_false hz, decide_eq_false (show ¬ (8 : Int) = s.size by omega), Bool.and_false, Bool.false_and]
set_option maxHeartbeats 2000000 in
theorem getcell_c (s : ByteArray) (hs : s.size ≤ 1000) (w : World) :
    Calls Try.prog 16 #[.string s] w fun e w' => e = .returned (.tuple #[.agg #[.int .i64 (gcellX s), .int .i64 (gcellY s)], .int .i64 (gcellN s), .bool (gcellB s)]) ∧ Gr w w' := by
  have ID := Lib.hid (fun u => isid_c (getN s 8 4) u)
  have HB := Lib.hid (cell_right s)
  have HX := Lib.hid (show gcellX s = if gcellB s = true then gcN s 0 else 0 from rfl)
  have HY := Lib.hid (show gcellY s = if gcellB s = true then gcN s 4 else 0 from rfl)
  have HN := Lib.hid (show gcellN s = if gcellB s = true then getN s 8 4 else 0 from rfl)
  have C0 := Lib.hid (fun u q (h : RdrAt (w.heap.size + 1) s 0 q u) => rdr_coord_c (a := 0) ⟨by decide, by decide⟩ hs h)
  have C4 := Lib.hid (fun u q (h : RdrAt (w.heap.size + 1) s 4 q u) => rdr_coord_c (a := 4) ⟨by decide, by decide⟩ hs h)
  have C8 := Lib.hid (fun u q (h : RdrAt (w.heap.size + 1) s 8 q u) => rdr_number_c 4 (a := 8) ⟨by decide, by decide⟩ ⟨by decide, by decide⟩ hs h)
  have CR := Lib.hid (fun u q (h : RdrAt (w.heap.size + 1) s 12 q u) => rdr_right_c (a := 12) ⟨by decide, by decide⟩ hs h)
  obtain ⟨W, hW⟩ : ∃ W, W = (w.alloc (.cells #[.int .i64 0, .int .i64 0] 23)).alloc (.cells #[.string s, .int .i64 0, .bool false] 67) := ⟨_, rfl⟩
  have st0 : GSt w 23 #[.int .i64 0, .int .i64 0] s 0 false W := by rw [hW]; exact GSt.new _ _ _ _
  have S0 := Lib.hid st0
  have HW := Lib.hid hW
  clear st0 hW hs
  generalize gcellB s = cb at HB HX HY HN ⊢
  generalize gcellX s = rx at HX ⊢
  generalize gcellY s = ry at HY ⊢
  generalize gcellN s = rn at HN ⊢
  generalize gcN s 0 = x at C0 HX
  generalize gcN s 4 = y at C4 HY
  generalize getB s 0 4 = q0 at C0 HB
  generalize getB s 4 4 = q4 at C4 HB
  generalize getB s 8 4 = q8 at C8 HB
  generalize getN s 8 4 = n at C8 ID HB HN
  generalize idB n = b3 at ID HB
  have fin : ∀ (x y n : Int) (b : Bool), rx = x → ry = y → rn = n → cb = b → ∀ W', Below w.heap.size w W' →
      (Ending.returned (.tuple #[.agg #[.int .i64 x, .int .i64 y], .int .i64 n, .bool b]) = Ending.returned (.tuple #[.agg #[.int .i64 rx, .int .i64 ry], .int .i64 rn, .bool cb])) ∧ Gr w W' := by
    rintro x y n b rfl rfl rfl rfl W' h2; exact ⟨rfl, h2⟩
  have FIN := Lib.hid fin
  clear fin
  cases cb
  all_goals
    have CQ := Lib.hid (fun u (h : RdrAt (w.heap.size + 1) s 12 ((((false || !q0) || !q4) || !q8) || !b3) u) => by have := CR.out u _ h; rw [HB.out] at this; exact this)
    clear CR
    go_enter Try.func16, Try.ntmps16
    go_wp2_with fail
    rw [← HW.out]
    refine (C0.out _ _ S0.out.rdr).mono ?_; rintro e u1 ⟨rfl, r1⟩
    have S1 := Lib.hid (S0.out.next (a' := 4) r1)
    clear r1
    go_wp2_with fail
    refine (C4.out _ _ S1.out.rdr).mono ?_; rintro e u2 ⟨rfl, r2⟩
    have S2 := Lib.hid (S1.out.next (a' := 8) r2)
    clear r2
    go_wp2_with fail
    have S3 := Lib.hid (S2.out.gr (gral14 _ (.cells #[.int .i64 x, .int .i64 y] 23)))
    have L3 := Lib.hid (Loc14.new u2 23 #[.int .i64 x, .int .i64 y])
    refine (C8.out _ _ S3.out.rdr).mono ?_; rintro e u4 ⟨rfl, r4⟩
    have S4 := Lib.hid (S3.out.next (a' := 12) r4)
    have L4 := Lib.hid (L3.out.next r4 S2.out.size)
    clear r4
    go_wp2_with fail
    refine (ID.out _).mono ?_; rintro e u5 ⟨rfl, rfl⟩
    go_wp2_with fail
    refine (rdr_note_c b3 S4.out.rdr).mono ?_; rintro e u6 ⟨rfl, r6⟩
    have S6 := Lib.hid (S4.out.next r6)
    have L6 := Lib.hid (L4.out.next r6 S2.out.size)
    clear r6
    go_wp2_with fail
    refine (CQ.out _ S6.out.rdr).mono ?_; rintro e u7 ⟨rfl, g7⟩
    have S7 := S6.out.gr g7
    have L7 := L6.out.gr g7
    have f0 := cells_free S7.res 0
    have f1 := cells_free S7.res 1
    have d0 : u7.cell? ⟨w.heap.size, 0, none⟩ = some (.int .i64 0) := by rw [cells_at S7.res]; rfl
    have d1 : u7.cell? ⟨w.heap.size, 1, none⟩ = some (.int .i64 0) := by rw [cells_at S7.res]; rfl
    have p0 : u7.cell? ⟨u2.heap.size, 0, none⟩ = some (.int .i64 x) := by rw [cells_at L7]; rfl
    have p1 : u7.cell? ⟨u2.heap.size, 1, none⟩ = some (.int .i64 y) := by rw [cells_at L7]; rfl
    have HS := Lib.hid S7
    clear S7 L7 g7
    go_wp2_with fail
  · have k := set2_14 (x := .int .i64 0) (y := .int .i64 0) HS.out.res
    have e0 := cells_at k 0
    have e1 := cells_at k 1
    exact bodyPost_ret (v := .tuple #[.agg #[.int .i64 0, .int .i64 0], .int .i64 0, .bool false]) (by simp [results, Try.results16, go_sem, e0, e1]) rfl
      (FIN.out _ _ _ _ (by rw [HX.out]; rfl) (by rw [HY.out]; rfl) (by rw [HN.out]; rfl) rfl _ (below14 HS.out.bel (Nat.le_refl _)))
  · have k := set2_14 (x := .int .i64 x) (y := .int .i64 y) HS.out.res
    have e0 := cells_at k 0
    have e1 := cells_at k 1
    exact bodyPost_ret (v := .tuple #[.agg #[.int .i64 x, .int .i64 y], .int .i64 n, .bool true]) (by simp [results, Try.results16, go_sem, e0, e1]) rfl
      (FIN.out _ _ _ _ (by rw [HX.out]; simp) (by rw [HY.out]; simp) (by rw [HN.out]; simp) rfl _ (below14 HS.out.bel (Nat.le_refl _)))
set_option maxHeartbeats 2000000 in
theorem getpair_c (s : ByteArray) (hs : s.size ≤ 1000) (w : World) :
    Calls Try.prog 18 #[.string s] w fun e w' => e = .returned (.tuple #[.agg #[.int .i64 (gpairX s), .int .i64 (gpairY s)], .bool (gpairB s)]) ∧ Gr w w' := by
  have ID := Lib.hid (fun u => ispair_c (getN s 0 4) (getN s 4 4) u)
  have HB := Lib.hid (pair_right s)
  have HX := Lib.hid (show gpairX s = if gpairB s = true then getN s 0 4 else 0 from rfl)
  have HY := Lib.hid (show gpairY s = if gpairB s = true then getN s 4 4 else 0 from rfl)
  have C0 := Lib.hid (fun u q (h : RdrAt (w.heap.size + 1) s 0 q u) => rdr_number_c 4 (a := 0) ⟨by decide, by decide⟩ ⟨by decide, by decide⟩ hs h)
  have C4 := Lib.hid (fun u q (h : RdrAt (w.heap.size + 1) s 4 q u) => rdr_number_c 4 (a := 4) ⟨by decide, by decide⟩ ⟨by decide, by decide⟩ hs h)
  have CR := Lib.hid (fun u q (h : RdrAt (w.heap.size + 1) s 8 q u) => rdr_right_c (a := 8) ⟨by decide, by decide⟩ hs h)
  obtain ⟨W, hW⟩ : ∃ W, W = (w.alloc (.cells #[.int .i64 0, .int .i64 0] 25)).alloc (.cells #[.string s, .int .i64 0, .bool false] 67) := ⟨_, rfl⟩
  have st0 : GSt w 25 #[.int .i64 0, .int .i64 0] s 0 false W := by rw [hW]; exact GSt.new _ _ _ _
  have S0 := Lib.hid st0
  have HW := Lib.hid hW
  clear st0 hW hs
  generalize gpairB s = cb at HB HX HY ⊢
  generalize gpairX s = rx at HX ⊢
  generalize gpairY s = ry at HY ⊢
  generalize getB s 0 4 = q0 at C0 HB
  generalize getB s 4 4 = q4 at C4 HB
  generalize getN s 0 4 = x at C0 ID HB HX
  generalize getN s 4 4 = y at C4 ID HB HY
  generalize pairB x y = b3 at ID HB
  have fin : ∀ (x y : Int) (b : Bool), rx = x → ry = y → cb = b → ∀ W', Below w.heap.size w W' →
      (Ending.returned (.tuple #[.agg #[.int .i64 x, .int .i64 y], .bool b]) = Ending.returned (.tuple #[.agg #[.int .i64 rx, .int .i64 ry], .bool cb])) ∧ Gr w W' := by
    rintro x y b rfl rfl rfl W' h2; exact ⟨rfl, h2⟩
  have FIN := Lib.hid fin
  clear fin
  cases cb
  all_goals
    have CQ := Lib.hid (fun u (h : RdrAt (w.heap.size + 1) s 8 (((false || !q0) || !q4) || !b3) u) => by have := CR.out u _ h; rw [HB.out] at this; exact this)
    clear CR
    go_enter Try.func18, Try.ntmps18
    go_wp2_with fail
    rw [← HW.out]
    refine (C0.out _ _ S0.out.rdr).mono ?_; rintro e u1 ⟨rfl, r1⟩
    have S1 := Lib.hid (S0.out.next (a' := 4) r1)
    clear r1
    go_wp2_with fail
    refine (C4.out _ _ S1.out.rdr).mono ?_; rintro e u2 ⟨rfl, r2⟩
    have S2 := Lib.hid (S1.out.next (a' := 8) r2)
    clear r2
    obtain ⟨V, hV⟩ : ∃ V, V = u2.alloc (.cells #[.int .i64 x, .int .i64 y] 25) := ⟨_, rfl⟩
    have S3 := Lib.hid (show GSt w 25 #[.int .i64 0, .int .i64 0] s 8 _ V by rw [hV]; exact S2.out.gr (gral14 _ _))
    have L3 := Lib.hid (show Loc14 u2.heap.size 25 #[.int .i64 x, .int .i64 y] V by rw [hV]; exact Loc14.new _ _ _)
    have HV := Lib.hid hV
    clear hV
    go_wp2_with fail
    rw [← HV.out]
    refine (ID.out _).mono ?_; rintro e u5 ⟨rfl, g5⟩
    have S5 := Lib.hid (S3.out.gr g5)
    have L5 := Lib.hid (L3.out.gr g5)
    clear g5
    go_wp2_with fail
    refine (rdr_note_c b3 S5.out.rdr).mono ?_; rintro e u6 ⟨rfl, r6⟩
    have S6 := Lib.hid (S5.out.next r6)
    have L6 := Lib.hid (L5.out.next r6 S2.out.size)
    clear r6
    go_wp2_with fail
    refine (CQ.out _ S6.out.rdr).mono ?_; rintro e u7 ⟨rfl, g7⟩
    have S7 := S6.out.gr g7
    have L7 := L6.out.gr g7
    have f0 := cells_free S7.res 0
    have f1 := cells_free S7.res 1
    have d0 : u7.cell? ⟨w.heap.size, 0, none⟩ = some (.int .i64 0) := by rw [cells_at S7.res]; rfl
    have d1 : u7.cell? ⟨w.heap.size, 1, none⟩ = some (.int .i64 0) := by rw [cells_at S7.res]; rfl
    have p0 : u7.cell? ⟨u2.heap.size, 0, none⟩ = some (.int .i64 x) := by rw [cells_at L7]; rfl
    have p1 : u7.cell? ⟨u2.heap.size, 1, none⟩ = some (.int .i64 y) := by rw [cells_at L7]; rfl
    have HS := Lib.hid S7
    clear S7 L7 g7
    go_wp2_with fail
  · have k := set2_14 (x := .int .i64 0) (y := .int .i64 0) HS.out.res
    have e0 := cells_at k 0
    have e1 := cells_at k 1
    exact bodyPost_ret (v := .tuple #[.agg #[.int .i64 0, .int .i64 0], .bool false]) (by simp [results, Try.results18, go_sem, e0, e1]) rfl
      (FIN.out _ _ _ (by rw [HX.out]; rfl) (by rw [HY.out]; rfl) rfl _ (below14 HS.out.bel (Nat.le_refl _)))
  · have k := set2_14 (x := .int .i64 x) (y := .int .i64 y) HS.out.res
    have e0 := cells_at k 0
    have e1 := cells_at k 1
    exact bodyPost_ret (v := .tuple #[.agg #[.int .i64 x, .int .i64 y], .bool true]) (by simp [results, Try.results18, go_sem, e0, e1]) rfl
      (FIN.out _ _ _ (by rw [HX.out]; simp) (by rw [HY.out]; simp) rfl _ (below14 HS.out.bel (Nat.le_refl _)))
end Go.Proofs.Ytnmddnhllfojeaa
