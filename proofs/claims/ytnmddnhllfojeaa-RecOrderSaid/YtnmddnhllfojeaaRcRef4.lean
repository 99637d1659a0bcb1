/- The document's GetPair. -/
import Derived.Test.YtnmddnhllfojeaaRcRef3
namespace Go.Proofs.Ytnmddnhllfojeaa
open Go.RowKit OctPlain RcPlain
set_option linter.unusedVariables false
set_option linter.unusedSimpArgs false
set_option maxRecDepth 20000
theorem getN_range (s : ByteArray) (a k : Int) : 0 ≤ getN s a k ∧ getN s a k < 9223372036854775808 := by
  unfold getN getB
  split
  · rename_i h
    rw [decide_eq_true_iff] at h
    omega
  · omega
theorem getN_64 (s : ByteArray) (a k : Int) : I64 (getN s a k) := by
  have := getN_range s a k
  unfold I64; omega
set_option maxHeartbeats 1000000 in
theorem rgetpair_c (s : ByteArray) (hs : s.size ≤ 1000) (w : World) :
    Calls Try.prog 19 #[.string s] w fun e w' => e = .returned (.tuple #[.agg #[.int .i64 (gpairX s), .int .i64 (gpairY s)], .bool (gpairB s)]) ∧ Gr w w' := by
  have C0 := Lib.hid (fun u => rget_c s 0 4 ⟨by decide, by decide⟩ ⟨by decide, by decide⟩ u hs)
  have C4 := Lib.hid (fun u => rget_c s 4 4 ⟨by decide, by decide⟩ ⟨by decide, by decide⟩ u hs)
  have PP := Lib.hid (fun u => rputpair_c (getN s 0 4) (getN s 4 4) (getN_64 _ _ _) (getN_64 _ _ _) u)
  have HB := Lib.hid (show gpairB s = (decide (s.size = 8) && pairB (getN s 0 4) (getN s 4 4)) from rfl)
  have HX := Lib.hid (show gpairX s = if gpairB s = true then getN s 0 4 else 0 from rfl)
  have HY := Lib.hid (show gpairY s = if gpairB s = true then getN s 4 4 else 0 from rfl)
  have HE := Lib.hid (fun (hz : s.size = 8) (hb : pairB (getN s 0 4) (getN s 4 4) = true) => pair_back hz hb)
  obtain ⟨W, hW⟩ : ∃ W, W = w.alloc (.cells #[.int .i64 0, .int .i64 0] 25) := ⟨_, rfl⟩
  have c0 : W.heap[w.heap.size]? = some (.cells #[.int .i64 0, .int .i64 0] 25 (0, 0)) := by rw [hW]; exact heap_alloc_new w _
  have gW : Gr w W := by rw [hW]; exact gral14 _ _
  have HC := Lib.hid c0
  have HW := Lib.hid hW
  clear c0 hW
  generalize gpairB s = cb at HB HX HY ⊢
  generalize gpairX s = rx at HX ⊢
  generalize gpairY s = ry at HY ⊢
  generalize getB s 0 4 = q0 at C0
  generalize getB s 4 4 = q4 at C4
  generalize getN s 0 4 = x at C0 PP HB HX HE
  generalize getN s 4 4 = y at C4 PP HB HY HE
  generalize pairS x y = t at PP HE
  generalize pairB x y = b3 at PP HB HE
  have fin : ∀ (x y : Int) (b : Bool), rx = x → ry = y → cb = b → ∀ W', Below w.heap.size w W' →
      (Ending.returned (.tuple #[.agg #[.int .i64 x, .int .i64 y], .bool b]) = Ending.returned (.tuple #[.agg #[.int .i64 rx, .int .i64 ry], .bool cb])) ∧ Gr w W' := by
    rintro x y b rfl rfl rfl W' h2; exact ⟨rfl, h2⟩
  have FIN := Lib.hid fin
  clear fin
  by_cases hz : s.size = 8
  · have t1 : ((s.size : Int) != 8) = false := by simp; omega
    have HZ := Lib.hid hz
    clear hz
    obtain ⟨V, hV⟩ : ∃ V, V = W.alloc (.cells #[.int .i64 x, .int .i64 y] 25) := ⟨_, rfl⟩
    have hlt : w.heap.size < W.heap.size := lt_of_block HC.out
    have gV : Gr W V := by rw [hV]; exact gral14 _ _
    have k0 : V.heap[W.heap.size]? = some (.cells #[.int .i64 x, .int .i64 y] 25 (0, 0)) := by rw [hV]; exact heap_alloc_new W _
    have k1 : V.heap[w.heap.size]? = some (.cells #[.int .i64 0, .int .i64 0] 25 (0, 0)) := (gV.block _ hlt).trans HC.out
    have p0 : V.cell? ⟨W.heap.size, 0, none⟩ = some (.int .i64 x) := by rw [cells_at k0]; rfl
    have p1 : V.cell? ⟨W.heap.size, 1, none⟩ = some (.int .i64 y) := by rw [cells_at k0]; rfl
    have HV := Lib.hid hV
    have HK := Lib.hid (fun u (g : Gr V u) => (⟨(g.block _ (lt_of_block k0)).trans k0, (g.block _ (lt_of_block k1)).trans k1⟩ : u.heap[W.heap.size]? = some (.cells #[.int .i64 x, .int .i64 y] 25 (0, 0)) ∧ u.heap[w.heap.size]? = some (.cells #[.int .i64 0, .int .i64 0] 25 (0, 0))))
    clear hV k0 k1
    cases b3
    · have HQ := Lib.hid (show cb = false by rw [HB.out, Bool.and_false])
      go_enter Try.func19, Try.ntmps19
      go_wp2_with fail
      rw [← HW.out]
      refine (C0.out _).mono ?_; rintro e u ⟨rfl, rfl⟩
      go_wp2_with fail
      refine (C4.out _).mono ?_; rintro e u ⟨rfl, rfl⟩
      go_wp2_with fail
      rw [← HV.out]
      refine (PP.out _).mono ?_; rintro e u ⟨rfl, g⟩
      obtain ⟨k0, k1⟩ := HK.out u g
      have e0 : u.cell? ⟨w.heap.size, 0, none⟩ = some (.int .i64 0) := by rw [cells_at k1]; rfl
      have e1 : u.cell? ⟨w.heap.size, 1, none⟩ = some (.int .i64 0) := by rw [cells_at k1]; rfl
      have f0 : u.frozen? ⟨w.heap.size, 0, none⟩ = false := cells_free k1 0
      have f1 : u.frozen? ⟨w.heap.size, 1, none⟩ = false := cells_free k1 1
      have H1 := Lib.hid k1
      clear k0 k1
      go_wp2_with fail
      have k := set2_14 (x := .int .i64 0) (y := .int .i64 0) H1.out
      have e0 := cells_at k 0
      have e1 := cells_at k 1
      exact bodyPost_ret (v := .tuple #[.agg #[.int .i64 0, .int .i64 0], .bool false]) (by simp [results, Try.results19, go_sem, e0, e1]) rfl
        (FIN.out _ _ _ (by rw [HX.out, HQ.out]; rfl) (by rw [HY.out, HQ.out]; rfl) HQ.out _ (below14 ((gW.trans gV).trans g) (Nat.le_refl _)))
    · have HQ := Lib.hid (show cb = true by rw [HB.out, HZ.out]; rfl)
      have HT := HE.out HZ.out rfl
      subst HT
      go_enter Try.func19, Try.ntmps19
      go_wp2_with fail
      rw [← HW.out]
      refine (C0.out _).mono ?_; rintro e u ⟨rfl, rfl⟩
      go_wp2_with fail
      refine (C4.out _).mono ?_; rintro e u ⟨rfl, rfl⟩
      go_wp2_with fail
      rw [← HV.out]
      refine (PP.out _).mono ?_; rintro e u ⟨rfl, g⟩
      obtain ⟨k0, k1⟩ := HK.out u g
      have e0 : u.cell? ⟨w.heap.size, 0, none⟩ = some (.int .i64 0) := by rw [cells_at k1]; rfl
      have e1 : u.cell? ⟨w.heap.size, 1, none⟩ = some (.int .i64 0) := by rw [cells_at k1]; rfl
      have f0 : u.frozen? ⟨w.heap.size, 0, none⟩ = false := cells_free k1 0
      have f1 : u.frozen? ⟨w.heap.size, 1, none⟩ = false := cells_free k1 1
      have p0 : u.cell? ⟨W.heap.size, 0, none⟩ = some (.int .i64 x) := by rw [cells_at k0]; rfl
      have p1 : u.cell? ⟨W.heap.size, 1, none⟩ = some (.int .i64 y) := by rw [cells_at k0]; rfl
      have H1 := Lib.hid k1
      clear k0 k1
      go_wp2_with fail
      have k := set2_14 (x := .int .i64 x) (y := .int .i64 y) H1.out
      have e0 := cells_at k 0
      have e1 := cells_at k 1
      exact bodyPost_ret (v := .tuple #[.agg #[.int .i64 x, .int .i64 y], .bool true]) (by simp [results, Try.results19, go_sem, e0, e1]) rfl
        (FIN.out _ _ _ (by rw [HX.out, if_pos HQ.out]) (by rw [HY.out, if_pos HQ.out]) HQ.out _ (below14 ((gW.trans gV).trans g) (Nat.le_refl _)))
  · have t1 : ((s.size : Int) != 8) = true := by simp; omega
    have HQ := Lib.hid (show cb = false by rw [HB.out, decide_eq_false hz]; rfl)
    clear hz
    go_enter Try.func19, Try.ntmps19
    go_wp2_with fail
    rw [← HW.out]
    have k := HC.out
    have e0 := cells_at k 0
    have e1 := cells_at k 1
    exact bodyPost_ret (v := .tuple #[.agg #[.int .i64 0, .int .i64 0], .bool false]) (by simp [results, Try.results19, go_sem, e0, e1]) rfl
      (FIN.out _ _ _ (by rw [HX.out, HQ.out]; rfl) (by rw [HY.out, HQ.out]; rfl) HQ.out _ gW)

theorem set4_14 {W : World} {p : Nat} {a b c d x y z t : Value} {T : TypeId} (h : W.heap[p]? = some (.cells #[a, b, c, d] T (0, 0))) : ((((W.setCell ⟨p, 0, none⟩ x).setCell ⟨p, 1, none⟩ y).setCell ⟨p, 2, none⟩ z).setCell ⟨p, 3, none⟩ t).heap[p]? = some (.cells #[x, y, z, t] T (0, 0)) := by
  simpa using cells_set (cells_set (cells_set (cells_set h 0 x) 1 y) 2 z) 3 t
theorem below14_4 {w W : World} {p : Nat} (h : Below w.heap.size w W) (hp : w.heap.size ≤ p) {x y z t : Value} : Below w.heap.size w ((((W.setCell ⟨p, 0, none⟩ x).setCell ⟨p, 1, none⟩ y).setCell ⟨p, 2, none⟩ z).setCell ⟨p, 3, none⟩ t) :=
  (((h.setCell (p := ⟨p, 0, none⟩) hp x).setCell (p := ⟨p, 1, none⟩) hp y).setCell (p := ⟨p, 2, none⟩) hp z).setCell (p := ⟨p, 3, none⟩) hp t
/-- Four cells, where they are known. -/
def Four14 (p : Nat) (T : TypeId) (a b c d : Value) (u : World) : Prop := u.heap[p]? = some (.cells #[a, b, c, d] T (0, 0))
theorem Four14.gr {p : Nat} {T : TypeId} {a b c d : Value} {u v : World} (h : Four14 p T a b c d u) (g : Gr u v) : Four14 p T a b c d v := (g.block _ (lt_of_block h)).trans h
theorem Four14.at {p : Nat} {T : TypeId} {a b c d : Value} {u : World} (h : Four14 p T a b c d u) : (u.cell? ⟨p, 0, none⟩ = some a ∧ u.cell? ⟨p, 1, none⟩ = some b ∧ u.cell? ⟨p, 2, none⟩ = some c ∧ u.cell? ⟨p, 3, none⟩ = some d) ∧
    (u.frozen? ⟨p, 0, none⟩ = false ∧ u.frozen? ⟨p, 1, none⟩ = false ∧ u.frozen? ⟨p, 2, none⟩ = false ∧ u.frozen? ⟨p, 3, none⟩ = false) := by
  unfold Four14 at h
  refine ⟨⟨?_, ?_, ?_, ?_⟩, cells_free h 0, cells_free h 1, cells_free h 2, cells_free h 3⟩ <;> (rw [cells_at h]; rfl)
theorem Four14.new (w : World) (T : TypeId) (a b c d : Value) : Four14 w.heap.size T a b c d (w.alloc (.cells #[a, b, c, d] T)) := heap_alloc_new w _
theorem eq_list14 {a b : ByteArray} : (a.toList == b.toList) = decide (a = b) := by
  apply Bool.eq_iff_iff.2
  simp only [beq_iff_eq, decide_eq_true_iff]
  constructor
  · intro h
    rw [Lib.toList_data, Lib.toList_data] at h
    apply ByteArray.ext; exact Array.toList_inj.1 h
  · rintro rfl; rfl
theorem byte16 {s : ByteArray} (hz : s.size = 17) (h : 16 < s.size) : getN s 16 1 = (s[16].toNat : Int) := by
  obtain ⟨_, h4, _⟩ := get_small (s := s) (a := 16) (k := 1) (by omega) (by omega)
  have h4 : getN s 16 1 = num (cutL s 16 1) := h4
  have e : s.data.toList[16]? = some (s[16]'h) := by
    rw [List.getElem?_eq_some_iff]
    exact ⟨by rw [Array.length_toList]; exact h, rfl⟩
  rw [h4, cut_one e, num_one]
set_option maxHeartbeats 2000000 in
theorem rgetedge_c (s : ByteArray) (hs : s.size ≤ 1000) (w : World) :
    Calls Try.prog 21 #[.string s] w fun e w' => e = .returned (.tuple #[.agg #[.int .i64 (gedgeF s), .int .i64 (gedgeD s), .int .i64 (gedgeI s), .bool (gedgeW s)], .bool (gedgeB s)]) ∧ Gr w w' := by
  have C0 := Lib.hid (fun u => rget_c s 0 4 ⟨by decide, by decide⟩ ⟨by decide, by decide⟩ u hs)
  have C4 := Lib.hid (fun u => rget_c s 4 8 ⟨by decide, by decide⟩ ⟨by decide, by decide⟩ u hs)
  have C12 := Lib.hid (fun u => rget_c s 12 4 ⟨by decide, by decide⟩ ⟨by decide, by decide⟩ u hs)
  have PP := Lib.hid (fun u nw => rputedge_c (getN s 0 4) (getN s 4 8) (getN s 12 4) nw (getN_64 _ _ _) (getN_64 _ _ _) (getN_64 _ _ _) u)
  have HB := Lib.hid (show gedgeB s = (decide (s.size = 17) && (getB s 4 8 && (edgeB (getN s 0 4) (getN s 4 8) (getN s 12 4) && decide (getN s 16 1 ≤ 1)))) from rfl)
  have HX := Lib.hid (show gedgeF s = if gedgeB s = true then getN s 0 4 else 0 from rfl)
  have HY := Lib.hid (show gedgeD s = if gedgeB s = true then getN s 4 8 else 0 from rfl)
  have HI := Lib.hid (show gedgeI s = if gedgeB s = true then getN s 12 4 else 0 from rfl)
  have HN := Lib.hid (show gedgeW s = (gedgeB s && decide (getN s 16 1 = 1)) from rfl)
  have HE := Lib.hid (fun (hz : s.size = 17) (h8 : getB s 4 8 = true) (hb : edgeB (getN s 0 4) (getN s 4 8) (getN s 12 4) = true) nw (hn : nw = decide (getN s 16 1 = 1)) => edge_is hz h8 hb nw hn)
  have HBY := Lib.hid (fun (hz : s.size = 17) (h : 16 < s.size) => byte16 hz h)
  obtain ⟨W, hW⟩ : ∃ W, W = w.alloc (.cells #[.int .i64 0, .int .i64 0, .int .i64 0, .bool false] 29) := ⟨_, rfl⟩
  have c0 : Four14 w.heap.size 29 (.int .i64 0) (.int .i64 0) (.int .i64 0) (.bool false) W := by rw [hW]; exact Four14.new w _ _ _ _ _
  have gW : Gr w W := by rw [hW]; exact gral14 _ _
  have HC := Lib.hid c0
  have HW := Lib.hid hW
  clear c0 hW
  generalize gedgeB s = cb at HB HX HY HI HN ⊢
  generalize gedgeF s = rx at HX ⊢
  generalize gedgeD s = ry at HY ⊢
  generalize gedgeI s = ri at HI ⊢
  generalize gedgeW s = rw' at HN ⊢
  generalize getB s 0 4 = q0 at C0
  generalize getB s 12 4 = q12 at C12
  generalize getB s 4 8 = q8 at C4 HB HE
  generalize getN s 0 4 = x at C0 PP HB HX HE
  generalize getN s 4 8 = y at C4 PP HB HY HE
  generalize getN s 12 4 = z at C12 PP HB HI HE
  generalize getN s 16 1 = m at HB HN HE HBY
  generalize edgeB x y z = b3 at PP HB HE
  have fin : ∀ (x y z : Int) (nw b : Bool), rx = x → ry = y → ri = z → rw' = nw → cb = b → ∀ W', Below w.heap.size w W' →
      (Ending.returned (.tuple #[.agg #[.int .i64 x, .int .i64 y, .int .i64 z, .bool nw], .bool b]) = Ending.returned (.tuple #[.agg #[.int .i64 rx, .int .i64 ry, .int .i64 ri, .bool rw'], .bool cb])) ∧ Gr w W' := by
    rintro x y z nw b rfl rfl rfl rfl rfl W' h2; exact ⟨rfl, h2⟩
  have FIN := Lib.hid fin
  clear fin
  by_cases hz : s.size = 17
  · have t1 : ((s.size : Int) != 17) = false := by simp; omega
    have HZ := Lib.hid hz
    have hz16 : 16 < s.size := by omega
    obtain ⟨nw, hnw⟩ : ∃ nw, ((s[16].toNat : Int) == 1) = nw := ⟨_, rfl⟩
    have HNW := Lib.hid (show nw = decide (m = 1) by rw [← hnw, HBY.out HZ.out hz16]; rfl)
    clear hz
    obtain ⟨V, hV⟩ : ∃ V, V = W.alloc (.cells #[.int .i64 x, .int .i64 y, .int .i64 z, .bool nw] 29) := ⟨_, rfl⟩
    have gV : Gr W V := by rw [hV]; exact gral14 _ _
    have HKV := Lib.hid (show Four14 W.heap.size 29 (.int .i64 x) (.int .i64 y) (.int .i64 z) (.bool nw) V by rw [hV]; exact Four14.new W _ _ _ _ _)
    obtain ⟨⟨p0, p1, p2, p3⟩, _⟩ := HKV.out.at
    have HV := Lib.hid hV
    clear hV
    have HK0 := Lib.hid (HC.out.gr gV)
    cases q8
    · have HQ := Lib.hid (show cb = false by rw [HB.out]; simp)
      go_enter Try.func21, Try.ntmps21
      go_wp2_with fail
      rw [← HW.out]
      refine (C0.out _).mono ?_; rintro e u ⟨rfl, rfl⟩
      go_wp2_with fail
      refine (C4.out _).mono ?_; rintro e u ⟨rfl, rfl⟩
      go_wp2_with fail
      refine (C12.out _).mono ?_; rintro e u ⟨rfl, rfl⟩
      go_wp2_with fail
      rw [← HV.out]
      refine (PP.out _ _).mono ?_; rintro e u ⟨rfl, g⟩
      have k0 := HK0.out.gr g
      obtain ⟨⟨e0, e1, e2, e3⟩, f0, f1, f2, f3⟩ := k0.at
      have H1 := Lib.hid k0
      clear k0
      go_wp2_with fail
      have k := set4_14 (x := .int .i64 0) (y := .int .i64 0) (z := .int .i64 0) (t := .bool false) H1.out
      obtain ⟨⟨e0, e1, e2, e3⟩, _⟩ := Four14.at k
      exact bodyPost_ret (v := .tuple #[.agg #[.int .i64 0, .int .i64 0, .int .i64 0, .bool false], .bool false]) (by simp [results, Try.results21, go_sem, e0, e1, e2, e3]) rfl
        (FIN.out _ _ _ _ _ (by rw [HX.out, HQ.out]; rfl) (by rw [HY.out, HQ.out]; rfl) (by rw [HI.out, HQ.out]; rfl) (by rw [HN.out, HQ.out]; rfl) HQ.out _ (below14_4 ((gW.trans gV).trans g) (Nat.le_refl _)))
    · cases b3
      · have HQ := Lib.hid (show cb = false by rw [HB.out]; simp)
        go_enter Try.func21, Try.ntmps21
        go_wp2_with fail
        rw [← HW.out]
        refine (C0.out _).mono ?_; rintro e u ⟨rfl, rfl⟩
        go_wp2_with fail
        refine (C4.out _).mono ?_; rintro e u ⟨rfl, rfl⟩
        go_wp2_with fail
        refine (C12.out _).mono ?_; rintro e u ⟨rfl, rfl⟩
        go_wp2_with fail
        rw [← HV.out]
        refine (PP.out _ _).mono ?_; rintro e u ⟨rfl, g⟩
        have k0 := HK0.out.gr g
        obtain ⟨⟨e0, e1, e2, e3⟩, f0, f1, f2, f3⟩ := k0.at
        have H1 := Lib.hid k0
        clear k0
        go_wp2_with fail
        have k := set4_14 (x := .int .i64 0) (y := .int .i64 0) (z := .int .i64 0) (t := .bool false) H1.out
        obtain ⟨⟨e0, e1, e2, e3⟩, _⟩ := Four14.at k
        exact bodyPost_ret (v := .tuple #[.agg #[.int .i64 0, .int .i64 0, .int .i64 0, .bool false], .bool false]) (by simp [results, Try.results21, go_sem, e0, e1, e2, e3]) rfl
          (FIN.out _ _ _ _ _ (by rw [HX.out, HQ.out]; rfl) (by rw [HY.out, HQ.out]; rfl) (by rw [HI.out, HQ.out]; rfl) (by rw [HN.out, HQ.out]; rfl) HQ.out _ (below14_4 ((gW.trans gV).trans g) (Nat.le_refl _)))
      · have HI2 := Lib.hid (HE.out HZ.out rfl rfl nw HNW.out)
        have HPP := PP.out
        clear PP
        have PP := Lib.hid (fun u => HPP u nw)
        clear HPP
        generalize edgeS x y z nw = t at PP HI2
        by_cases hm : m ≤ 1
        · have HQ := Lib.hid (show cb = true by rw [HB.out, HZ.out]; simp [hm])
          have HT := HI2.out.2 hm
          subst HT
          clear hm
          go_enter Try.func21, Try.ntmps21
          go_wp2_with fail
          rw [← HW.out]
          refine (C0.out _).mono ?_; rintro e u ⟨rfl, rfl⟩
          go_wp2_with fail
          refine (C4.out _).mono ?_; rintro e u ⟨rfl, rfl⟩
          go_wp2_with fail
          refine (C12.out _).mono ?_; rintro e u ⟨rfl, rfl⟩
          go_wp2_with fail
          rw [← HV.out]
          refine (PP.out _).mono ?_; rintro e u ⟨rfl, g⟩
          have k0 := HK0.out.gr g
          obtain ⟨⟨e0, e1, e2, e3⟩, f0, f1, f2, f3⟩ := k0.at
          obtain ⟨⟨p0, p1, p2, p3⟩, _⟩ := (HKV.out.gr g).at
          have H1 := Lib.hid k0
          clear k0
          go_wp2_with fail
          have k := set4_14 (x := .int .i64 x) (y := .int .i64 y) (z := .int .i64 z) (t := .bool nw) H1.out
          obtain ⟨⟨e0, e1, e2, e3⟩, _⟩ := Four14.at k
          exact bodyPost_ret (v := .tuple #[.agg #[.int .i64 x, .int .i64 y, .int .i64 z, .bool nw], .bool true]) (by simp [results, Try.results21, go_sem, e0, e1, e2, e3]) rfl
            (FIN.out _ _ _ _ _ (by rw [HX.out, if_pos HQ.out]) (by rw [HY.out, if_pos HQ.out]) (by rw [HI.out, if_pos HQ.out]) (by rw [HN.out, HQ.out, HNW.out]; rfl) HQ.out _ (below14_4 ((gW.trans gV).trans g) (Nat.le_refl _)))
        · have HQ := Lib.hid (show cb = false by rw [HB.out]; simp [hm])
          have ht : (t.toList == s.toList) = false := by
            have hq := eq_list14 (a := t) (b := s)
            rwa [decide_eq_false (fun h => hm (HI2.out.1 h))] at hq
          have ht2 : (t.toList != s.toList) = true := by
            show (!(t.toList == s.toList)) = true
            rw [ht]; rfl
          clear hm
          go_enter Try.func21, Try.ntmps21
          go_wp2_with fail
          rw [← HW.out]
          refine (C0.out _).mono ?_; rintro e u ⟨rfl, rfl⟩
          go_wp2_with fail
          refine (C4.out _).mono ?_; rintro e u ⟨rfl, rfl⟩
          go_wp2_with fail
          refine (C12.out _).mono ?_; rintro e u ⟨rfl, rfl⟩
          go_wp2_with fail
          rw [← HV.out]
          refine (PP.out _).mono ?_; rintro e u ⟨rfl, g⟩
          have k0 := HK0.out.gr g
          obtain ⟨⟨e0, e1, e2, e3⟩, f0, f1, f2, f3⟩ := k0.at
          have H1 := Lib.hid k0
          clear k0
          go_wp2_with fail
          have k := set4_14 (x := .int .i64 0) (y := .int .i64 0) (z := .int .i64 0) (t := .bool false) H1.out
          obtain ⟨⟨e0, e1, e2, e3⟩, _⟩ := Four14.at k
          exact bodyPost_ret (v := .tuple #[.agg #[.int .i64 0, .int .i64 0, .int .i64 0, .bool false], .bool false]) (by simp [results, Try.results21, go_sem, e0, e1, e2, e3]) rfl
            (FIN.out _ _ _ _ _ (by rw [HX.out, HQ.out]; rfl) (by rw [HY.out, HQ.out]; rfl) (by rw [HI.out, HQ.out]; rfl) (by rw [HN.out, HQ.out]; rfl) HQ.out _ (below14_4 ((gW.trans gV).trans g) (Nat.le_refl _)))
  · have t1 : ((s.size : Int) != 17) = true := by simp; omega
    have HQ := Lib.hid (show cb = false by rw [HB.out, decide_eq_false hz]; rfl)
    clear hz
    go_enter Try.func21, Try.ntmps21
    go_wp2_with fail
    rw [← HW.out]
    obtain ⟨⟨e0, e1, e2, e3⟩, _⟩ := HC.out.at
    exact bodyPost_ret (v := .tuple #[.agg #[.int .i64 0, .int .i64 0, .int .i64 0, .bool false], .bool false]) (by simp [results, Try.results21, go_sem, e0, e1, e2, e3]) rfl
      (FIN.out _ _ _ _ _ (by rw [HX.out, HQ.out]; rfl) (by rw [HY.out, HQ.out]; rfl) (by rw [HI.out, HQ.out]; rfl) (by rw [HN.out, HQ.out]; rfl) HQ.out _ gW)
end Go.Proofs.Ytnmddnhllfojeaa
