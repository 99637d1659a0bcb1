/- In one text: StB. -/
import Derived.Test.YtgopodgjnblgkaaDoorP32
/- The program's layer 21: Next, outputs, Files. -/
namespace Go.Proofs.YtgopodgjnblgkaaDoor
open Go.RowKit FsPlain MnPlain RnPlain StPlain
set_option linter.unusedVariables false
set_option linter.unusedSimpArgs false
set_option maxRecDepth 20000
theorem st_results {fn : Func} {p q : Tmp} (hfn : fn.results = #[.cell p 25, .tmp q]) {tmps : Array Value} {o : Nat} {x y v : Value} {w : World} (hp : tmps.getD p undef = .pointer (some ⟨o, 0, none⟩)) (hv : tmps.getD q undef = v) (hb : w.heap[o]? = some (.cells #[x, y] 25 (0, 0))) :
    (results fn tmps).run Tryd.prog w = .ok (.tuple #[.agg #[x, y], v]) w := by
  have c0 : w.cell? ⟨o, 0, none⟩ = some x := by rw [cells_at hb]; rfl
  have c1 : w.cell? ⟨o, 1, none⟩ = some y := by rw [cells_at hb]; rfl
  rw [results_cell_tmp hfn, hp, hv]
  simp [go_sem, c0, c1]
theorem st_store {u : World} {q : Nat} {x0 y0 : Value} (hc : u.heap[q]? = some (.cells #[x0, y0] 25 (0, 0))) (x y : Value) :
    ((u.setCell ⟨q, 0, none⟩ x).setCell ⟨q, 1, none⟩ y).heap[q]? = some (.cells #[x, y] 25 (0, 0)) := by
  rw [cells_set (cells_set hc 0 _) 1 _]; rfl
/-- The step handed in, and the one to be handed out. -/
def NxV (w : World) (s p : Int) : World := (w.alloc (.cells #[.int .i64 s, .int .i64 p] 25)).alloc (.cells #[.int .i64 0, .int .i64 0] 25)
theorem nxv_at {w u : World} {s p : Int} (g : Gr (NxV w s p) u) : u.heap[w.heap.size]? = some (.cells #[.int .i64 s, .int .i64 p] 25 (0, 0)) ∧ u.heap[w.heap.size + 1]? = some (.cells #[.int .i64 0, .int .i64 0] 25 (0, 0)) ∧ Gr w u ∧ w.heap.size + 1 < u.heap.size := by
  have h1 : (w.alloc (.cells #[.int .i64 s, .int .i64 p] 25)).heap.size = w.heap.size + 1 := by simp
  have hz : (NxV w s p).heap.size = w.heap.size + 2 := by simp [NxV]
  have gs := g.size
  refine ⟨?_, ?_, (grst w _).trans ((grst _ _).trans g), by omega⟩
  · rw [Below.block g _ (by omega)]
    unfold NxV
    rw [Below.block (grst _ _) _ (by omega)]
    exact heap_alloc_new w _
  · rw [Below.block g _ (by omega), ← h1]
    exact heap_alloc_new _ _
theorem nx_set {w u : World} (g : Gr w u) (x y : Value) : Gr w ((u.setCell ⟨w.heap.size + 1, 0, none⟩ x).setCell ⟨w.heap.size + 1, 1, none⟩ y) := Below.setCell (Below.setCell g (by simp) _) (by simp) _
set_option maxHeartbeats 1000000 in
theorem next21_c (s p r : Int) (stop : Bool) (hs : I64 s) (hp : I64 p) (hr : I64 r) (w : World) : Calls Tryd.prog 6 #[.agg #[.int .i64 s, .int .i64 p], .int .i64 r, .bool stop] w fun e w' => e = .returned (.tuple #[.agg #[.int .i64 (nextP s p r stop).1, .int .i64 (nextP s p r stop).2.1], .bool (nextP s p r stop).2.2]) ∧ Gr w w' := by
  obtain ⟨V, hV⟩ : ∃ V, V = NxV w s p := ⟨_, rfl⟩
  have R := Lib.hid (right21_c s p r hs hp hr V)
  have VC := Lib.hid (fun u (g : Gr V u) => nxv_at (w := w) (s := s) (p := p) (by rw [← hV]; exact g))
  have HV := Lib.hid (show (w.alloc (.cells #[.int .i64 s, .int .i64 p] 25)).alloc (.cells #[.int .i64 0, .int .i64 0] 25) = V from by rw [hV]; rfl)
  unfold I64 at hs hp hr
  obtain ⟨n, hn⟩ : ∃ n, nextP s p r stop = n := ⟨_, rfl⟩
  obtain ⟨t, q, ok⟩ := n
  rw [hn]
  cases hR : rightP s p r
  · rw [hR] at R
    unfold nextP at hn
    rw [if_pos (.inl hR)] at hn
    simp only [Prod.mk.injEq] at hn
    obtain ⟨rfl, rfl, rfl⟩ := hn
    clear hV hR
    go_enter Tryd.func6, Tryd.ntmps6
    go_wp2_with fail
    rw [HV.out]
    refine R.out.mono ?_; rintro e u ⟨rfl, g⟩
    have Z := Lib.hid (VC.out u g)
    clear g
    obtain ⟨y0, y1, f0, f1⟩ : u.cell? ⟨w.heap.size + 1, 0, none⟩ = some (.int .i64 0) ∧ u.cell? ⟨w.heap.size + 1, 1, none⟩ = some (.int .i64 0) ∧ u.frozen? ⟨w.heap.size + 1, 0, none⟩ = false ∧ u.frozen? ⟨w.heap.size + 1, 1, none⟩ = false := ⟨by rw [cells_at Z.out.2.1]; rfl, by rw [cells_at Z.out.2.1]; rfl, cells_free Z.out.2.1 0, cells_free Z.out.2.1 1⟩
    have ST := Lib.hid (st_store Z.out.2.1 (.int .i64 0) (.int .i64 0))
    go_wp2_with fail
    exact bodyPost_ret (by exact st_results rfl rfl rfl ST.out) rfl ⟨rfl, nx_set Z.out.2.2.1 _ _⟩
  · have k := rightP_iff.1 hR
    rw [hR] at R
    by_cases h34 : s = 3 ∨ s = 4
    · obtain ⟨b, hb⟩ : ∃ b, (stop || decide (r ≤ p + 1)) = b := ⟨_, rfl⟩
      have hpb : 0 ≤ p ∧ p ≤ 64 := by omega
      have hnn : t = (if b then 5 else 4) ∧ q = p + 1 ∧ ok = true := by
        unfold nextP at hn
        rw [if_neg (by rintro (h | h); rw [hR] at h; cases h; omega), if_pos h34] at hn
        rw [← hb]
        by_cases hh : stop = true ∨ r ≤ p + 1
        · rw [if_pos hh] at hn
          simp only [Prod.mk.injEq] at hn
          obtain ⟨rfl, rfl, rfl⟩ := hn
          refine ⟨?_, rfl, rfl⟩
          rw [if_pos (by simpa using hh)]
        · rw [if_neg hh] at hn
          simp only [Prod.mk.injEq] at hn
          obtain ⟨rfl, rfl, rfl⟩ := hn
          refine ⟨?_, rfl, rfl⟩
          rw [if_neg (by simpa using hh)]
      obtain ⟨ht, rfl, rfl⟩ := hnn
      have RC := Lib.hid (fun u => round21_c (p + 1) b u)
      rw [← ht] at RC
      clear hn ht hV k hR
      obtain ⟨p1, hp1⟩ : ∃ p1, p + 1 = p1 := ⟨_, rfl⟩
      have fin : ∀ u v, Gr V u → Gr u v → v.heap[w.heap.size + 1]? = some (.cells #[.int .i64 0, .int .i64 0] 25 (0, 0)) ∧ Gr w v := fun u v g g2 => ⟨(VC.out v (g.trans g2)).2.1, (VC.out v (g.trans g2)).2.2.1⟩
      have FN := Lib.hid fin
      clear fin hs hp
      by_cases hd : r ≤ p + 1
      · have hd2 : decide (r ≤ p + 1) = true := decide_eq_true hd
        cases stop
        all_goals
          obtain rfl : b = true := by rw [← hb]; simp [hd]
          clear hb
          go_enter Tryd.func6, Tryd.ntmps6
          go_wp2_with fail
          rw [HV.out]
          refine R.out.mono ?_; rintro e u ⟨rfl, g⟩
          have Z := Lib.hid (VC.out u g)
          obtain ⟨x0, x1⟩ : u.cell? ⟨w.heap.size, 0, none⟩ = some (.int .i64 s) ∧ u.cell? ⟨w.heap.size, 1, none⟩ = some (.int .i64 p) := ⟨by rw [cells_at Z.out.1]; rfl, by rw [cells_at Z.out.1]; rfl⟩
          clear hp1
          rcases h34 with rfl | rfl
          all_goals
            go_wp2_with fail
            refine (RC.out u).mono ?_; rintro e v ⟨rfl, g2⟩
            obtain ⟨zb, gv⟩ := FN.out u v g g2
            obtain ⟨y0, y1, f0, f1⟩ : v.cell? ⟨w.heap.size + 1, 0, none⟩ = some (.int .i64 0) ∧ v.cell? ⟨w.heap.size + 1, 1, none⟩ = some (.int .i64 0) ∧ v.frozen? ⟨w.heap.size + 1, 0, none⟩ = false ∧ v.frozen? ⟨w.heap.size + 1, 1, none⟩ = false := ⟨by rw [cells_at zb]; rfl, by rw [cells_at zb]; rfl, cells_free zb 0, cells_free zb 1⟩
            have ST := Lib.hid (st_store zb (.int .i64 t) (.int .i64 (p + 1)))
            have GV := Lib.hid gv
            clear g g2 zb gv
            go_wp2_with fail
            exact bodyPost_ret (by exact st_results rfl rfl rfl ST.out) rfl ⟨rfl, nx_set GV.out _ _⟩
      · have hd2 : decide (r ≤ p + 1) = false := decide_eq_false hd
        cases stop
        all_goals
          obtain ⟨b', hb'⟩ : ∃ b', b' = b := ⟨_, rfl⟩
          simp only [hd2, Bool.or_false, Bool.or_true, Bool.true_or, Bool.false_or] at hb
          subst hb
          clear hb'
          go_enter Tryd.func6, Tryd.ntmps6
          go_wp2_with fail
          rw [HV.out]
          refine R.out.mono ?_; rintro e u ⟨rfl, g⟩
          have Z := Lib.hid (VC.out u g)
          obtain ⟨x0, x1⟩ : u.cell? ⟨w.heap.size, 0, none⟩ = some (.int .i64 s) ∧ u.cell? ⟨w.heap.size, 1, none⟩ = some (.int .i64 p) := ⟨by rw [cells_at Z.out.1]; rfl, by rw [cells_at Z.out.1]; rfl⟩
          clear hp1
          rcases h34 with rfl | rfl
          all_goals
            go_wp2_with fail
            refine (RC.out u).mono ?_; rintro e v ⟨rfl, g2⟩
            obtain ⟨zb, gv⟩ := FN.out u v g g2
            obtain ⟨y0, y1, f0, f1⟩ : v.cell? ⟨w.heap.size + 1, 0, none⟩ = some (.int .i64 0) ∧ v.cell? ⟨w.heap.size + 1, 1, none⟩ = some (.int .i64 0) ∧ v.frozen? ⟨w.heap.size + 1, 0, none⟩ = false ∧ v.frozen? ⟨w.heap.size + 1, 1, none⟩ = false := ⟨by rw [cells_at zb]; rfl, by rw [cells_at zb]; rfl, cells_free zb 0, cells_free zb 1⟩
            have ST := Lib.hid (st_store zb (.int .i64 t) (.int .i64 (p + 1)))
            have GV := Lib.hid gv
            clear g g2 zb gv
            go_wp2_with fail
            exact bodyPost_ret (by exact st_results rfl rfl rfl ST.out) rfl ⟨rfl, nx_set GV.out _ _⟩
    · have hs7 : s = 7 ∨ s = 0 ∨ s = 1 ∨ s = 2 ∨ s = 5 ∨ s = 6 := by omega
      have hnn : (s = 7 ∧ t = 0 ∧ q = 0 ∧ ok = false) ∨ ((s = 0 ∨ s = 1 ∨ s = 2 ∨ s = 5 ∨ s = 6) ∧ t = s + 1 ∧ q = 0 ∧ ok = true) := by
        unfold nextP at hn
        by_cases h7 : s = 7
        · rw [if_pos (.inr h7)] at hn
          simp only [Prod.mk.injEq] at hn
          exact .inl ⟨h7, hn.1.symm, hn.2.1.symm, hn.2.2.symm⟩
        · rw [if_neg (by rintro (h | h); rw [hR] at h; cases h; exact h7 h), if_neg h34] at hn
          simp only [Prod.mk.injEq] at hn
          exact .inr ⟨by omega, hn.1.symm, hn.2.1.symm, hn.2.2.symm⟩
      clear hn hV k hR h34 hs7
      rcases hnn with ⟨rfl, rfl, rfl, rfl⟩ | ⟨h, rfl, rfl, rfl⟩
      · go_enter Tryd.func6, Tryd.ntmps6
        go_wp2_with fail
        rw [HV.out]
        refine R.out.mono ?_; rintro e u ⟨rfl, g⟩
        have Z := Lib.hid (VC.out u g)
        clear g
        obtain ⟨x0, x1⟩ : u.cell? ⟨w.heap.size, 0, none⟩ = some (.int .i64 7) ∧ u.cell? ⟨w.heap.size, 1, none⟩ = some (.int .i64 p) := ⟨by rw [cells_at Z.out.1]; rfl, by rw [cells_at Z.out.1]; rfl⟩
        obtain ⟨y0, y1, f0, f1⟩ : u.cell? ⟨w.heap.size + 1, 0, none⟩ = some (.int .i64 0) ∧ u.cell? ⟨w.heap.size + 1, 1, none⟩ = some (.int .i64 0) ∧ u.frozen? ⟨w.heap.size + 1, 0, none⟩ = false ∧ u.frozen? ⟨w.heap.size + 1, 1, none⟩ = false := ⟨by rw [cells_at Z.out.2.1]; rfl, by rw [cells_at Z.out.2.1]; rfl, cells_free Z.out.2.1 0, cells_free Z.out.2.1 1⟩
        have ST := Lib.hid (st_store Z.out.2.1 (.int .i64 0) (.int .i64 0))
        go_wp2_with fail
        exact bodyPost_ret (by exact st_results rfl rfl rfl ST.out) rfl ⟨rfl, nx_set Z.out.2.2.1 _ _⟩
      · rcases h with rfl | rfl | rfl | rfl | rfl
        all_goals
          go_enter Tryd.func6, Tryd.ntmps6
          go_wp2_with fail
          rw [HV.out]
          refine R.out.mono ?_; rintro e u ⟨rfl, g⟩
          have Z := Lib.hid (VC.out u g)
          clear g
          have x0 := cells_at (i := 0) Z.out.1
          have x1 := cells_at (i := 1) Z.out.1
          obtain ⟨y0, y1, f0, f1⟩ : u.cell? ⟨w.heap.size + 1, 0, none⟩ = some (.int .i64 0) ∧ u.cell? ⟨w.heap.size + 1, 1, none⟩ = some (.int .i64 0) ∧ u.frozen? ⟨w.heap.size + 1, 0, none⟩ = false ∧ u.frozen? ⟨w.heap.size + 1, 1, none⟩ = false := ⟨by rw [cells_at Z.out.2.1]; rfl, by rw [cells_at Z.out.2.1]; rfl, cells_free Z.out.2.1 0, cells_free Z.out.2.1 1⟩
          go_wp2_with fail
          exact bodyPost_ret (by exact st_results rfl rfl rfl (st_store Z.out.2.1 _ _)) rfl ⟨rfl, nx_set Z.out.2.2.1 _ _⟩
theorem lies_new1 (w : World) (x : Fl) : LiesFl (w.alloc (.cells #[.string x.name, .int .i64 x.size, .int .i64 x.count, .int .u32 x.sum] 43)) (.slice (some ⟨w.heap.size, 0, none⟩) 1 1) [x] := by
  refine ⟨_, 1, rfl, Nat.le_refl _, .inr ⟨w.heap.size, 0, rfl, by simp, fun j y hj => ?_⟩⟩
  have hb := heap_alloc_new w (.cells #[.string x.name, .int .i64 x.size, .int .i64 x.count, .int .u32 x.sum] 43)
  match j, hj with
  | 0, hj =>
    obtain rfl : x = y := by simpa using hj
    exact ⟨by rw [cells_at hb]; rfl, by rw [cells_at hb]; rfl, by rw [cells_at hb]; rfl, by rw [cells_at hb]; rfl⟩
  | j + 1, hj => simp at hj
theorem lies_new2 (w : World) (x z : Fl) : LiesFl (w.alloc (.cells #[.string x.name, .int .i64 x.size, .int .i64 x.count, .int .u32 x.sum, .string z.name, .int .i64 z.size, .int .i64 z.count, .int .u32 z.sum] 43)) (.slice (some ⟨w.heap.size, 0, none⟩) 2 2) [x, z] := by
  refine ⟨_, 2, rfl, Nat.le_refl _, .inr ⟨w.heap.size, 0, rfl, by simp, fun j y hj => ?_⟩⟩
  have hb := heap_alloc_new w (.cells #[.string x.name, .int .i64 x.size, .int .i64 x.count, .int .u32 x.sum, .string z.name, .int .i64 z.size, .int .i64 z.count, .int .u32 z.sum] 43)
  match j, hj with
  | 0, hj =>
    obtain rfl : x = y := by simpa using hj
    exact ⟨by rw [cells_at hb]; rfl, by rw [cells_at hb]; rfl, by rw [cells_at hb]; rfl, by rw [cells_at hb]; rfl⟩
  | 1, hj =>
    obtain rfl : z = y := by simpa using hj
    exact ⟨by rw [cells_at hb]; rfl, by rw [cells_at hb]; rfl, by rw [cells_at hb]; rfl, by rw [cells_at hb]; rfl⟩
  | j + 2, hj => simp at hj
theorem outputs21_c (a b : ByteArray) (w : World) : Calls Tryd.prog 16 #[.string a, .string b] w fun e w' => ∃ o c, e = .returned (.slice o 2 c) ∧ LiesFl w' (.slice o 2 c) [⟨a, 8, 0, 0⟩, ⟨b, 17, 0, 0⟩] ∧ Gr w w' := by
  go_enter Tryd.func16, Tryd.ntmps16
  go_wp2_with fail
  go_ret
  exact ⟨_, _, rfl, lies_new2 w ⟨a, 8, 0, 0⟩ ⟨b, 17, 0, 0⟩, grst w _⟩
end Go.Proofs.YtgopodgjnblgkaaDoor
