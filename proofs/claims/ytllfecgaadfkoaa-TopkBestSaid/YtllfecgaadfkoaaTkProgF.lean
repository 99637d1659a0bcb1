/- slices.Insert of one near one ahead of others: in a new row, where there is no room; Insert whole. -/
import Derived.Test.YtllfecgaadfkoaaTkProgE
namespace Go.Proofs.Ytllfecgaadfkoaa
open Go.RowKit TkPlain
set_option linter.unusedVariables false
set_option linter.unusedSimpArgs false
set_option maxRecDepth 20000
theorem heap_lt {w : World} {g : Nat} {o : Obj} (h : w.heap[g]? = some o) : g < w.heap.size := by
  rcases Nat.lt_or_ge g w.heap.size with k | k
  · exact k
  · rw [Array.getElem?_eq_none k] at h; cases h
theorem zero_size (k : Nat) : (Builtin.zeroCells (Value.agg #[.int .i64 0, .int .i64 0, .bool false]).cells k).size = k * 3 := by
  simp [Builtin.zeroCells, Value.cells]
set_option maxHeartbeats 4000000 in
theorem insert_grow_c {w : World} {g c : Nat} {cur : Array Value} {l : List Nr} {B : Nat} (hBw : B ≤ w.heap.size) (hg : w.heap[g]? = some (.cells cur 26 (0, 0))) (hcl : cur.toList.take (l.length * 3) = nrs l) (hl : l.length ≤ 1000) (hlc : l.length ≤ c) (hroom : c < l.length + 1)
    (i : Nat) (hi : i < l.length) (x : Nr) (p : Nat) (hp : w.heap[p]? = some (.cells #[.int .i64 x.d, .int .i64 x.id, .bool x.nw] 26 (0, 0))) :
    Calls Try.prog 24 #[.slice (some ⟨g, 0, none⟩) l.length c, .int .i64 i, .slice (some ⟨p, 0, none⟩) 1 1] w fun e w' => InsGot B (l.take i ++ x :: l.drop i) w e w' := by
  obtain ⟨n, hn⟩ : ∃ n, n = l.length := ⟨_, rfl⟩
  obtain rfl : c = n := by omega
  have hgw := heap_lt hg
  have hpw := heap_lt hp
  obtain ⟨i0, hi0, hz0, hzs, hzb⟩ := info_partsT infoN
  have hsz : (Try.prog.info? 26).map (·.size) = some 3 := by kernel_rfl
  have hBl : (nrs (l.drop i)).length = (c - i) * 3 := by rw [nrs_length, List.length_drop, hn]
  have hAl : (nrs (l.take i)).length = i * 3 := by rw [nrs_length, List.length_take]; rw [Nat.min_eq_left (by omega)]
  have hA : cur.toList.take (i * 3) = nrs (l.take i) := by rw [← nrs_takeN l i (by omega), ← hcl, List.take_take, Nat.min_eq_left (by omega)]
  have hcellA : ∀ j v, (nrs (l.take i))[j]? = some v → w.cell? ⟨g, j, none⟩ = some v := fun j v hj => by
    rw [← hA, List.getElem?_take] at hj
    split at hj
    · rw [row_cell hg, ← Array.getElem?_toList]; exact hj
    · cases hj
  have hcellB : ∀ j v, (nrs (l.drop i))[j]? = some v → w.cell? ⟨g, i * 3 + j, none⟩ = some v := fun j v hj => by
    rw [← nrs_dropN l i (by omega), List.getElem?_drop, ← hcl, List.getElem?_take] at hj
    split at hj
    · rw [row_cell hg, ← Array.getElem?_toList]; exact hj
    · cases hj
  have hold : (Builtin.firstCells i0.size i (.slice (some ⟨g, 0, none⟩) i c)).run Try.prog w.drew = .ok (nrs (l.take i)).toArray w.drew := by
    rw [hzs]
    exact run_firstCells_some w.drew 3 i ⟨g, 0, none⟩ i c (nrs (l.take i)) hAl (fun j v hj => by rw [add_lit, Nat.zero_add]; exact hcellA j v hj)
  have hik : i + (c + 1 - i) = c + 1 := by omega
  have hkk : (c : Int) + 1 - (i : Int) = ((c + 1 - i : Nat) : Int) := by omega
  obtain ⟨G, hG⟩ : ∃ G, G = grownCap w (c + 1) c 26 := ⟨_, rfl⟩
  obtain ⟨ROW, hROW⟩ : ∃ ROW : Array Value, ROW = (nrs (l.take i)).toArray ++ Builtin.zeroCells (Value.agg #[.int .i64 0, .int .i64 0, .bool false]).cells (c + 1 - i) ++ Builtin.zeroCells (Value.agg #[.int .i64 0, .int .i64 0, .bool false]).cells (G - (c + 1)) := ⟨_, rfl⟩
  have hrz : ∀ ty, (Builtin.append_ #[22, 3] ty #[.slice (some ⟨g, 0, none⟩) i c, .int .i64 ((c : Int) + 1 - (i : Int))]).run Try.prog w = .ok (.slice (some ⟨w.heap.size, 0, none⟩) (c + 1) G) (w.drew.alloc (.cells ROW 26)) := fun ty => by
    have h := Lib.run_append_grow_zeros (P := Try.prog) w 22 3 ty 26 i0 _ .i64 .i64 Try.underlying22 Try.underlying3 hi0 hz0 (some ⟨g, 0, none⟩) i c (nrs (l.take i)) hold (c + 1 - i) (by omega) (by omega) (by omega) (by omega) (by rw [hzb]; omega) (by rw [hzb, hik]; exact growslice_fits (by omega) (by omega))
    rw [hik, ← hG, ← hROW] at h
    rw [hkk]
    exact h
  have hGn : c + 1 ≤ G := by rw [hG]; exact grownCap_ge w _ _ _
  have hGm : G ≤ maxLen := by rw [hG]; exact grownCap_le_maxLen w (c + 1) c 26 (by unfold maxLen; omega)
  have hG63 : G ≤ 9223372036854775807 := by unfold maxLen at hGm; omega
  have hRl : ROW.toList.length = G * 3 := by
    rw [hROW]
    simp only [Array.length_toList, Array.size_append, zero_size, List.size_toArray, hAl]
    omega
  have hRA : ROW.toList.take (i * 3) = nrs (l.take i) := by
    rw [hROW]
    simp only [Array.toList_append, List.append_assoc]
    exact take_at hAl
  obtain ⟨C1, hC1⟩ : ∃ C1, C1 = ROW.toList.take (i * 3) ++ nrs [x] ++ ROW.toList.drop (i * 3 + (nrs [x]).length) := ⟨_, rfl⟩
  obtain ⟨C2, hC2⟩ : ∃ C2, C2 = C1.take (i * 3 + 3) ++ nrs (l.drop i) ++ C1.drop (i * 3 + 3 + (nrs (l.drop i)).length) := ⟨_, rfl⟩
  obtain ⟨hS1, hS2, hS3⟩ := grow_list ROW.toList (nrs [x]) (nrs (l.drop i)) (i * 3) rfl (by rw [hRl, hBl]; omega) C1 C2 hC1 hC2
  obtain ⟨N, hN⟩ : ∃ N, N = w.heap.size := ⟨_, rfl⟩
  rw [← hN] at hrz
  obtain ⟨W0, hW0⟩ : ∃ W0, W0 = w.drew.alloc (.cells ROW 26) := ⟨_, rfl⟩
  rw [← hW0] at hrz
  have hg0 : W0.heap[N]? = some (.cells ROW 26 (0, 0)) := by rw [hW0, hN]; rw [World.alloc]; exact Array.getElem?_push_size
  have hb0 : Below B w W0 := by rw [hW0]; exact Below.alloc (Below.drew (Below.refl _ _)) hBw _
  have hc0 : ∀ q j, q < N → W0.cell? ⟨q, j, none⟩ = w.cell? ⟨q, j, none⟩ := fun q j hq => by rw [hW0]; exact World.cell?_alloc_past (w := w.drew) _ q j (by rw [hN] at hq; exact hq)
  have hcpA : ∀ (W : World), W = W0 → ∀ ty dc, (Builtin.copy_ #[22, 22] ty #[.slice (some ⟨N, i * 3, none⟩) (c + 1 - i) dc, .slice (some ⟨p, 0, none⟩) 1 1]).run Try.prog W = .ok (goInt (1 : Nat)) (W0.setRow N C1.toArray) := fun W hW ty dc => by
    subst hW
    have hm1 : Nat.min 1 (c + 1 - i) = 1 := by simp only [Nat.min_def]; split <;> omega
    have := run_copy_k (P := Try.prog) W 22 22 ty 26 N (i * 3) (c + 1 - i) dc ⟨p, 0, none⟩ 1 1 ROW 26 (nrs [x]) 3 Try.underlying22 hsz hg0 (by rw [hm1]; rfl) (fun j v hj => by
      rw [add_lit, Nat.zero_add, hc0 p j (by omega), row_cell hp]
      rw [← List.getElem?_toArray] at hj
      exact hj) (by rw [nrs_three, ← Array.length_toList, hRl]; omega) (nrs_one _)
    rw [hm1, ← hC1] at this
    exact this
  obtain ⟨W1, hW1⟩ : ∃ W1, W1 = W0.setRow N C1.toArray := ⟨_, rfl⟩
  rw [← hW1] at hcpA
  have hg1 : W1.heap[N]? = some (.cells C1.toArray 26 (0, 0)) := by rw [hW1]; exact setRow_heap W0 N _ _ _ _ hg0
  have hb1 : Below B w W1 := by rw [hW1]; exact below_setRow hb0 (by omega) _
  have hcg : ∀ j, W1.cell? ⟨g, j, none⟩ = w.cell? ⟨g, j, none⟩ := fun j => by
    rw [← hc0 g j (by omega)]
    have : W1.heap[g]? = W0.heap[g]? := by rw [hW1]; exact heap_setRow_ne _ _ _ _ (by omega)
    simp only [World.cell?, this]
  have hcpB : ∀ ty dc sc, (Builtin.copy_ #[22, 22] ty #[.slice (some ⟨N, (i + 1) * 3, none⟩) (c - i) dc, .slice (some ⟨g, i * 3, none⟩) (c - i) sc]).run Try.prog W1.drew = .ok (goInt (c - i : Nat)) (W1.drew.setRow N C2.toArray) := fun ty dc sc => by
    have hmin : Nat.min (c - i) (c - i) = c - i := Nat.min_self _
    have := run_copy_k (P := Try.prog) W1.drew 22 22 ty 26 N ((i + 1) * 3) (c - i) dc ⟨g, i * 3, none⟩ (c - i) sc C1.toArray 26 (nrs (l.drop i)) 3 Try.underlying22 hsz hg1 (by rw [hBl, hmin]) (fun j v hj => by rw [add_lit]; show W1.cell? _ = _; rw [hcg]; exact hcellB j v hj) (by rw [hBl, List.size_toArray, hS3, hRl]; omega) (nrs_one _)
    rw [hmin, show (i + 1) * 3 = i * 3 + 3 by omega, show C1.toArray.toList = C1 from rfl, ← hC2] at this
    rw [show (i + 1) * 3 = i * 3 + 3 by omega]
    exact this
  have hg2 : (W1.drew.setRow N C2.toArray).heap[N]? = some (.cells C2.toArray 26 (0, 0)) := setRow_heap W1.drew N _ _ _ _ hg1
  have hb2 : Below B w (W1.drew.setRow N C2.toArray) := below_setRow (Below.drew hb1) (by omega) _
  have hfin : (W1.drew.setRow N C2.toArray).ownsRow B 26 3 (.slice (some ⟨N, 0, none⟩) (c + 1) G) (l.take i ++ x :: l.drop i).length (nrs (l.take i ++ x :: l.drop i)) := by
    have hlen : (l.take i ++ x :: l.drop i).length = c + 1 := by simp only [List.length_append, List.length_take, List.length_cons, List.length_drop]; omega
    refine ⟨nrs_length _, .inr ⟨N, G, C2.toArray, by rw [hlen], by omega, hg2, by rw [hlen]; exact hGn, hGm, by rw [List.size_toArray, hS2, hRl], ?_⟩⟩
    rw [hlen, show C2.toArray.toList = C2 from rfl, show (c + 1) * 3 = i * 3 + 3 + (nrs (l.drop i)).length by rw [hBl]; omega, hS1, hRA, nrs_app, List.append_assoc]
    rfl
  have f1 := cut_from g c c i (i * 3) (c - i) (c - i) (by omega) (by omega) (by omega) (i : Int) rfl rfl rfl rfl
  have f2 := cut_to (some ⟨g, 0, none⟩) c c i (by omega) (by omega) (i : Int) rfl
  have f3 := cut_from N (c + 1) G i (i * 3) (c + 1 - i) (G - i) (by omega) (by omega) (by omega) (i : Int) rfl rfl rfl rfl
  have f4 := cut_from N (c + 1) G (i + 1) ((i + 1) * 3) (c - i) (G - (i + 1)) (by omega) (by omega) (by omega) ((i : Int) + 1) (by omega) rfl (by omega) rfl
  have HF := Lib.hid hfin
  have HB := Lib.hid hb2
  have w1 : IntKind.i64.wrap ((i : Int) + 1) = (i : Int) + 1 := IntWalk.i64_in _ (by omega)
  have w2 : (0 : Int) ≤ (i : Int) + 1 := by omega
  have w3 : ((i : Int) == (c : Int)) = false := beq_eq_false_iff_ne.2 (by omega)
  have w4 : decide ((c : Int) < (c : Int) + 1) = true := by rw [decide_eq_true_iff]; omega
  have mixed : Try.prog.follows Departure.mixedOrders = true := by kernel_rfl
  have HN := Lib.hid hn
  rw [← hn] at hl hi hroom ⊢
  clear hn hfin hb0 hb1 hb2 hg0 hg2 hg1 hc0 hcg hC1 hC2 hS1 hS2 hS3 hcellA hcellB hBl hAl hA hcl hg hp hsz hold hROW hRl hRA hG hi0 hz0 hzs hzb hGm hkk hik
  have HW := Lib.hid hW1
  have HW0 := Lib.hid hW0
  clear hW1 hW0
  have HNN := Lib.hid hN
  clear hN
  go_enter Try.func24, Try.ntmps24
  go_wp2_with (first
    | (at_builtin; refine Lib.wpList_append_run _ rfl _ _ _ _ rfl _ _ rfl rfl _ _ (hrz _) ?_)
    | (at_builtin; refine wpList_copy_runI _ rfl _ _ 22 22 rfl _ _ rfl rfl (hcpA _ rfl _ _) ?_))
  go_region_law_o (refine step_copy_runI rfl _ _ 22 22 rfl _ _ (by simp [Act.eval, Act.put]) (by simp [Act.eval, Act.put]) (hcpB _ _ _) ?_)
  go_wp2_with fail
  go_ret
  exact insGot HF.out HB.out
/-- Insert of one near one, wherever. -/
theorem insert12_c {w : World} {v : Value} {l : List Nr} {B : Nat} (hown : w.ownsRow B 26 3 v l.length (nrs l)) (hB : B ≤ w.heap.size) (hl : l.length ≤ 1000) (i : Nat) (hi : i ≤ l.length) (x : Nr) (p : Nat) (hp : w.heap[p]? = some (.cells #[.int .i64 x.d, .int .i64 x.id, .bool x.nw] 26 (0, 0))) (hpv : v.ownBlock ≠ some p) :
    Calls Try.prog 24 #[v, .int .i64 i, .slice (some ⟨p, 0, none⟩) 1 1] w fun e w' => InsGot B (l.take i ++ x :: l.drop i) w e w' := by
  by_cases h : i = l.length
  · subst h
    rw [List.take_length, List.drop_length]
    exact insert_end_c hown hB hl x p hp
  · obtain ⟨_, q⟩ := hown
    rcases q with ⟨rfl, z⟩ | ⟨g, cap, cur, rfl, hBg, hg, hn, hcm, hcs, hcl⟩
    · omega
    · by_cases hr : l.length + 1 ≤ cap
      · exact insert_shift_c hBg hg hcm hcs hcl hl hr i (by omega) x p hp (fun e => hpv (by rw [e]; rfl))
      · exact insert_grow_c hB hg hcl hl hn (by omega) i (by omega) x p hp
end Go.Proofs.Ytllfecgaadfkoaa
