/- slices.Insert of one near one ahead of others: in place, where there is room. -/
import Derived.Test.YtllfecgaadfkoaaTkProgD
import Derived.Laws.CopyOwn
namespace Go.Proofs.Ytllfecgaadfkoaa
open Go.RowKit TkPlain
set_option linter.unusedVariables false
set_option linter.unusedSimpArgs false
set_option maxRecDepth 20000
theorem nrs_takeN : ∀ (l : List Nr) (i : Nat), i ≤ l.length → (nrs l).take (i * 3) = nrs (l.take i)
  | [], i, h => by simp [nrs]
  | y :: l, 0, h => by simp [nrs]
  | y :: l, i + 1, h => by
    rw [show (i + 1) * 3 = i * 3 + 1 + 1 + 1 by omega]
    simp only [nrs, List.take_succ_cons]
    rw [nrs_takeN l i (by simpa using h)]
theorem nrs_dropN : ∀ (l : List Nr) (i : Nat), i ≤ l.length → (nrs l).drop (i * 3) = nrs (l.drop i)
  | [], i, h => by simp [nrs]
  | y :: l, 0, h => by simp [nrs]
  | y :: l, i + 1, h => by
    rw [show (i + 1) * 3 = i * 3 + 1 + 1 + 1 by omega]
    simp only [nrs, List.drop_succ_cons]
    rw [nrs_dropN l i (by simpa using h)]
theorem row_cell {w : World} {g : Nat} {cur : Array Value} {T : TypeId} (hg : w.heap[g]? = some (.cells cur T (0, 0))) (j : Nat) : w.cell? ⟨g, j, none⟩ = cur[j]? := by simp [World.cell?, hg]
set_option maxHeartbeats 4000000 in
theorem insert_shift_c {w : World} {g c : Nat} {cur : Array Value} {l : List Nr} {B : Nat} (hBg : B ≤ g) (hg : w.heap[g]? = some (.cells cur 26 (0, 0))) (hcm : c ≤ maxLen) (hcs : cur.size = c * 3) (hcl : cur.toList.take (l.length * 3) = nrs l) (hl : l.length ≤ 1000) (hroom : l.length + 1 ≤ c)
    (i : Nat) (hi : i < l.length) (x : Nr) (p : Nat) (hp : w.heap[p]? = some (.cells #[.int .i64 x.d, .int .i64 x.id, .bool x.nw] 26 (0, 0))) (hpg : p ≠ g) :
    Calls Try.prog 24 #[.slice (some ⟨g, 0, none⟩) l.length c, .int .i64 i, .slice (some ⟨p, 0, none⟩) 1 1] w fun e w' => InsGot B (l.take i ++ x :: l.drop i) w e w' := by
  obtain ⟨n, hn⟩ : ∃ n, n = l.length := ⟨_, rfl⟩
  have hgw : g < w.heap.size := by
    rcases Nat.lt_or_ge g w.heap.size with h | h
    · exact h
    · rw [Array.getElem?_eq_none h] at hg; cases hg
  have hc63 : c ≤ 9223372036854775807 := by unfold maxLen at hcm; omega
  have hsz : (Try.prog.info? 26).map (·.size) = some 3 := by kernel_rfl
  have hBl : (nrs (l.drop i)).length = (n - i) * 3 := by rw [nrs_length, List.length_drop, hn]
  have hov : ∀ lb cb, (callFunc 28 #[.slice (some ⟨p, 0, none⟩) 1 1, .slice (some ⟨g, (i + 1) * 3, none⟩) lb cb]).run Try.prog w = .ok (.value (.bool false)) w := fun lb cb => by
    rw [run_callFunc_extern Try.func28 (by kernel_rfl) (by kernel_rfl) (by kernel_rfl) (e := Extern.SlicesOverlaps.overlaps #[22, 22] #[4]) (by kernel_rfl),
      Lib.run_overlaps_apart w 22 4 26 Try.underlying22 3 (fun w => by
        obtain ⟨i0, hi0, _, h1, _⟩ := info_partsT infoN
        simp [Go.sizeOf, typeInfo, hi0, h1]) ⟨p, 0, none⟩ ⟨g, (i + 1) * 3, none⟩ 1 1 lb cb hpg 26 26 3 (c * 3) (by simp [World.shape?, hp]) (by simp [World.shape?, hg, hcs]) (by omega) (by simp [World.frozen?, hp]) (by simp [World.frozen?, hp])]
    rfl
  have f1 := cut_from g n c i (i * 3) (n - i) (c - i) (by omega) (by omega) (by omega) (i : Int) rfl rfl rfl rfl
  have f2 := cut_to (some ⟨g, 0, none⟩) n c (n + 1) (by omega) (by omega) ((n : Int) + 1) (by omega)
  have f3 := cut_from g (n + 1) c (i + 1) ((i + 1) * 3) (n - i) (c - (i + 1)) (by omega) (by omega) (by omega) ((i : Int) + 1) (by omega) rfl (by omega) rfl
  have f4 := cut_from g (n + 1) c i (i * 3) (n + 1 - i) (c - i) (by omega) (by omega) (by omega) (i : Int) rfl rfl rfl rfl
  obtain ⟨C1, hC1⟩ : ∃ C1, C1 = cur.toList.take (i * 3 + 3) ++ nrs (l.drop i) ++ cur.toList.drop (i * 3 + 3 + (nrs (l.drop i)).length) := ⟨_, rfl⟩
  obtain ⟨C2, hC2⟩ : ∃ C2, C2 = C1.take (i * 3) ++ nrs [x] ++ C1.drop (i * 3 + (nrs [x]).length) := ⟨_, rfl⟩
  have hcl2 : cur.toList.length = c * 3 := by rw [Array.length_toList, hcs]
  obtain ⟨hS1, hS2, hS3⟩ := shift_list cur.toList (nrs [x]) (nrs (l.drop i)) (i * 3) rfl (by rw [hcl2, hBl]; omega) C1 C2 hC1 hC2
  have hcell : ∀ j v, (nrs (l.drop i))[j]? = some v → w.cell? ⟨g, i * 3 + j, none⟩ = some v := fun j v hj => by
    have hj2 := hj
    rw [← nrs_dropN l i (by omega), List.getElem?_drop, ← hcl, List.getElem?_take] at hj2
    split at hj2
    · rw [row_cell hg, ← Array.getElem?_toList]; exact hj2
    · cases hj2
  have hmin : Nat.min (n + 1 - i) (n - i) = n - i := by simp only [Nat.min_def]; split <;> omega
  have hcp1 : ∀ ty dc sc, (Builtin.copy_ #[22, 22] ty #[.slice (some ⟨g, (i + 1) * 3, none⟩) (n - i) dc, .slice (some ⟨g, i * 3, none⟩) (n + 1 - i) sc]).run Try.prog w.drew = .ok (goInt (n - i : Nat)) (w.drew.setRow g C1.toArray) := fun ty dc sc => by
    have := run_copy_k (P := Try.prog) w.drew 22 22 ty 26 g ((i + 1) * 3) (n - i) dc ⟨g, i * 3, none⟩ (n + 1 - i) sc cur 26 (nrs (l.drop i)) 3 Try.underlying22 hsz hg (by rw [hBl, hmin]) (fun j v hj => by rw [add_lit]; exact hcell j v hj) (by rw [hBl, hcs]; omega) (nrs_one _)
    rw [hmin, show (i + 1) * 3 = i * 3 + 3 by omega, ← hC1] at this
    rw [show (i + 1) * 3 = i * 3 + 3 by omega]
    exact this
  obtain ⟨W1, hW1⟩ : ∃ W1, W1 = w.drew.setRow g C1.toArray := ⟨_, rfl⟩
  have hg1 : W1.heap[g]? = some (.cells C1.toArray 26 (0, 0)) := by rw [hW1]; exact setRow_heap w.drew g cur _ _ _ hg
  have hp1 : W1.heap[p]? = some (.cells #[.int .i64 x.d, .int .i64 x.id, .bool x.nw] 26 (0, 0)) := by rw [hW1, heap_setRow_ne _ _ _ _ hpg]; exact hp
  rw [← hW1] at hcp1
  have hcp2 : ∀ (W : World), W = W1 → ∀ ty dc, (Builtin.copy_ #[22, 22] ty #[.slice (some ⟨g, i * 3, none⟩) (n + 1 - i) dc, .slice (some ⟨p, 0, none⟩) 1 1]).run Try.prog W = .ok (goInt (1 : Nat)) (W1.setRow g C2.toArray) := fun W hW ty dc => by
    subst hW
    have hm1 : Nat.min 1 (n + 1 - i) = 1 := by simp only [Nat.min_def]; split <;> omega
    have := run_copy_k (P := Try.prog) W 22 22 ty 26 g (i * 3) (n + 1 - i) dc ⟨p, 0, none⟩ 1 1 C1.toArray 26 (nrs [x]) 3 Try.underlying22 hsz hg1 (by rw [hm1]; rfl) (fun j v hj => by
      rw [add_lit, Nat.zero_add, row_cell hp1]
      rw [← List.getElem?_toArray] at hj
      exact hj) (by rw [nrs_three, List.size_toArray, hS3, hcl2]; omega) (nrs_one _)
    rw [hm1, ← hC2] at this
    exact this
  have hb1 : Below B w W1 := by rw [hW1]; exact below_setRow (Below.drew (Below.refl _ _)) hBg _
  have hb2 : Below B w (W1.setRow g C2.toArray) := below_setRow hb1 hBg _
  have hg2 : (W1.setRow g C2.toArray).heap[g]? = some (.cells C2.toArray 26 (0, 0)) := setRow_heap W1 g _ _ _ _ hg1
  have hfin : (W1.setRow g C2.toArray).ownsRow B 26 3 (.slice (some ⟨g, 0, none⟩) (n + 1) c) (l.take i ++ x :: l.drop i).length (nrs (l.take i ++ x :: l.drop i)) := by
    have hlen : (l.take i ++ x :: l.drop i).length = n + 1 := by simp only [List.length_append, List.length_take, List.length_cons, List.length_drop]; omega
    refine ⟨nrs_length _, .inr ⟨g, c, C2.toArray, by rw [hlen], hBg, hg2, by rw [hlen]; omega, hcm, by rw [List.size_toArray, hS2, hcl2], ?_⟩⟩
    rw [hlen, show C2.toArray.toList = C2 from rfl, show (n + 1) * 3 = i * 3 + 3 + (nrs (l.drop i)).length by rw [hBl]; omega, hS1]
    have : cur.toList.take (i * 3) = nrs (l.take i) := by rw [← nrs_takeN l i (by omega), ← hcl, List.take_take, Nat.min_eq_left (by omega)]
    rw [this, nrs_app, List.append_assoc]
    rfl
  have HF := Lib.hid hfin
  have HB := Lib.hid hb2
  have w1 : IntKind.i64.wrap ((i : Int) + 1) = (i : Int) + 1 := IntWalk.i64_in _ (by omega)
  have w2 : (0 : Int) ≤ (i : Int) + 1 := by omega
  have w3 : ((i : Int) == (n : Int)) = false := beq_eq_false_iff_ne.2 (by omega)
  have w4 : decide ((c : Int) < (n : Int) + 1) = false := by rw [decide_eq_false_iff_not]; omega
  have mixed : Try.prog.follows Departure.mixedOrders = true := by kernel_rfl
  have HN := Lib.hid hn
  rw [← hn] at hl hi hroom ⊢
  clear hn hfin hb1 hb2 hg2 hg1 hp1 hC1 hC2 hS1 hS2 hS3 hcell hmin hBl hcl hcl2 hcs hg hp hsz hcm
  have HW := Lib.hid hW1
  clear hW1
  go_enter Try.func24, Try.ntmps24
  go_wp2_with (simp only [hov])
  go_region_law_o (refine step_copy_runI rfl _ _ 22 22 rfl _ _ (by simp [Act.eval, Act.put]) (by simp [Act.eval, Act.put]) (hcp1 _ _ _) ?_)
  go_wp2_with (at_builtin; refine wpList_copy_runI _ rfl _ _ 22 22 rfl _ _ rfl rfl (hcp2 _ rfl _ _) ?_)
  go_ret
  exact insGot HF.out HB.out
end Go.Proofs.Ytllfecgaadfkoaa
