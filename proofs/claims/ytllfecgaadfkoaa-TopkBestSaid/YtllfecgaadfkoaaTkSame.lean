/- Near ones compared; the document's Same says that lists are one, where they hold the same. -/
import Derived.Test.YtllfecgaadfkoaaTkRight
namespace Go.Proofs.Ytllfecgaadfkoaa
open Go.RowKit TkPlain
set_option linter.unusedVariables false
set_option linter.unusedSimpArgs false
set_option maxRecDepth 20000
theorem nr_neq (x y : Nr) (w : World) : (binOp .neq 26 (.agg #[.int .i64 x.d, .int .i64 x.id, .bool x.nw]) (.agg #[.int .i64 y.d, .int .i64 y.id, .bool y.nw])).run Try.prog w = .ok (.bool (decide (x ≠ y))) w := by
  have e : (Op.equalIn 10000 26 (.agg #[.int .i64 x.d, .int .i64 x.id, .bool x.nw]) (.agg #[.int .i64 y.d, .int .i64 y.id, .bool y.nw])).run Try.prog w = .ok (decide (x = y)) w := by
    rw [run_equalIn_agg w 9999 _ _ _ (by kernel_rfl) (by kernel_rfl)]
    obtain ⟨d, id, nw⟩ := x
    obtain ⟨d2, id2, nw2⟩ := y
    by_cases h1 : d = d2
    · by_cases h2 : id = id2
      · by_cases h3 : nw = nw2 <;> simp [go_sem, h1, h2, h3]
      · simp [go_sem, h1, h2]
    · simp [go_sem, h1]
  rw [run_neq_struct, e]
  simp
theorem rsame12_none (a b : Option Addr) (c d : Nat) (w : World) :
    Calls Try.prog 12 #[.slice a 0 c, .slice b 0 d] w fun e w' => e = .returned (.bool true) ∧ Gr w w' := by
  go_enter Try.func12, Try.ntmps12
  go_wp2_with fail
  go_rounds 1
  go_ret
  exact ⟨rfl, Gr.refl _⟩
def SaAt (n : Nat) (w : World) (i : Value) (wr : World) : Prop := ∃ j : Nat, j ≤ n ∧ i = .int .i64 j ∧ Below w.heap.size w wr
set_option maxHeartbeats 2000000 in
theorem rsame12_some (b1 b2 o1 o2 n c d : Nat) (l : List Nr) (hL : l.length = n) (hn : n ≤ 1000000) (w : World) (h1 : NrRow w b1 o1 l) (h2 : NrRow w b2 o2 l) :
    Calls Try.prog 12 #[.slice (some ⟨b1, o1, none⟩) n c, .slice (some ⟨b2, o2, none⟩) n d] w fun e w' => e = .returned (.bool true) ∧ Gr w w' := by
  go_enter Try.func12, Try.ntmps12
  go_wp2_with fail
  go_loopw [5] (fun i wr => SaAt n w i wr) (fun i _ => n - (intOf i).toNat)
  case atStart => exact ⟨0, Nat.zero_le _, rfl, Below.refl _ _⟩
  case round =>
    obtain ⟨j, hj, rfl, hbel⟩ := hrel
    by_cases hlt : j < n
    · obtain ⟨x, hx, _, _⟩ := take_onT (l := l) (j := j) (by omega)
      have k1 := h1.gr (Gr.of hbel)
      have k2 := h2.gr (Gr.of hbel)
      have SH := Lib.hid (fun u (gu : Gr wr u) => (⟨gu, (k1.gr gu).2 j x hx, (k2.gr gu).2 j x hx⟩ : Gr wr u ∧ (u.cell? ⟨b1, o1 + j * 3, none⟩ = some (.int .i64 x.d) ∧ u.cell? ⟨b1, o1 + j * 3 + 1, none⟩ = some (.int .i64 x.id) ∧ u.cell? ⟨b1, o1 + j * 3 + 2, none⟩ = some (.bool x.nw)) ∧ u.cell? ⟨b2, o2 + j * 3, none⟩ = some (.int .i64 x.d) ∧ u.cell? ⟨b2, o2 + j * 3 + 1, none⟩ = some (.int .i64 x.id) ∧ u.cell? ⟨b2, o2 + j * 3 + 2, none⟩ = some (.bool x.nw)))
      have gd : Gr wr wr.drew := Below.drew (Gr.refl wr)
      have hne := nr_neq x x
      rw [show decide (x ≠ x) = false by simp] at hne
      clear k1 k2 hx
      go_wp2_with fail
      refine text_region (S := fun u => Gr wr u ∧ (u.cell? ⟨b1, o1 + j * 3, none⟩ = some (.int .i64 x.d) ∧ u.cell? ⟨b1, o1 + j * 3 + 1, none⟩ = some (.int .i64 x.id) ∧ u.cell? ⟨b1, o1 + j * 3 + 2, none⟩ = some (.bool x.nw)) ∧ u.cell? ⟨b2, o2 + j * 3, none⟩ = some (.int .i64 x.d) ∧ u.cell? ⟨b2, o2 + j * 3 + 1, none⟩ = some (.int .i64 x.id) ∧ u.cell? ⟨b2, o2 + j * 3 + 2, none⟩ = some (.bool x.nw)) (by kernel_rfl) (by kernel_rfl) (by kernel_rfl) (SH.out _ gd) ?_
      repeat (first
        | (refine text_skip (by rfl) ?_; (try simp only [Act.put, List.setIfInBounds_toArray, List.set_cons_zero, List.set_cons_succ]))
        | (refine text_val (v := ?_) (by rfl) ?_ ?_; rotate_left 1; (· intro u hu; (try dsimp only at hu); go_simp <;> with_reducible rfl); (try simp only [Act.put, List.setIfInBounds_toArray, List.set_cons_zero, List.set_cons_succ])))
      refine text_done (fun u hu => ?_)
      have gu := hu.1
      clear hu
      go_wp2_with fail
      refine ⟨⟨j + 1, by omega, rfl, Below.trans hbel (gu.mono hbel.size)⟩, ?_⟩
      simp [intOf]; omega
    · obtain rfl : j = n := by omega
      go_wp2_with fail
      go_ret
      exact ⟨rfl, Gr.of hbel⟩
theorem rsame12_c {w : World} {v1 v2 : Value} {l : List Nr} (hn : l.length ≤ 1000000) (h1 : LiesN w v1 l) (h2 : LiesN w v2 l) :
    Calls Try.prog 12 #[v1, v2] w fun e w' => e = .returned (.bool true) ∧ Gr w w' := by
  obtain ⟨a1, c1, rfl, _, h1⟩ := h1
  obtain ⟨a2, c2, rfl, _, h2⟩ := h2
  rcases h1 with rfl | ⟨b1, o1, rfl, r1⟩
  · exact rsame12_none _ _ _ _ w
  · rcases h2 with rfl | ⟨b2, o2, rfl, r2⟩
    · exact rsame12_none _ _ _ _ w
    · exact rsame12_some b1 b2 o1 o2 l.length c1 c2 l rfl hn w r1 r2
end Go.Proofs.Ytllfecgaadfkoaa
