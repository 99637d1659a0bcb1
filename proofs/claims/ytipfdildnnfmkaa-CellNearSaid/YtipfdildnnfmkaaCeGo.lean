/- The program's layer 23: which numbers lead, and Go. -/
import Derived.Test.YtipfdildnnfmkaaCeWay
namespace Go.Proofs.Ytipfdildnnfmkaa
open Go.RowKit DiPlain NumPlain CePlain Flt
set_option linter.unusedVariables false
set_option linter.unusedSimpArgs false
set_option maxRecDepth 20000
theorem way0 (w : World) : (Instr.index 33 waysV (.int .i64 0)).run Try.prog w = .ok (.complex .f64 4607182418800017408 0) w := by kernel_rfl
theorem way1 (w : World) : (Instr.index 33 waysV (.int .i64 1)).run Try.prog w = .ok (.complex .f64 13830554455654793216 4607182418800017408) w := by kernel_rfl
theorem way2 (w : World) : (Instr.index 33 waysV (.int .i64 2)).run Try.prog w = .ok (.complex .f64 0 4607182418800017408) w := by kernel_rfl
theorem way3 (w : World) : (Instr.index 33 waysV (.int .i64 3)).run Try.prog w = .ok (.complex .f64 4607182418800017408 4607182418800017408) w := by kernel_rfl
theorem leads23_of {a b : Nat} (p1 pm pz q1 qz : Bool) (hp : (p1 = true ∧ pm = false ∧ pz = false) ∨ (p1 = false ∧ pm = true ∧ pz = false) ∨ (p1 = false ∧ pm = false ∧ pz = true) ∨ (p1 = false ∧ pm = false ∧ pz = false))
    (hq : (q1 = true ∧ qz = false) ∨ (q1 = false ∧ qz = true) ∨ (q1 = false ∧ qz = false))
    (o1 : (FloatKind.f64.format.order a 4607182418800017408 == some Ordering.eq) = p1) (om : (FloatKind.f64.format.order a 13830554455654793216 == some Ordering.eq) = pm) (oz : (FloatKind.f64.format.order a 0 == some Ordering.eq) = pz)
    (e1 : (FloatKind.f64.format.order b 4607182418800017408 == some Ordering.eq) = q1) (ez : (FloatKind.f64.format.order b 0 == some Ordering.eq) = qz) (w : World) :
    Calls Try.prog 29 #[.complex .f64 a b] w fun e w' => e = .returned (.bool ((p1 && qz) || (pm && q1) || (pz && q1) || (p1 && q1) || (pz && qz))) ∧ Gr w w' := by
  have i0 := way0
  have i1 := way1
  have i2 := way2
  have i3 := way3
  have C := Lib.hid (ways23_c w)
  obtain ⟨V, hV⟩ : ∃ V, waysV = V := ⟨_, rfl⟩
  rw [hV] at i0 i1 i2 i3 C
  clear hV
  rcases hp with ⟨rfl, rfl, rfl⟩ | ⟨rfl, rfl, rfl⟩ | ⟨rfl, rfl, rfl⟩ | ⟨rfl, rfl, rfl⟩ <;> rcases hq with ⟨rfl, rfl⟩ | ⟨rfl, rfl⟩ | ⟨rfl, rfl⟩ <;>
  · go_enter Try.func29, Try.ntmps29
    go_wp2_with fail
    refine C.out.mono ?_; rintro e u ⟨rfl, g⟩
    go_wp2_with fail
    go_rounds 5
    go_wp2_with fail
    go_ret
    exact ⟨rfl, g⟩
theorem leads23_c {a b : Nat} {x y : Int} (ha : Rep a x) (hb : Rep b y) (w : World) :
    Calls Try.prog 29 #[.complex .f64 a b] w fun e w' => e = .returned (.bool (ledB x y)) ∧ Gr w w' := by
  have h := leads23_of (decide (x = 1)) (decide (x = -1)) (decide (x = 0)) (decide (y = 1)) (decide (y = 0)) ?_ ?_ (order_rep ha rep_one) (order_rep ha rep_neg) (order_rep ha rep_zero) (order_rep hb rep_one) (order_rep hb rep_zero) w
  · have e : ledB x y = ((decide (x = 1) && decide (y = 0)) || (decide (x = -1) && decide (y = 1)) || (decide (x = 0) && decide (y = 1)) || (decide (x = 1) && decide (y = 1)) || (decide (x = 0) && decide (y = 0))) := by
      unfold ledB
      rw [Bool.eq_iff_iff, decide_eq_true_iff]
      simp only [Bool.or_eq_true, Bool.and_eq_true, decide_eq_true_iff]
      omega
    rw [e]
    exact h
  · simp only [decide_eq_true_iff, decide_eq_false_iff_not]; omega
  · simp only [decide_eq_true_iff, decide_eq_false_iff_not]; omega
end Go.Proofs.Ytipfdildnnfmkaa
