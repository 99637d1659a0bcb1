/- For the laws of layer 23: plain facts, arguments. -/
import Derived.Test.YtipfdildnnfmkaaCeRef3
import Derived.Test.YtipfdildnnfmkaaArgs
namespace Go.Proofs.Ytipfdildnnfmkaa
open Go.RowKit Go.ChangeShapes Go.WideShapes Go.Deep DiPlain NumPlain CePlain
set_option linter.unusedVariables false
set_option linter.unusedSimpArgs false
set_option maxRecDepth 20000
theorem place_in {w : World} {v : Value} (h : RdAgg Try.prog w 24 v) : ∃ x y : Int, v = .agg #[.int .i64 x, .int .i64 y] ∧ I64 x ∧ I64 y := by
  obtain ⟨fs, cs, hu, rfl, hsz, hf⟩ := h
  rw [Try.underlying24] at hu
  simp only [Option.some.injEq, TypeDesc.struct.injEq] at hu
  subst hu
  obtain ⟨l⟩ := cs
  match l, hsz with
  | [c0, c1], _ =>
    obtain ⟨d0, e0, r0⟩ := hf 0 _ rfl
    obtain ⟨d1, e1, r1⟩ := hf 1 _ rfl
    simp at e0 e1
    subst e0 e1
    obtain ⟨n, rfl, hn⟩ := rd_int Try.underlying3 r0
    obtain ⟨k, rfl, hk⟩ := rd_int Try.underlying3 r1
    exact ⟨n, k, rfl, bounds_i64 hn, bounds_i64 hk⟩
namespace CePlain
theorem floorF_small {x w : Int} (hx : -16777215 ≤ x ∧ x ≤ 16777215) (hw : 1 ≤ w) : -16777215 ≤ floorF x w ∧ floorF x w ≤ 16777215 := by
  rw [floorF_pos hw]
  constructor
  · rw [Int.le_ediv_iff_mul_le (by omega)]
    omega
  · by_cases h : 0 ≤ x
    · exact Int.le_trans (Int.ediv_le_self _ h) hx.2
    · have : x / w < 0 := Int.ediv_neg_of_neg_of_pos (by omega) (by omega)
      omega
theorem of_small {l : List Int} {w : Int} : (-16777215 ≤ ofX l w ∧ ofX l w ≤ 16777215) ∧ (-16777215 ≤ ofY l w ∧ ofY l w ≤ 16777215) := by
  have key : ∀ j, ofB l w = true → j < l.length → -16777215 ≤ floorF (l.getD j 0) w ∧ floorF (l.getD j 0) w ≤ 16777215 := by
    intro j h hj
    unfold ofB wideB at h
    rw [Bool.and_eq_true, decide_eq_true_iff] at h
    obtain ⟨_, hfit⟩ := rightV_parts h.1
    refine floorF_small ?_ h.2.1
    rw [List.getD_eq_getElem?_getD, List.getElem?_eq_getElem hj]
    exact hfit _ (List.getElem_mem hj)
  constructor
  · unfold ofX
    split
    · next h =>
      have h1 := h
      unfold ofB at h1
      rw [Bool.and_eq_true] at h1
      exact key 0 h (by have := (rightV_parts h1.1).1; omega)
    · omega
  · unfold ofY
    split
    · next h => exact key 1 h.1 h.2
    · omega
theorem fits_far {a b : List Int} {w : Int} (ha : rightV a = true) (hb : rightV b = true) (hl : a.length ≤ 30) (h1 : 1 ≤ w) (h2 : w ≤ 2147483648) : fitsB (far a b) w = decide (far a b ≤ w * w) ∧ 0 ≤ far a b ∧ far a b ≤ 4611686018427387904 := by
  have h0 := far_nonneg a b
  have hm := far_le (rightV_parts ha).2 (rightV_parts hb).2
  have hf : far a b ≤ 4611686018427387904 := by omega
  refine ⟨?_, h0, hf⟩
  unfold fitsB wideB
  rw [decide_eq_true (show 1 ≤ w ∧ w ≤ 2147483648 from ⟨h1, h2⟩), Bool.true_and]
  by_cases h : far a b ≤ w * w
  · rw [decide_eq_true h, decide_eq_true (show (0 ≤ far a b ∧ far a b ≤ 4611686018427387904) ∧ far a b ≤ w * w from ⟨⟨h0, hf⟩, h⟩)]
  · rw [decide_eq_false h, decide_eq_false (fun k => h k.2)]
end CePlain
end Go.Proofs.Ytipfdildnnfmkaa
