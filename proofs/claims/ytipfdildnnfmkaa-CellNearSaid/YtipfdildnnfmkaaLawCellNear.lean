/- Rows.CellNearSaid holds: for every input the law returns true and leaves its arguments as they were. Conditions: none beside the row's own. -/
import Derived.Test.YtipfdildnnfmkaaRows
import Derived.WalkKit
import Derived.ProofKit
import Derived.OpenShut
import Derived.ShutString
import Derived.ChangeOld
import Derived.Below
import Derived.Test.YtipfdildnnfmkaaArgs
import Derived.Test.YtipfdildnnfmkaaCeAwake
import Derived.Test.YtipfdildnnfmkaaCeLaw
namespace Go.Proofs.Ytipfdildnnfmkaa.cellNear
open Go.ChangeShapes Go.WideShapes Go.ChangeAt Go.RowKit
open Go.ChangeMaps (open_string shut_string)
open DiPlain NumPlain CePlain
set_option linter.unusedVariables false
set_option linter.unusedSimpArgs false

theorem own : ownKnob Try.prog.godebug = none := by kernel_rfl
theorem laidOut : laidOutB Try.prog = true := by kernel_rfl


set_option maxRecDepth 100000 in
set_option maxHeartbeats 8000000 in
theorem walk (v0 v1 v2 : Value) (w : World) (w0 : Rd Try.prog w 22 v0) (w1 : Rd Try.prog w 22 v1) (w2 : Rd Try.prog w 3 v2) :
    Calls Try.prog 6 #[v0, v1, v2] w fun e w' => e = .returned (.bool true) ∧ Gr w w' := by
  obtain ⟨a, ha, ham, _⟩ := liesI_in Try.underlying22 w0
  obtain ⟨b, hb, hbm, _⟩ := liesI_in Try.underlying22 w1
  obtain ⟨m, rfl, hm0⟩ := rd_int Try.underlying3 w2
  have hm := bounds_i64 hm0
  clear w0 w1 w2 hm0
  unfold maxLen at ham hbm
  have AW := Lib.hid (fun u => awake23_c u)
  have HA := Lib.hid (fun u (g : Gr w u) => ha.gr g)
  have HB := Lib.hid (fun u (g : Gr w u) => hb.gr g)
  obtain ⟨aa, ac, rfl, hac, -⟩ := id ha
  obtain ⟨ba, bc, rfl, hbc, -⟩ := id hb
  have early : (30 < a.length ∨ (¬ 30 < a.length ∧ ¬ a.length = b.length) ∨ (¬ 30 < a.length ∧ a.length = b.length ∧ rightV a = false) ∨ (¬ 30 < a.length ∧ a.length = b.length ∧ rightV a = true ∧ rightV b = false) ∨ (¬ 30 < a.length ∧ a.length = b.length ∧ rightV a = true ∧ rightV b = true ∧ m < 1) ∨ (¬ 30 < a.length ∧ a.length = b.length ∧ rightV a = true ∧ rightV b = true ∧ ¬ m < 1 ∧ 2147483648 < m)) → Calls Try.prog 6 #[.slice aa a.length ac, .slice ba b.length bc, .int .i64 m] w fun e w' => e = .returned (.bool true) ∧ Gr w w' := by
    intro hcase
    obtain ⟨n, hn⟩ : ∃ n, a.length = n := ⟨_, rfl⟩
    obtain ⟨k, hk⟩ : ∃ k, b.length = k := ⟨_, rfl⟩
    have RA := fun (h : a.length ≤ 4000) => rright11_c ha h
    have RB := fun (h : b.length ≤ 4000) => rright11_c hb h
    rw [hn] at RA
    rw [hk] at RB
    rw [hn, hk] at hcase ⊢
    clear ha hb HA HB hn hk ham hbm hac hbc
    rcases hcase with h1 | ⟨h1, h2⟩ | ⟨h1, h2, h3⟩ | ⟨h1, h2, h3, h4⟩ | ⟨h1, h2, h3, h4, h5⟩ | ⟨h1, h2, h3, h4, h5, h6⟩
    · have q1 : (30 : Int) < (n : Int) := by omega
      clear h1 RA RB
      go_enter Try.func6, Try.ntmps6
      go_wp2_with fail
      refine (AW.out w).mono ?_; rintro e u ⟨rfl, g⟩
      go_wp2_with fail
      go_ret
      exact ⟨rfl, g⟩
    · have q1 : ¬ (30 : Int) < (n : Int) := by omega
      have q2 : ((n : Int) == (k : Int)) = false := by simp; omega
      have q3 : ((n : Int) != (k : Int)) = true := by simp; omega
      have q4 : ¬ n = k := h2
      clear h1 h2 RA RB
      go_enter Try.func6, Try.ntmps6
      go_wp2_with fail
      refine (AW.out w).mono ?_; rintro e u ⟨rfl, g⟩
      go_wp2_with fail
      go_ret
      exact ⟨rfl, g⟩
    · have q1 : ¬ (30 : Int) < (n : Int) := by omega
      subst h2
      have R1 := RA (by omega)
      rw [h3] at R1
      clear h1 RA RB
      go_enter Try.func6, Try.ntmps6
      go_wp2_with fail
      refine R1.mono ?_; rintro e u ⟨rfl, rfl⟩
      go_wp2_with fail
      refine (AW.out w).mono ?_; rintro e u ⟨rfl, g⟩
      go_wp2_with fail
      go_ret
      exact ⟨rfl, g⟩
    · have q1 : ¬ (30 : Int) < (n : Int) := by omega
      subst h2
      have R1 := RA (by omega)
      have R2 := RB (by omega)
      rw [h3] at R1
      rw [h4] at R2
      clear h1 RA RB
      go_enter Try.func6, Try.ntmps6
      go_wp2_with fail
      refine R1.mono ?_; rintro e u ⟨rfl, rfl⟩
      go_wp2_with fail
      refine R2.mono ?_; rintro e u ⟨rfl, rfl⟩
      go_wp2_with fail
      refine (AW.out w).mono ?_; rintro e u ⟨rfl, g⟩
      go_wp2_with fail
      go_ret
      exact ⟨rfl, g⟩
    all_goals
      have q1 : ¬ (30 : Int) < (n : Int) := by omega
      subst h2
      have R1 := RA (by omega)
      have R2 := RB (by omega)
      rw [h3] at R1
      rw [h4] at R2
      clear h1 RA RB
      go_enter Try.func6, Try.ntmps6
      go_wp2_with fail
      refine R1.mono ?_; rintro e u ⟨rfl, rfl⟩
      go_wp2_with fail
      refine R2.mono ?_; rintro e u ⟨rfl, rfl⟩
      go_wp2_with fail
      refine (AW.out w).mono ?_; rintro e u ⟨rfl, g⟩
      go_wp2_with fail
      go_ret
      exact ⟨rfl, g⟩
  by_cases c1 : 30 < a.length
  · exact early (.inl c1)
  by_cases c2 : a.length = b.length
  rotate_left
  · exact early (.inr (.inl ⟨c1, c2⟩))
  cases c3 : rightV a with
  | false => exact early (.inr (.inr (.inl ⟨c1, c2, c3⟩)))
  | true =>
  cases c4 : rightV b with
  | false => exact early (.inr (.inr (.inr (.inl ⟨c1, c2, c3, c4⟩))))
  | true =>
  by_cases c5 : m < 1
  · exact early (.inr (.inr (.inr (.inr (.inl ⟨c1, c2, c3, c4, c5⟩)))))
  by_cases c6 : 2147483648 < m
  · exact early (.inr (.inr (.inr (.inr (.inr ⟨c1, c2, c3, c4, c5, c6⟩)))))
  clear early
  have R1 := Lib.hid (rright11_c ha (by omega))
  have R2 := Lib.hid (rright11_c hb (by omega))
  have SQ := Lib.hid (rsquare_c ha hb (by omega) (by omega))
  obtain ⟨hfb, hf0, hf1⟩ := fits_far c3 c4 (by omega) (show 1 ≤ m by omega) (show m ≤ 2147483648 by omega)
  have hsb := squareB_yes c3 c4 c2
  rw [squareN_yes hsb, squareE_yes hsb] at SQ
  have oa : ofB a m = true := by unfold ofB wideB; rw [c3, decide_eq_true (show 1 ≤ m ∧ m ≤ 2147483648 by omega)]; rfl
  have ob : ofB b m = true := by unfold ofB wideB; rw [c4, decide_eq_true (show 1 ≤ m ∧ m ≤ 2147483648 by omega)]; rfl
  have CN := Lib.hid (fun h : far a b ≤ m * m => cell_near oa ob c2 h)
  have OA := Lib.hid (fun u (g : Gr w u) => by
    have h := of23_c (HA.out u g) (by omega) m hm
    rw [oa] at h
    exact h)
  have OB := Lib.hid (fun u (g : Gr w u) => by
    have h := of23_c (HB.out u g) (by omega) m hm
    rw [ob] at h
    exact h)
  have FT := Lib.hid (fun u => fits23_c (far a b) m u)
  rw [hfb] at FT
  rw [c3] at R1
  rw [c4] at R2
  have hmm : 0 ≤ m * m ∧ m * m ≤ 2147483648 * 2147483648 := ⟨Int.mul_nonneg (by omega) (by omega), Int.mul_le_mul (by omega) (by omega) (by omega) (by omega)⟩
  have hw64 : wrap64 (m * m) = m * m := by unfold wrap64; omega
  have SA := of_small (l := a) (w := m)
  have SB := of_small (l := b) (w := m)
  have BS := Lib.hid (fun u => beside23_c (ofX a m) (ofY a m) (ofX b m) (ofY b m) (by unfold I64; omega) (by unfold I64; omega) (by unfold I64; omega) (by unfold I64; omega) u)
  obtain ⟨f, hf⟩ : ∃ f, far a b = f := ⟨_, rfl⟩
  obtain ⟨ax, hax⟩ : ∃ f, ofX a m = f := ⟨_, rfl⟩
  obtain ⟨ay, hay⟩ : ∃ f, ofY a m = f := ⟨_, rfl⟩
  obtain ⟨bx, hbx⟩ : ∃ f, ofX b m = f := ⟨_, rfl⟩
  obtain ⟨by', hby⟩ : ∃ f, ofY b m = f := ⟨_, rfl⟩
  rw [hf, hax, hay, hbx, hby] at CN
  rw [hf] at SQ FT
  rw [hax, hay] at OA
  rw [hbx, hby] at OB
  rw [hax, hay, hbx, hby] at BS
  obtain ⟨n, hn⟩ : ∃ n, a.length = n := ⟨_, rfl⟩
  have hn2 : b.length = n := by omega
  rw [hn] at R1 SQ OA
  rw [hn2] at R2 SQ OB
  rw [hn, hn2]
  have q1 : ¬ (30 : Int) < (n : Int) := by omega
  obtain ⟨x, hx⟩ : ∃ x, decide (ax = bx ∧ ay = by') = x := ⟨_, rfl⟩
  have IE := pl_eql ax ay bx by' x hx
  have HX := Lib.hid hx
  clear ha hb ham hbm hac hbc c1 c2 c3 c4 hfb hf0 hf1 hsb oa ob SA SB hf hax hay hbx hby hn hn2 HA HB hx hm
  by_cases hle : f ≤ m * m
  · rw [decide_eq_true hle] at FT
    have CN2 := Lib.hid (CN.out hle)
    clear hle CN hmm hw64
    go_enter Try.func6, Try.ntmps6
    go_wp2_with fail
    refine R1.out.mono ?_; rintro e u ⟨rfl, rfl⟩
    go_wp2_with fail
    refine R2.out.mono ?_; rintro e u ⟨rfl, rfl⟩
    go_wp2_with fail
    refine SQ.out.mono ?_; rintro e u1 ⟨rfl, g1⟩
    have G1 := Lib.hid g1
    clear g1
    go_wp2_with fail
    refine (FT.out u1).mono ?_; rintro e u2 ⟨rfl, rfl⟩
    have G2 := G1
    go_wp2_with fail
    refine (OA.out u1 G2.out).mono ?_; rintro e u3 ⟨rfl, g3⟩
    have y3 := heap_alloc_new u3 (.cells #[.int .i64 ax, .int .i64 ay] 24)
    have g3a := gr23 u3 (.cells #[.int .i64 ax, .int .i64 ay] 24)
    obtain ⟨V, hV⟩ : ∃ V, u3.alloc (.cells #[.int .i64 ax, .int .i64 ay] 24) = V := ⟨_, rfl⟩
    obtain ⟨z, hz⟩ : ∃ z, u3.heap.size = z := ⟨_, rfl⟩
    rw [hV] at y3 g3a
    rw [hz] at y3
    have G3 := Lib.hid ((G2.out.trans g3).trans g3a)
    have HV := Lib.hid hV
    have HZ := Lib.hid hz
    have KA := Lib.hid (fun u (g : Gr V u) => pl_cells ((Below.block g z (lt_block23 y3)).trans y3))
    clear g3 g3a y3 hV hz G2 G1
    go_wp2_with fail
    rw [HV.out]
    try rw [HZ.out]
    refine (OB.out V G3.out).mono ?_; rintro e u4 ⟨rfl, g4⟩
    have GX := Lib.hid (g4.trans (gr23 u4 (.cells #[.int .i64 bx, .int .i64 by'] 24)))
    have KA4 := KA.out _ GX.out
    obtain ⟨k0, k1, _, _⟩ := KA4
    have G4 := Lib.hid (G3.out.trans GX.out)
    clear g4 KA
    cases x with
    | true =>
      go_wp2_with fail
      refine (AW.out _).mono ?_; rintro e u9 ⟨rfl, g9⟩
      have G9 := Lib.hid (G4.out.trans g9)
      clear g9
      go_wp2_with fail
      go_ret
      exact ⟨rfl, G9.out⟩
    | false =>
      have hb2 : besideB ax ay bx by' = true := by
        rcases CN2.out with h | h
        · have := HX.out
          rw [decide_eq_true h] at this
          cases this
        · exact h
      rw [hb2] at BS
      clear hb2
      go_wp2_with fail
      refine (BS.out _).mono ?_; rintro e u5 ⟨rfl, g5⟩
      have G5 := Lib.hid (G4.out.trans g5)
      clear g5
      go_wp2_with fail
      refine (AW.out _).mono ?_; rintro e u9 ⟨rfl, g9⟩
      have G9 := Lib.hid (G5.out.trans g9)
      clear g9
      go_wp2_with fail
      go_ret
      exact ⟨rfl, G9.out⟩
  · rw [decide_eq_false hle] at FT
    have q2 : m * m < f := by omega
    clear hle CN hmm OA OB BS HX IE
    go_enter Try.func6, Try.ntmps6
    go_wp2_with fail
    refine R1.out.mono ?_; rintro e u ⟨rfl, rfl⟩
    go_wp2_with fail
    refine R2.out.mono ?_; rintro e u ⟨rfl, rfl⟩
    go_wp2_with fail
    refine SQ.out.mono ?_; rintro e u1 ⟨rfl, g1⟩
    have G1 := Lib.hid g1
    clear g1
    go_wp2_with fail
    refine (FT.out u1).mono ?_; rintro e u2 ⟨rfl, rfl⟩
    have G2 := G1
    go_wp2_with fail
    refine (AW.out _).mono ?_; rintro e u9 ⟨rfl, g9⟩
    have G9 := Lib.hid (G2.out.trans g9)
    clear g9
    go_wp2_with fail
    go_ret
    exact ⟨rfl, G9.out⟩

set_option maxRecDepth 100000 in
theorem lifted (os : Os) (started : os.Started) (H : Type) (enc : TypeId × Value → H) :
    ReturnsInHanded {} Try.checked os 6 .any (Rows.cellNearSpec.pre6 enc Try.prog Try.f6 Rows.cellNearRow.domain false) (Rows.cellNearSpec.post enc Try.prog Try.f6 false true false false) := by
  refine returnsInHanded_of_change (C := Try.checked) own started (by kernel_rfl) Try.func6
    (ChangeSpec.witness6 (enc := enc) (C := Try.checked) false ⟨#[], #[.slice none 0 0, .slice none 0 0, .int .i64 0], []⟩ 8 (by kernel_rfl) (by kernel_rfl) (by kernel_rfl) (by kernel_rfl)) ?_
  intro W base args ds gs before hval0 hW hcnd _
  have hval : ∀ (j : Nat) t v, Try.f6.params[j]? = some t → args[j]? = some v → Value.okWide Try.prog W .any base t v := hval0
  have hW' := hW
  obtain ⟨p, q, hA0, hV, rfl, hfz, hnd⟩ := hW
  have hA : DataW.TrodAll enc Try.prog W 0 (fun _ => true) true Try.f6.params.toList args.toList ds p := hA0
  rw [Try.params6] at hA hval
  obtain ⟨v0, vs0, d0, ds0, p0, q0, hargs, rfl, rfl, h0, r0⟩ := trodAll_cons hA
  obtain ⟨v1, vs1, d1, ds1, p1, q1, rfl, rfl, rfl, h1, r1⟩ := trodAll_cons r0
  obtain ⟨v2, vs2, d2, ds2, p2, q2, rfl, rfl, rfl, h2, r2⟩ := trodAll_cons r1
  obtain ⟨rfl, rfl, rfl⟩ := trodAll_nil r2
  obtain rfl : args = #[v0, v1, v2] := by cases args; simp_all
  obtain ⟨rfl, rfl⟩ := trodVars_none hV
  have k0 := h0
  have lt0 : ∀ x ∈ p0, x.block < W.heap.size := by obtain ⟨m, hm⟩ := k0; exact DataW.trod_lt m _ _ _ hm
  obtain ⟨a0, l0, c0, e0⟩ := okWide_slice Try.underlying22 (hval 0 22 v0 rfl rfl)
  have w0 : Rd Try.prog W 22 v0 := by
    obtain ⟨fuel, hf⟩ := h0
    subst e0
    exact ⟨H, enc, fuel, _, by simpa [Value.cells] using hf⟩
  have k1 := h1
  have lt1 : ∀ x ∈ p1, x.block < W.heap.size := by obtain ⟨m, hm⟩ := k1; exact DataW.trod_lt m _ _ _ hm
  obtain ⟨a1, l1, c1, e1⟩ := okWide_slice Try.underlying22 (hval 1 22 v1 rfl rfl)
  have w1 : Rd Try.prog W 22 v1 := by
    obtain ⟨fuel, hf⟩ := h1
    subst e1
    exact ⟨H, enc, fuel, _, by simpa [Value.cells] using hf⟩
  have k2 := h2
  have lt2 : ∀ x ∈ p2, x.block < W.heap.size := by obtain ⟨m, hm⟩ := k2; exact DataW.trod_lt m _ _ _ hm
  obtain ⟨n2, e2⟩ := okWide_int Try.underlying3 (hval 2 3 v2 rfl rfl)
  have w2 : Rd Try.prog W 3 v2 := by
    obtain ⟨fuel, hf⟩ := h2
    subst e2
    exact ⟨H, enc, fuel, _, by simpa [Value.cells] using hf⟩
  clear hA0 hval0
  refine (walk v0 v1 v2 W w0 w1 w2).mono fun e W' ⟨he, bel⟩ => ?_
  subst he
  exact ⟨_, rfl, _, _, _, [], _, [], hW', trodAll_mk1 (shut_bool Try.underlying4 _), (trodAll_cons_mk (Below.trod laidOut (by kernel_rfl) (of_decide_eq_true (by kernel_rfl)) k0 bel lt0) (trodAll_cons_mk (Below.trod laidOut (by kernel_rfl) (of_decide_eq_true (by kernel_rfl)) k1 bel lt1) (trodAll_cons_mk (Below.trod laidOut (by kernel_rfl) (of_decide_eq_true (by kernel_rfl)) k2 bel lt2) trodAll_mk0))), rfl, bel.frame _, fun h => by cases h⟩

theorem over : Rows.cellNearRow.holds Try.pinned (OpenSpec.ofChange Rows.cellNearSpec) :=
  OpenClaim.holds_of_wide 6 Try.f6 rfl rfl rfl rfl rfl rfl rfl ⟨rfl, rfl, rfl, rfl, rfl⟩ rfl rfl rfl rfl rfl (by kernel_rfl) Try.func6 (by kernel_rfl)
    (of_decide_eq_true (by kernel_rfl)) (by unfold Func.isWrapper; first | (rw [if_pos (by decide +kernel)]; kernel_rfl) | (rw [if_neg (by decide +kernel)]; exact ⟨rfl, rfl⟩))
    (fun os started H enc _ => lifted os started H enc)

theorem proved : Rows.CellNearSaid := over
#print axioms proved
end Go.Proofs.Ytipfdildnnfmkaa.cellNear
