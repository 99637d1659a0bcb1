/- Rows.RecfileTurnedSaid holds: for every input the law returns true and leaves its arguments as they were. Conditions: none beside the row's own. -/
import Derived.Test.YtckgdnaocmefjaaRows
import Derived.WalkKit
import Derived.ProofKit
import Derived.OpenShut
import Derived.ShutString
import Derived.ChangeOld
import Derived.Below
import Derived.Test.YtckgdnaocmefjaaArgs
import Derived.Test.YtckgdnaocmefjaaRecCut
namespace Go.Proofs.Ytckgdnaocmefjaa.recfileTurned
open Go.ChangeShapes Go.WideShapes Go.ChangeAt Go.RowKit
open Go.ChangeMaps (open_string shut_string)
open CrcPlain OctPlain FramePlain RecPlain
set_option linter.unusedVariables false
set_option linter.unusedSimpArgs false

theorem own : ownKnob Try.prog.godebug = none := by kernel_rfl
theorem laidOut : laidOutB Try.prog = true := by kernel_rfl


set_option maxRecDepth 100000 in
set_option maxHeartbeats 1500000 in
theorem walk (v0 v1 v2 v3 : Value) (w : World) (w0 : Rd Try.prog w 3 v0) (w1 : Rd Try.prog w 22 v1) (w2 : Rd Try.prog w 40 v2) (w3 : Rd Try.prog w 27 v3) :
    Calls Try.prog 5 #[v0, v1, v2, v3] w fun e w' => e = .returned (.bool true) ∧ Gr w w' := by
  obtain ⟨size, rfl, hw0⟩ := rd_int Try.underlying3 w0
  have hk : I64 size := bounds_i64 hw0
  obtain ⟨l, hl, hlm, hls⟩ := lies_in Try.underlying22 w1
  obtain ⟨at_, rfl, hw2⟩ := rd_int Try.underlying40 w2
  obtain ⟨bits_, rfl, hw3⟩ := rd_int Try.underlying27 w3
  have b2 := bounds_u16 hw2
  have b3 := bounds_u32 hw3
  obtain ⟨p, rfl⟩ : ∃ p : Nat, at_ = p := ⟨at_.toNat, by omega⟩
  obtain ⟨q, rfl⟩ : ∃ q : Nat, bits_ = q := ⟨bits_.toNat, by omega⟩
  clear w0 w1 w2 w3 hw0 hw2 hw3 hls
  unfold maxLen at hlm
  have F := few6_c hl 4 (by omega) (by omega)
  have HL := Lib.hid (fun u (g : Gr w u) => hl.gr g)
  obtain ⟨la, lc, rfl, -, -⟩ := hl
  have awk : ∀ u, Calls Try.prog 7 #[] u fun e w' => e = .returned (.bool true) ∧ Gr u w' := fun u => awake6_c u
  cases hf : few6 l 4
  · rw [hf] at F
    clear hf
    go_enter Try.func5, Try.ntmps5
    go_wp2_with fail
    refine F.mono ?_; rintro e u ⟨rfl, rfl⟩
    go_wp2_with fail
    refine (awk _).mono ?_; rintro e u7 ⟨rfl, g7⟩
    go_wp2_with fail
    go_ret
    exact ⟨rfl, g7⟩
  · obtain ⟨hl4, hl80⟩ := few6_yes hf
    rw [hf] at F
    by_cases hl0 : l.length = 0
    · have t1 : ((l.length : Int) == 0) = true := by rw [hl0]; rfl
      rw [hl0] at F HL t1 ⊢
      clear hf hl4 hl80 hl0 hlm
      go_enter Try.func5, Try.ntmps5
      go_wp2_with fail
      refine F.mono ?_; rintro e u ⟨rfl, rfl⟩
      go_wp2_with fail
      refine (awk _).mono ?_; rintro e u7 ⟨rfl, g7⟩
      go_wp2_with fail
      go_ret
      exact ⟨rfl, g7⟩
    · have P := lay_c (HL.out w (Gr.refl _)) size hk (by omega) (fun s hs => by have := hl80 s hs; omega)
      have t1 : ((l.length : Int) == 0) = false := by rw [beq_eq_false_iff_ne]; omega
      cases hB : layB size l
      · rw [hB, layR_no hB] at P
        clear hf hl4 hl80 hB hl0 hlm
        go_enter Try.func5, Try.ntmps5
        go_wp2_with fail
        refine F.mono ?_; rintro e u ⟨rfl, rfl⟩
        go_wp2_with fail
        refine P.mono ?_; rintro e u1 ⟨rfl, g1⟩
        go_wp2_with fail
        refine (awk _).mono ?_; rintro e u7 ⟨rfl, g7⟩
        go_wp2_with fail
        go_ret
        exact ⟨rfl, g1.trans g7⟩
      · have hF := lay_file hB
        have hz := lay_size hB
        have hL := layR_yes hB
        rw [hB] at P
        have hs1 := hB
        unfold layB at hs1
        rw [Bool.and_eq_true] at hs1
        have hs2 := hs1.1
        simp only [sizeB, decide_eq_true_eq] at hs2
        have hmul := mul_le (show (0 : Int) ≤ l.length by omega) (show (l.length : Int) ≤ 4 by omega) (show 0 ≤ size by omega) hs2.2
        obtain ⟨M, hM⟩ : ∃ M : Nat, (l.length : Int) * size = M := ⟨((l.length : Int) * size).toNat, by omega⟩
        have hq : ((l.length : Int) + 3) / 4 = 1 := by omega
        rw [hM] at hmul hz
        rw [hq] at hz
        obtain ⟨s, hs⟩ : ∃ s, s = layR size l := ⟨_, rfl⟩
        rw [← hs] at P hF hz
        have hsz : s.size = 33 + M := by omega
        obtain ⟨kk, hkk, hk2⟩ : ∃ kk : Nat, (p : Int) % (8 * (12 + (M : Int) + 4) - 96) = (kk : Int) ∧ kk < 8 * M + 32 := ⟨p % (8 * M + 32), by rw [Int.natCast_emod]; congr 1; omega, Nat.mod_lt _ (by omega)⟩
        have m1 : (M : Int) ≤ 256 := by omega
        have HZ := Lib.hid hsz
        have z1 : (s.size : Int) = 33 + (M : Int) := by omega
        have k1 : (kk : Int) < 8 * (M : Int) + 32 := by omega
        obtain ⟨D, hD⟩ : ∃ D, D = 8 * M + 32 - kk := ⟨_, rfl⟩
        have hD1 : 8 + kk + D = 8 * (5 + M) := by omega
        have hn4 : 1 ≤ l.length ∧ l.length ≤ 4 := by omega
        have hdata : s.data.toList = layL size l := hF.2
        have GO : ∀ (l' : List UInt8) (v : Nat), Turn s.data.toList l' (96 + kk) v → v < 4294967296 → v < 2 ^ D → v ≠ 0 → ∀ X, ¬ IsFile size (bs l') X := by
          intro l' v ht hv hvD h0 X
          refine turned_none hB hn4 (by rw [← hdata]; exact ht) (by omega) hv h0 (fun n hn => ?_) X
          have hnM : n = 5 + M := by omega
          rw [show 96 + kk - 88 = 8 + kk by omega, hnM, ← hD1, Nat.pow_add 2 (8 + kk) D]
          exact Nat.mul_lt_mul_of_pos_left hvD (Nat.pow_pos (show 0 < 2 by decide))
        have GS : ∀ (l' : List UInt8) (v : Nat), Turn s.data.toList l' (96 + kk) v → (bs l').size ≤ 100000 := by
          intro l' v ht
          rw [bs_size, ht.1, data_length]; omega
        have HGO := Lib.hid GO
        have HGS := Lib.hid GS
        have HFF := Lib.hid hF
        obtain ⟨e, he⟩ : ∃ e, e = min 31 D := ⟨_, rfl⟩
        have hmm : min (31 : Int) (max 0 (8 * (12 + (M : Int) + 4) - (96 + (kk : Int)))) = (e : Int) := by omega
        have he31 : e ≤ 31 := by omega
        obtain ⟨c, hc⟩ : ∃ c : Nat, c = 2 ^ e := ⟨_, rfl⟩
        have hc1 : 1 ≤ c ∧ c ≤ 2147483648 := by
          rw [hc]
          exact ⟨Nat.pow_pos (by decide), Nat.le_trans (Nat.pow_le_pow_right (by decide) he31) (by decide)⟩
        have hpw : (2 : Int) ^ e = (c : Int) := by rw [hc]; exact (Int.natCast_pow 2 e).symm
        have hsh : IntKind.u32.wrap ((2 : Int) ^ e) = (c : Int) := by rw [hpw, IntKind.wrap_u32']; omega
        have hc2 : 1 ≤ (c : Int) ∧ (c : Int) ≤ 2147483648 := by omega
        have hcc : ((c - 1 : Nat) : Int) = (c : Int) - 1 := by omega
        have ha1 := u32_and_nat q (c - 1) (by omega) (by omega)
        rw [hcc] at ha1
        have hq2 : q &&& 4294967295 = q := by
          have := Nat.and_two_pow_sub_one_eq_mod q 32
          rw [show (2 : Nat) ^ 32 - 1 = 4294967295 by decide] at this
          rw [this]; exact Nat.mod_eq_of_lt (by omega)
        have ha2 : bits .and .u32 (q : Int) 4294967295 = (q : Int) := by
          have := u32_and_nat q 4294967295 (by omega) (by omega)
          rw [hq2] at this
          exact this
        have hble := Nat.and_le_right (n := q) (m := c - 1)
        obtain ⟨b, hb⟩ : ∃ b, b = q &&& (c - 1) := ⟨_, rfl⟩
        rw [← hb] at ha1 hble
        have efirst : ((96 + kk : Nat) : Int) = 96 + (kk : Int) := by omega
        by_cases hd32 : 32 ≤ D
        · have TC := fun u => turned_in_c s (96 + kk) q (by omega) (by omega) (by omega) u
          rw [efirst] at TC
          have hvD := Lib.hid (show ∀ v : Nat, v < 4294967296 → v < 2 ^ D from fun v hv => Nat.lt_of_lt_of_le hv (Nat.le_trans (by decide : 4294967296 ≤ 2 ^ 32) (Nat.pow_le_pow_right (by decide) hd32)))
          have g32 : 32 ≤ 8 * (12 + (M : Int) + 4) - (96 + (kk : Int)) := by omega
          clear hf hl80 hB hl0 hlm hz hs1 hq hmul hsz hk2 hs hD hD1 hn4 hdata GO GS hF he hc he31 hcc hq2 hble hb efirst hd32 hL hl4
          go_enter Try.func5, Try.ntmps5
          go_wp2_with fail
          refine F.mono ?_; rintro e u ⟨rfl, rfl⟩
          go_wp2_with fail
          refine P.mono ?_; rintro e u1 ⟨rfl, g1⟩
          go_wp2_with fail
          refine (TC _).mono ?_; rintro e2 u2 ⟨l', v, cb, hvb, hv, ht, hcb, rfl, g2⟩
          by_cases h0 : v = 0
          · obtain rfl : cb = false := by rw [hcb]; simp [h0]
            have hsame : bs l' = s := by rw [h0] at ht; rw [ht.zero, bs_toList]
            have PF := fun u => parse_file hk (by have := HGS.out l' v ht; rw [hsame] at this; exact this) HFF.out u
            rw [hsame]
            clear hcb hvb hv ht h0 hsame
            go_wp2_with fail
            refine (PF _).mono ?_; rintro e3 u3 ⟨v3, rfl, _, g3⟩
            go_wp2_with fail
            refine (awk _).mono ?_; rintro e4 u7 ⟨rfl, g7⟩
            go_wp2_with fail
            go_ret
            exact ⟨rfl, (((g1.trans g2).trans g3).trans (gral _ _)).trans g7⟩
          · have hno := HGO.out l' v ht hv (hvD.out v hv) h0
            obtain rfl : cb = true := by rw [hcb]; simp [h0]
            have PN := fun u => parse_none hk (HGS.out l' v ht) hno u
            clear hcb hvb hv ht h0 hno
            go_wp2_with fail
            refine (PN _).mono ?_; rintro e3 u3 ⟨rfl, g3⟩
            go_wp2_with fail
            refine (awk _).mono ?_; rintro e4 u7 ⟨rfl, g7⟩
            go_wp2_with fail
            go_ret
            exact ⟨rfl, (((g1.trans g2).trans g3).trans (gral _ _)).trans g7⟩
        · have TC := fun u => turned_in_c s (96 + kk) b (by omega) (by omega) (by omega) u
          rw [efirst] at TC
          have hvD := Lib.hid (show ∀ v : Nat, v ≤ b → v < 2 ^ D from fun v hv => by
            have : e = D := by omega
            rw [← this, ← hc]; omega)
          have g32 : ¬ 32 ≤ 8 * (12 + (M : Int) + 4) - (96 + (kk : Int)) := by omega
          clear hf hl80 hB hl0 hlm hz hs1 hq hmul hsz hk2 hs hD hD1 hn4 hdata GO GS hF he hc he31 hcc hq2 hble hb efirst hd32 hL hl4
          go_enter Try.func5, Try.ntmps5
          go_wp2_with fail
          refine F.mono ?_; rintro e u ⟨rfl, rfl⟩
          go_wp2_with fail
          refine P.mono ?_; rintro e u1 ⟨rfl, g1⟩
          go_wp2_with fail
          refine (TC _).mono ?_; rintro e2 u2 ⟨l', v, cb, hvb, hv, ht, hcb, rfl, g2⟩
          by_cases h0 : v = 0
          · obtain rfl : cb = false := by rw [hcb]; simp [h0]
            have hsame : bs l' = s := by rw [h0] at ht; rw [ht.zero, bs_toList]
            have PF := fun u => parse_file hk (by have := HGS.out l' v ht; rw [hsame] at this; exact this) HFF.out u
            rw [hsame]
            clear hcb hvb hv ht h0 hsame
            go_wp2_with fail
            refine (PF _).mono ?_; rintro e3 u3 ⟨v3, rfl, _, g3⟩
            go_wp2_with fail
            refine (awk _).mono ?_; rintro e4 u7 ⟨rfl, g7⟩
            go_wp2_with fail
            go_ret
            exact ⟨rfl, (((g1.trans g2).trans g3).trans (gral _ _)).trans g7⟩
          · have hno := HGO.out l' v ht hv (hvD.out v hvb) h0
            obtain rfl : cb = true := by rw [hcb]; simp [h0]
            have PN := fun u => parse_none hk (HGS.out l' v ht) hno u
            clear hcb hvb hv ht h0 hno
            go_wp2_with fail
            refine (PN _).mono ?_; rintro e3 u3 ⟨rfl, g3⟩
            go_wp2_with fail
            refine (awk _).mono ?_; rintro e4 u7 ⟨rfl, g7⟩
            go_wp2_with fail
            go_ret
            exact ⟨rfl, (((g1.trans g2).trans g3).trans (gral _ _)).trans g7⟩

set_option maxRecDepth 100000 in
theorem lifted (os : Os) (started : os.Started) (H : Type) (enc : TypeId × Value → H) :
    ReturnsInHanded {} Try.checked os 5 .any (Rows.recfileTurnedSpec.pre6 enc Try.prog Try.f5 Rows.recfileTurnedRow.domain false) (Rows.recfileTurnedSpec.post enc Try.prog Try.f5 false true false false) := by
  refine returnsInHanded_of_change (C := Try.checked) own started (by kernel_rfl) Try.func5
    (ChangeSpec.witness6 (enc := enc) (C := Try.checked) false ⟨#[], #[.int .i64 0, .slice none 0 0, .int .u16 0, .int .u32 0], []⟩ 8 (by kernel_rfl) (by kernel_rfl) (by kernel_rfl) (by kernel_rfl)) ?_
  intro W base args ds gs before hval0 hW hcnd _
  have hval : ∀ (j : Nat) t v, Try.f5.params[j]? = some t → args[j]? = some v → Value.okWide Try.prog W .any base t v := hval0
  have hW' := hW
  obtain ⟨p, q, hA0, hV, rfl, hfz, hnd⟩ := hW
  have hA : DataW.TrodAll enc Try.prog W 0 (fun _ => true) true Try.f5.params.toList args.toList ds p := hA0
  rw [Try.params5] at hA hval
  obtain ⟨v0, vs0, d0, ds0, p0, q0, hargs, rfl, rfl, h0, r0⟩ := trodAll_cons hA
  obtain ⟨v1, vs1, d1, ds1, p1, q1, rfl, rfl, rfl, h1, r1⟩ := trodAll_cons r0
  obtain ⟨v2, vs2, d2, ds2, p2, q2, rfl, rfl, rfl, h2, r2⟩ := trodAll_cons r1
  obtain ⟨v3, vs3, d3, ds3, p3, q3, rfl, rfl, rfl, h3, r3⟩ := trodAll_cons r2
  obtain ⟨rfl, rfl, rfl⟩ := trodAll_nil r3
  obtain rfl : args = #[v0, v1, v2, v3] := by cases args; simp_all
  obtain ⟨rfl, rfl⟩ := trodVars_none hV
  have k0 := h0
  have lt0 : ∀ x ∈ p0, x.block < W.heap.size := by obtain ⟨m, hm⟩ := k0; exact DataW.trod_lt m _ _ _ hm
  obtain ⟨n0, e0⟩ := okWide_int Try.underlying3 (hval 0 3 v0 rfl rfl)
  have w0 : Rd Try.prog W 3 v0 := by
    obtain ⟨fuel, hf⟩ := h0
    subst e0
    exact ⟨H, enc, fuel, _, by simpa [Value.cells] using hf⟩
  have k1 := h1
  have lt1 : ∀ x ∈ p1, x.block < W.heap.size := by obtain ⟨m, hm⟩ := k1; exact DataW.trod_lt m _ _ _ hm
  obtain ⟨a1, l1, c1, e1⟩ := okWide_slice Try.underlying22 (hval 1 22 v1 rfl rfl)
  have w1 : Rd Try.prog W 22 v1 := by
    obtain ⟨fuel, hf⟩ := h1
    subst e1
    exact ⟨H, enc, fuel, _, by simpa [Value.cells] using hf⟩
  have k2 := h2
  have lt2 : ∀ x ∈ p2, x.block < W.heap.size := by obtain ⟨m, hm⟩ := k2; exact DataW.trod_lt m _ _ _ hm
  obtain ⟨n2, e2⟩ := okWide_int Try.underlying40 (hval 2 40 v2 rfl rfl)
  have w2 : Rd Try.prog W 40 v2 := by
    obtain ⟨fuel, hf⟩ := h2
    subst e2
    exact ⟨H, enc, fuel, _, by simpa [Value.cells] using hf⟩
  have k3 := h3
  have lt3 : ∀ x ∈ p3, x.block < W.heap.size := by obtain ⟨m, hm⟩ := k3; exact DataW.trod_lt m _ _ _ hm
  obtain ⟨n3, e3⟩ := okWide_int Try.underlying27 (hval 3 27 v3 rfl rfl)
  have w3 : Rd Try.prog W 27 v3 := by
    obtain ⟨fuel, hf⟩ := h3
    subst e3
    exact ⟨H, enc, fuel, _, by simpa [Value.cells] using hf⟩
  clear hA0 hval0
  refine (walk v0 v1 v2 v3 W w0 w1 w2 w3).mono fun e W' ⟨he, bel⟩ => ?_
  subst he
  exact ⟨_, rfl, _, _, _, [], _, [], hW', trodAll_mk1 (shut_bool Try.underlying4 _), (trodAll_cons_mk (Below.trod laidOut (by kernel_rfl) (of_decide_eq_true (by kernel_rfl)) k0 bel lt0) (trodAll_cons_mk (Below.trod laidOut (by kernel_rfl) (of_decide_eq_true (by kernel_rfl)) k1 bel lt1) (trodAll_cons_mk (Below.trod laidOut (by kernel_rfl) (of_decide_eq_true (by kernel_rfl)) k2 bel lt2) (trodAll_cons_mk (Below.trod laidOut (by kernel_rfl) (of_decide_eq_true (by kernel_rfl)) k3 bel lt3) trodAll_mk0)))), rfl, bel.frame _, fun h => by cases h⟩

theorem over : Rows.recfileTurnedRow.holds Try.pinned (OpenSpec.ofChange Rows.recfileTurnedSpec) :=
  OpenClaim.holds_of_wide 5 Try.f5 rfl rfl rfl rfl rfl rfl rfl ⟨rfl, rfl, rfl, rfl, rfl⟩ rfl rfl rfl rfl rfl (by kernel_rfl) Try.func5 (by kernel_rfl)
    (of_decide_eq_true (by kernel_rfl)) (by unfold Func.isWrapper; first | (rw [if_pos (by decide +kernel)]; kernel_rfl) | (rw [if_neg (by decide +kernel)]; exact ⟨rfl, rfl⟩))
    (fun os started H enc _ => lifted os started H enc)

theorem proved : Rows.RecfileTurnedSaid := over
#print axioms proved
end Go.Proofs.Ytckgdnaocmefjaa.recfileTurned
