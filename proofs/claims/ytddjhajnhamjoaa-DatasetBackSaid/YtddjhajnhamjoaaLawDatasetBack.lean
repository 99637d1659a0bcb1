/- Rows.DatasetBackSaid holds: for every input the law returns true and leaves its arguments as they were. Conditions: none beside the row's own. -/
import Derived.Test.YtddjhajnhamjoaaRows
import Derived.WalkKit
import Derived.ProofKit
import Derived.OpenShut
import Derived.ShutString
import Derived.ChangeOld
import Derived.Below
import Derived.Test.YtddjhajnhamjoaaArgs
import Derived.Test.YtddjhajnhamjoaaDsBack
namespace Go.Proofs.Ytddjhajnhamjoaa.datasetBack
open Go.ChangeShapes Go.WideShapes Go.ChangeAt Go.RowKit
open Go.ChangeMaps (open_string shut_string)
open OctPlain DsPlain
set_option linter.unusedVariables false
set_option linter.unusedSimpArgs false

theorem own : ownKnob Try.prog.godebug = none := by kernel_rfl
theorem laidOut : laidOutB Try.prog = true := by kernel_rfl


set_option maxRecDepth 100000 in
set_option maxHeartbeats 4000000 in
theorem walk (v0 v1 : Value) (w : World) (w0 : Rd Try.prog w 22 v0) (w1 : Rd Try.prog w 9 v1) :
    Calls Try.prog 4 #[v0, v1] w fun e w' => e = .returned (.bool true) ∧ Gr w w' := by
  obtain ⟨L, hL, hLm, hLi⟩ := liesII_in Try.underlying22 w0
  obtain ⟨s, rfl, hsm⟩ := rd_string Try.underlying9 w1
  unfold maxLen at hLm hsm
  clear w0 w1
  have HL := Lib.hid (fun u (g : Gr w u) => hL.gr g)
  have F := few10_c hL 20 20 (by omega) (by omega) (by omega)
  cases hf : few10 L 20 20
  · rw [hf] at F
    clear hf hLi hL
    go_enter Try.func4, Try.ntmps4
    go_wp2_with fail
    refine F.mono ?_; rintro e u ⟨rfl, rfl⟩
    go_wp2_with fail
    refine (awake10_c _).mono ?_; rintro e u7 ⟨rfl, g7⟩
    go_wp2_with fail
    go_ret
    exact ⟨rfl, g7⟩
  · rw [hf] at F
    by_cases hs : s.size ≤ 700
    · obtain ⟨hl20, hz20⟩ := few10_yes hf
      have hz1 : ∀ l ∈ L, l.length ≤ 1000 := fun l hl => by have := hz20 l hl; omega
      have hz2 : ∀ l ∈ L, l.length ≤ 1000000 := fun l hl => by have := hz20 l hl; omega
      have LA := Lib.hid (fun u (g : Gr w u) => lay10_c (HL.out u g) (by omega) hz1 hLi)
      have RG := Lib.hid (fun u (g : Gr w u) => right_c (HL.out u g) (by omega) hz1 hLi)
      have t700 : ¬ (700 : Int) < s.size := by omega
      obtain ⟨f1, f2⟩ := pL_few s (by omega)
      have LS0 : pB s = true → ∀ u v, LiesII u v (pL s) → Calls Try.prog 7 #[v] u fun e w' => e = .returned (.tuple #[.string s, .bool true]) ∧ Gr u w' := by
        intro hp u v hv
        have := lay10_c hv f1 f2 read_i64
        rwa [read_lay hp, read_right hp] at this
      have q1 : (s.toList == s.toList) = true := by simp
      obtain ⟨b8, hb8⟩ : ∃ b8, b8 = pB s := ⟨_, rfl⟩
      obtain ⟨P8, hP8⟩ : ∃ P8, P8 = pL s := ⟨_, rfl⟩
      have PA := Lib.hid (fun u => parse_c s (by omega) u)
      have hE : pE s = if b8 = true then 0 else 7 := by rw [hb8]; rfl
      have hN : b8 = false → P8 = [] := fun h => by rw [hP8, pL_no (by rw [← hb8]; exact h)]
      rw [hE, ← hP8] at PA
      rw [← hb8, ← hP8] at LS0
      have LS := Lib.hid LS0
      have HN8 := Lib.hid hN
      have HPL2 := Lib.hid hz2
      clear hf hLm hE hN hb8 hP8 LS0 f1 f2 hsm
      cases hR : right L
      · clear hz20 hz1 hz2 hl20 hLi hs hL
        rw [hR] at LA RG
        generalize layS L = t at LA
        clear hR
        cases b8
        all_goals
          go_enter Try.func4, Try.ntmps4
          go_wp2_with fail
          refine F.mono ?_; rintro e u ⟨rfl, rfl⟩
          go_wp2_with fail
          refine (LA.out _ (Gr.refl _)).mono ?_; rintro e u1 ⟨rfl, g1⟩
          go_wp2_with fail
          refine (RG.out _ g1).mono ?_; rintro e u2 ⟨rfl, g2⟩
          have GZ := Lib.hid (g1.trans g2)
        · have HN9 := HN8.out (by simp)
          subst HN9
          go_wp2_with fail
          refine (PA.out _).mono ?_; rintro e u8 ⟨v8, rfl, o8, g8⟩
          obtain ⟨a8, c8, rfl, _, _⟩ := liesII_at (ownII_lies o8)
          clear o8
          go_wp2_with fail
          refine (awake10_c _).mono ?_; rintro e u9 ⟨rfl, g9⟩
          go_wp2_with fail
          go_ret
          exact ⟨rfl, (GZ.out.trans g8).trans g9⟩
        · go_wp2_with fail
          refine (PA.out _).mono ?_; rintro e u8 ⟨v8, rfl, o8, g8⟩
          have O8 := Lib.hid (ownII_lies o8)
          clear o8
          go_wp2_with fail
          refine (LS.out (by simp) _ _ O8.out).mono ?_; rintro e u9 ⟨rfl, g9⟩
          go_wp2_with fail
          refine (awake10_c _).mono ?_; rintro e u10 ⟨rfl, g10⟩
          go_wp2_with fail
          go_ret
          exact ⟨rfl, ((GZ.out.trans g8).trans g9).trans g10⟩
      · have hR2 := hR
        rw [hR] at LA RG
        obtain ⟨hn1, hd1, hall⟩ := right_parts hR
        obtain ⟨hpB, hpL⟩ := lay_pB hR
        have hlen := lay_len hR
        have hl21 : L.length * (dimN L * 4) ≤ 20 * (20 * 4) := by
          obtain ⟨y0, hy0, _, hm0⟩ := take_on (l := L) (j := 0) (by omega)
          exact Nat.mul_le_mul hl20 (by rw [dim_of hy0]; have := hz20 y0 hm0; omega)
        have PT := Lib.hid (fun u => parse_c (layS L) (by omega) u)
        rw [pE_yes hpB, hpL] at PT
        have HV := Lib.hid (fun i y (hy : L[i]? = some y) => lay_vB hR2 hy)
        obtain ⟨a, c, rfl, hc, hh⟩ := liesII_at hL
        obtain ⟨b, off, rfl, hbl, hr⟩ := hh (by omega)
        obtain ⟨y0, hy0, _, hmem0⟩ := take_on (l := L) (j := 0) (by omega)
        obtain ⟨x0, hcx0, xa0, xc0, rfl, _, _⟩ := hr 0 y0 hy0
        have c00 : w.cell? ⟨b, off, none⟩ = some (.slice xa0 (dimN L) xc0) := by rw [dim_of hy0]; exact hcx0
        have HC := Lib.hid c00
        have HRR := Lib.hid hr
        have HAL := Lib.hid hall
        obtain ⟨n, hn⟩ : ∃ n, L.length = n := ⟨_, rfl⟩
        obtain ⟨d, hd⟩ : ∃ d, dimN L = d := ⟨_, rfl⟩
        obtain ⟨t, ht⟩ : ∃ t, layS L = t := ⟨_, rfl⟩
        have HNn := Lib.hid hn
        have HDd := Lib.hid hd
        have SAM := Lib.hid (fun (u : World) (v1 v2 : Value) (h1 : LiesII u v1 L) (h2 : LiesII u v2 L) => same10_c (by omega) hz2 h1 h2)
        rw [hn] at hc hn1 hlen hl21 hl20 HL LA RG F ⊢
        rw [hd] at hd1 hlen hl21 HC HV
        rw [ht] at hlen LA PT HV
        have d3 : 0 < n := by omega
        have d4 : (0 : Int) < (n : Int) := by omega
        have HLEN := Lib.hid hlen
        have hts : (t.size : Int) ≤ 2000 := by omega
        clear hR hR2 hpB hpL hall hcx0 hy0 hmem0 hr hh hz20 hz1 hz2 hLi hL hn hd ht hs hlen c00
        go_enter Try.func4, Try.ntmps4
        go_wp2_with fail
        refine F.mono ?_; rintro e u ⟨rfl, rfl⟩
        go_wp2_with fail
        refine (LA.out _ (Gr.refl _)).mono ?_; rintro e u1 ⟨rfl, g1⟩
        go_wp2_with fail
        refine (RG.out _ g1).mono ?_; rintro e u2 ⟨rfl, g2⟩
        go_wp2_with fail
        refine (PT.out _).mono ?_; rintro e u3 ⟨v3, rfl, o3, g3⟩
        have O3 := Lib.hid (ownII_lies o3)
        clear o3
        go_wp2_with fail
        refine (SAM.out _ _ _ O3.out (HL.out _ ((g1.trans g2).trans g3))).mono ?_; rintro e u4 ⟨rfl, g4⟩
        have gE : Gr w u4 := ((g1.trans g2).trans g3).trans g4
        have c0 : u4.cell? ⟨b, off, none⟩ = some (.slice xa0 d xc0) := by rw [Below.cell gE (p := ⟨b, off, none⟩) hbl]; exact HC.out
        go_wp2_with fail
        clear c0
        go_loopw [10] (fun i wr => LbAt n w i wr) (fun i _ => n - (intOf i).toNat)
        case atStart => exact ⟨0, Nat.zero_le _, rfl, gE⟩
        case round =>
          obtain ⟨j, hj, rfl, hbel⟩ := hrel
          by_cases hlt : j < n
          · obtain ⟨y, hy, _, hmem⟩ := take_on (l := L) (j := j) (by rw [HNn.out]; omega)
            obtain ⟨x, hcx, hli⟩ := HRR.out j y hy
            have c1 : wr.cell? ⟨b, off + j, none⟩ = some x := by rw [Below.cell hbel (p := ⟨b, off + j, none⟩) hbl]; exact hcx
            obtain ⟨v1, v2⟩ := HV.out j y hy
            have hroom : 10 + j * (d * 4) + d * 4 ≤ t.size := by
              rw [HLEN.out]
              have := Nat.mul_le_mul_right (d * 4) (show j + 1 ≤ n by omega)
              rw [Nat.add_mul, Nat.one_mul] at this; omega
            have PL := fun w => place_c (d : Int) (j : Int) (by unfold I64; omega) (by unfold I64; omega) w
            rw [pl_nat hd1 (by omega)] at PL
            have V := fun w => vector_c (piece t d j) (d : Int) (by unfold I64; omega) w
            rw [v1, v2] at V
            obtain ⟨a, ha⟩ : ∃ a, a = 10 + j * (d * 4) := ⟨_, rfl⟩
            rw [← ha] at hroom PL
            have hcr := cut_row t a d hroom
            have hpe : t.extract a (a + d * 4) = piece t d j := by rw [ha]; rfl
            rw [hpe] at hcr
            have ha10 : ¬ (a : Int) < 10 := by omega
            have ha1 : (a : Int) ≤ 2000 := by omega
            have hat : ¬ (t.size : Int) - 4 * (d : Int) < (a : Int) := by omega
            have hyl := (HAL.out y hmem).1
            rw [HDd.out] at hyl
            have SL := Lib.hid (fun (u : World) (v : Value) (h1 : LiesI u v y) (g : Gr wr u) => samel_c (by omega) h1 ((hli.gr (Gr.of hbel)).gr g))
            generalize piece t d j = p at V hcr
            have VV := Lib.hid V
            clear hy hmem hcx hli v1 v2 hpe ha V
            go_wp2_with fail
            refine (PL _).mono ?_; rintro e u5 ⟨rfl, rfl⟩
            go_wp2_with fail
            refine (VV.out _).mono ?_; rintro e u6 ⟨v6, rfl, o6, g6⟩
            have O6 := Lib.hid (liesI_own o6)
            clear o6
            have c2 : u6.cell? ⟨b, off + j, none⟩ = some x := cell_gr g6 c1
            clear c1
            go_wp2_with fail
            refine (SL.out _ _ O6.out g6).mono ?_; rintro e u7 ⟨rfl, g7⟩
            clear c2
            go_wp2_with fail
            refine ⟨⟨j + 1, by omega, rfl, Below.trans hbel ((g6.trans g7).mono hbel.size)⟩, ?_⟩
            simp [intOf]; omega
          · obtain rfl : j = n := by omega
            have GZ := Lib.hid (Gr.of hbel)
            cases b8
            · have HN9 := HN8.out (by simp)
              subst HN9
              go_wp2_with fail
              refine (PA.out _).mono ?_; rintro e u8 ⟨v8, rfl, o8, g8⟩
              obtain ⟨a8, c8, rfl, _, _⟩ := liesII_at (ownII_lies o8)
              clear o8
              go_wp2_with fail
              refine (awake10_c _).mono ?_; rintro e u9 ⟨rfl, g9⟩
              go_wp2_with fail
              go_ret
              exact ⟨rfl, (GZ.out.trans g8).trans g9⟩
            · go_wp2_with fail
              refine (PA.out _).mono ?_; rintro e u8 ⟨v8, rfl, o8, g8⟩
              have O8 := Lib.hid (ownII_lies o8)
              clear o8
              go_wp2_with fail
              refine (LS.out (by simp) _ _ O8.out).mono ?_; rintro e u9 ⟨rfl, g9⟩
              go_wp2_with fail
              refine (awake10_c _).mono ?_; rintro e u10 ⟨rfl, g10⟩
              go_wp2_with fail
              go_ret
              exact ⟨rfl, ((GZ.out.trans g8).trans g9).trans g10⟩
    · have t700 : (700 : Int) < s.size := by omega
      clear hf hLi hs hL
      go_enter Try.func4, Try.ntmps4
      go_wp2_with fail
      refine F.mono ?_; rintro e u ⟨rfl, rfl⟩
      go_wp2_with fail
      refine (awake10_c _).mono ?_; rintro e u7 ⟨rfl, g7⟩
      go_wp2_with fail
      go_ret
      exact ⟨rfl, g7⟩

set_option maxRecDepth 100000 in
theorem lifted (os : Os) (started : os.Started) (H : Type) (enc : TypeId × Value → H) :
    ReturnsInHanded {} Try.checked os 4 .any (Rows.datasetBackSpec.pre6 enc Try.prog Try.f4 Rows.datasetBackRow.domain false) (Rows.datasetBackSpec.post enc Try.prog Try.f4 false true false false) := by
  refine returnsInHanded_of_change (C := Try.checked) own started (by kernel_rfl) Try.func4
    (ChangeSpec.witness6 (enc := enc) (C := Try.checked) false ⟨#[], #[.slice none 0 0, .string ByteArray.empty], []⟩ 8 (by kernel_rfl) (by kernel_rfl) (by kernel_rfl) (by kernel_rfl)) ?_
  intro W base args ds gs before hval0 hW hcnd _
  have hval : ∀ (j : Nat) t v, Try.f4.params[j]? = some t → args[j]? = some v → Value.okWide Try.prog W .any base t v := hval0
  have hW' := hW
  obtain ⟨p, q, hA0, hV, rfl, hfz, hnd⟩ := hW
  have hA : DataW.TrodAll enc Try.prog W 0 (fun _ => true) true Try.f4.params.toList args.toList ds p := hA0
  rw [Try.params4] at hA hval
  obtain ⟨v0, vs0, d0, ds0, p0, q0, hargs, rfl, rfl, h0, r0⟩ := trodAll_cons hA
  obtain ⟨v1, vs1, d1, ds1, p1, q1, rfl, rfl, rfl, h1, r1⟩ := trodAll_cons r0
  obtain ⟨rfl, rfl, rfl⟩ := trodAll_nil r1
  obtain rfl : args = #[v0, v1] := by cases args; simp_all
  obtain ⟨rfl, rfl⟩ := trodVars_none hV
  have k0 := h0
  have lt0 : ∀ x ∈ p0, x.block < W.heap.size := by obtain ⟨m, hm⟩ := k0; exact DataW.trod_lt m _ _ _ hm
  obtain ⟨a0, l0, c0, e0⟩ := okWide_slice Try.underlying22 (hval 0 22 v0 rfl rfl)
  have w0 : Rd Try.prog W 22 v0 := by
    obtain ⟨fuel, hf⟩ := h0
    subst e0
    exact ⟨H, enc, fuel, _, by simpa [Value.cells] using hf⟩
  have k1 := h1
  have lt1 : ∀ x ∈ p1, x.block < W.heap.size := by obtain ⟨m, hm⟩ := k1; exact DataW.trod_lt m _ _ _ hm
  obtain ⟨n1, e1⟩ := okWide_string Try.underlying9 (hval 1 9 v1 rfl rfl)
  have w1 : Rd Try.prog W 9 v1 := by
    obtain ⟨fuel, hf⟩ := h1
    subst e1
    exact ⟨H, enc, fuel, _, by simpa [Value.cells] using hf⟩
  clear hA0 hval0
  refine (walk v0 v1 W w0 w1).mono fun e W' ⟨he, bel⟩ => ?_
  subst he
  exact ⟨_, rfl, _, _, _, [], _, [], hW', trodAll_mk1 (shut_bool Try.underlying4 _), (trodAll_cons_mk (Below.trod laidOut (by kernel_rfl) (of_decide_eq_true (by kernel_rfl)) k0 bel lt0) (trodAll_cons_mk (Below.trod laidOut (by kernel_rfl) (of_decide_eq_true (by kernel_rfl)) k1 bel lt1) trodAll_mk0)), rfl, bel.frame _, fun h => by cases h⟩

theorem over : Rows.datasetBackRow.holds Try.pinned (OpenSpec.ofChange Rows.datasetBackSpec) :=
  OpenClaim.holds_of_wide 4 Try.f4 rfl rfl rfl rfl rfl rfl rfl ⟨rfl, rfl, rfl, rfl, rfl⟩ rfl rfl rfl rfl rfl (by kernel_rfl) Try.func4 (by kernel_rfl)
    (of_decide_eq_true (by kernel_rfl)) (by unfold Func.isWrapper; first | (rw [if_pos (by decide +kernel)]; kernel_rfl) | (rw [if_neg (by decide +kernel)]; exact ⟨rfl, rfl⟩))
    (fun os started H enc _ => lifted os started H enc)

theorem proved : Rows.DatasetBackSaid := over
#print axioms proved
end Go.Proofs.Ytddjhajnhamjoaa.datasetBack
