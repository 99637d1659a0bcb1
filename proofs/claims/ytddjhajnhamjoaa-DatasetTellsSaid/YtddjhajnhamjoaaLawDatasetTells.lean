/- Rows.DatasetTellsSaid holds: for every input the law returns true and leaves its arguments as they were. Conditions: none beside the row's own. -/
import Derived.Test.YtddjhajnhamjoaaRows
import Derived.WalkKit
import Derived.ProofKit
import Derived.OpenShut
import Derived.ShutString
import Derived.ChangeOld
import Derived.Below
import Derived.Test.YtddjhajnhamjoaaArgs
import Derived.Test.YtddjhajnhamjoaaDsTells
namespace Go.Proofs.Ytddjhajnhamjoaa.datasetTells
open Go.ChangeShapes Go.WideShapes Go.ChangeAt Go.RowKit
open Go.ChangeMaps (open_string shut_string)
open OctPlain DsPlain
set_option linter.unusedVariables false
set_option linter.unusedSimpArgs false

theorem own : ownKnob Try.prog.godebug = none := by kernel_rfl
theorem laidOut : laidOutB Try.prog = true := by kernel_rfl


set_option maxRecDepth 100000 in
set_option maxHeartbeats 4000000 in
theorem walk (v0 v1 v2 v3 : Value) (w : World) (w0 : Rd Try.prog w 22 v0) (w1 : Rd Try.prog w 9 v1) (w2 : Rd Try.prog w 3 v2) (w3 : Rd Try.prog w 3 v3) :
    Calls Try.prog 3 #[v0, v1, v2, v3] w fun e w' => e = .returned (.bool true) ∧ Gr w w' := by
  obtain ⟨L, hL, hLm, hLi⟩ := liesII_in Try.underlying22 w0
  obtain ⟨s, rfl, hsm⟩ := rd_string Try.underlying9 w1
  obtain ⟨n, rfl, hn⟩ := rd_int Try.underlying3 w2
  obtain ⟨d, rfl, hd⟩ := rd_int Try.underlying3 w3
  have hn64 : I64 n := bounds_i64 hn
  have hd64 : I64 d := bounds_i64 hd
  unfold maxLen at hLm hsm
  clear w0 w1 w2 w3 hn hd
  have HL := Lib.hid (fun u (g : Gr w u) => hL.gr g)
  have F := few10_c hL 20 20 (by omega) (by omega) (by omega)
  clear hL
  cases hf : few10 L 20 20
  · rw [hf] at F
    clear hf hLi
    go_enter Try.func3, Try.ntmps3
    go_wp2_with fail
    refine F.mono ?_; rintro e u ⟨rfl, rfl⟩
    go_wp2_with fail
    refine (awake10_c _).mono ?_; rintro e u7 ⟨rfl, g7⟩
    go_wp2_with fail
    go_ret
    exact ⟨rfl, g7⟩
  · rw [hf] at F
    by_cases hs : s.size ≤ 700
    · obtain ⟨hl20, hz20⟩ := few10_yes hf
      have hz1 : ∀ l ∈ L, l.length ≤ 1000 := fun l hl => by have := hz20 l hl; omega
      have LA := Lib.hid (fun u (g : Gr w u) => lay10_c (HL.out u g) (by omega) hz1 hLi)
      have RL := Lib.hid (fun u (g : Gr w u) => rlay10_c (HL.out u g) (by omega) hz1 hLi)
      have PA := Lib.hid (fun u => parse_c s (by omega) u)
      have RP := Lib.hid (fun u => rparse10_c s (by omega) u)
      have SA := Lib.hid (fun u => shape_c s n hn64 u)
      have RS := Lib.hid (fun u => rshape_c s n hn64 u)
      have SB := Lib.hid (fun u => shape_c (hd s) (s.size : Int) (by unfold I64; omega) u)
      have RB := Lib.hid (fun u => rshape_c (hd s) (s.size : Int) (by unfold I64; omega) u)
      have VA := Lib.hid (fun u => vector_c s d hd64 u)
      have RV := Lib.hid (fun u => rvector_c s (by omega) d hd64 u)
      have PL := Lib.hid (fun u => place_c d n hd64 hn64 u)
      have RPL := Lib.hid (fun u => rplace_c d n hd64 hn64 u)
      have VD := Lib.hid (fun u => valid_c s (by omega) u)
      have t700 : ¬ (700 : Int) < s.size := by omega
      have hpl : (pL s).length ≤ 1000000 ∧ ∀ l ∈ pL s, l.length ≤ 1000000 := pL_small s (by omega)
      have hvl : (vL s d).length ≤ 1000000 := vL_small s d
      have HPL := Lib.hid hpl
      have HVL := Lib.hid hvl
      have hpe : ((pE s) == 0) = pB s := by unfold pE; cases pB s <;> rfl
      clear hf hLi hl20 hz20 hz1 hpl hvl hLm
      generalize hlay : layS L = lay at LA RL
      generalize hrt : right L = rt at LA RL
      obtain ⟨PLs, hPLs⟩ : ∃ x, x = pL s := ⟨_, rfl⟩
      rw [← hPLs] at PA RP HPL
      obtain ⟨VLs, hVLs⟩ : ∃ x, x = vL s d := ⟨_, rfl⟩
      rw [← hVLs] at VA RV HVL
      generalize pE s = pe at PA RP hpe
      generalize pB s = pb at VD hpe
      generalize vB s d = vb at VA RV
      generalize plN d n = pl at PL RPL
      unfold shV at SA RS SB RB
      generalize shn s n = x1 at SA RS
      generalize shd s n = x2 at SA RS
      generalize she s n = x3 at SA RS
      generalize shn (hd s) (s.size : Int) = y1 at SB RB
      generalize shd (hd s) (s.size : Int) = y2 at SB RB
      generalize she (hd s) (s.size : Int) = y3 at SB RB
      have q1 : (lay.toList == lay.toList) = true := by simp
      have q2 : (rt == rt) = true := by simp
      have q3 : (vb == vb) = true := by simp
      have q4 : (pb == pb) = true := by simp
      clear hlay hrt hPLs hVLs
      have hm : s.extract 0 (min (10 : Int) (s.size : Int)).toNat = hd s := by
        unfold hd
        congr 1
        omega
      have HM := Lib.hid hm
      clear hm
      generalize hd s = h at SB RB HM
      clear hs
      go_enter Try.func3, Try.ntmps3
      go_wp2_with fail
      refine F.mono ?_; rintro e u ⟨rfl, rfl⟩
      go_wp2_with fail
      refine (LA.out _ (Gr.refl _)).mono ?_; rintro e u1 ⟨rfl, g1⟩
      go_wp2_with fail
      refine (RL.out _ g1).mono ?_; rintro e u2 ⟨rfl, g2⟩
      go_wp2_with fail
      refine (PA.out _).mono ?_; rintro e u3 ⟨v3, rfl, o3, g3⟩
      have O3 := Lib.hid (ownII_lies o3)
      clear o3
      go_wp2_with fail
      refine (RP.out _).mono ?_; rintro e u4 ⟨v4, rfl, o4, g4⟩
      have O4 := Lib.hid (ownII_lies o4)
      clear o4
      go_wp2_with fail
      refine (SA.out _).mono ?_; rintro e u5 ⟨rfl, g5⟩
      go_wp2_with fail
      refine (RS.out _).mono ?_; rintro e u6 ⟨rfl, rfl⟩
      go_wp2_with fail
      rw [HM.out]
      refine (SB.out _).mono ?_; rintro e u7 ⟨rfl, g7⟩
      go_wp2_with fail
      refine (RB.out _).mono ?_; rintro e u8 ⟨rfl, rfl⟩
      go_wp2_with fail
      refine (VA.out _).mono ?_; rintro e u9 ⟨v9, rfl, o9, g9⟩
      have O9 := Lib.hid (liesI_own o9)
      clear o9
      go_wp2_with fail
      refine (RV.out _).mono ?_; rintro e u10 ⟨v10, rfl, o10, g10⟩
      have O10 := Lib.hid (liesI_own o10)
      clear o10
      go_wp2_with fail
      refine (same10_c HPL.out.1 HPL.out.2 (((((O3.out.gr g4).gr g5).gr g7).gr g9).gr g10) ((((O4.out.gr g5).gr g7).gr g9).gr g10)).mono ?_; rintro e u11 ⟨rfl, g11⟩
      go_wp2_with fail
      refine (samel_c HVL.out ((O9.out.gr g10).gr g11) (O10.out.gr g11)).mono ?_; rintro e u12 ⟨rfl, g12⟩
      go_wp2_with fail
      refine (PL.out _).mono ?_; rintro e u13 ⟨rfl, rfl⟩
      go_wp2_with fail
      refine (RPL.out _).mono ?_; rintro e u14 ⟨rfl, rfl⟩
      go_wp2_with fail
      refine (VD.out _).mono ?_; rintro e u15 ⟨rfl, g15⟩
      go_wp2_with fail
      refine (awake10_c _).mono ?_; rintro e u16 ⟨rfl, g16⟩
      go_wp2_with fail
      go_ret
      exact ⟨rfl, (((((((((((g1.trans g2).trans g3).trans g4).trans g5).trans g7).trans g9).trans g10).trans g11).trans g12).trans g15).trans g16)⟩
    · have t700 : (700 : Int) < s.size := by omega
      clear hf hLi hs
      go_enter Try.func3, Try.ntmps3
      go_wp2_with fail
      refine F.mono ?_; rintro e u ⟨rfl, rfl⟩
      go_wp2_with fail
      refine (awake10_c _).mono ?_; rintro e u7 ⟨rfl, g7⟩
      go_wp2_with fail
      go_ret
      exact ⟨rfl, g7⟩

set_option maxRecDepth 100000 in
theorem lifted (os : Os) (started : os.Started) (H : Type) (enc : TypeId × Value → H) :
    ReturnsInHanded {} Try.checked os 3 .any (Rows.datasetTellsSpec.pre6 enc Try.prog Try.f3 Rows.datasetTellsRow.domain false) (Rows.datasetTellsSpec.post enc Try.prog Try.f3 false true false false) := by
  refine returnsInHanded_of_change (C := Try.checked) own started (by kernel_rfl) Try.func3
    (ChangeSpec.witness6 (enc := enc) (C := Try.checked) false ⟨#[], #[.slice none 0 0, .string ByteArray.empty, .int .i64 0, .int .i64 0], []⟩ 8 (by kernel_rfl) (by kernel_rfl) (by kernel_rfl) (by kernel_rfl)) ?_
  intro W base args ds gs before hval0 hW hcnd _
  have hval : ∀ (j : Nat) t v, Try.f3.params[j]? = some t → args[j]? = some v → Value.okWide Try.prog W .any base t v := hval0
  have hW' := hW
  obtain ⟨p, q, hA0, hV, rfl, hfz, hnd⟩ := hW
  have hA : DataW.TrodAll enc Try.prog W 0 (fun _ => true) true Try.f3.params.toList args.toList ds p := hA0
  rw [Try.params3] at hA hval
  obtain ⟨v0, vs0, d0, ds0, p0, q0, hargs, rfl, rfl, h0, r0⟩ := trodAll_cons hA
  obtain ⟨v1, vs1, d1, ds1, p1, q1, rfl, rfl, rfl, h1, r1⟩ := trodAll_cons r0
  obtain ⟨v2, vs2, d2, ds2, p2, q2, rfl, rfl, rfl, h2, r2⟩ := trodAll_cons r1
  obtain ⟨v3, vs3, d3, ds3, p3, q3, rfl, rfl, rfl, h3, r3⟩ := trodAll_cons r2
  obtain ⟨rfl, rfl, rfl⟩ := trodAll_nil r3
  obtain rfl : args = #[v0, v1, v2, v3] := by cases args; simp_all
  obtain ⟨rfl, rfl⟩ := trodVars_none hV
  have k0 := h0
  have lt0 : ∀ x ∈ p0, x.block < W.heap.size := by obtain ⟨m, hm⟩ := k0; exact DataW.trod_lt m _ _ _ hm
  obtain ⟨a0, l0, c0, e0⟩ := okWide_slice Try.underlying22 (hval 0 22 v0 rfl rfl)
  have w0 : Rd Try.prog W 22 v0 := by
    obtain ⟨fuel, hf⟩ := h0
    subst e0
    exact ⟨H, enc, fuel, _, by simpa [Value.cells] using hf⟩
  have k1 := h1
  have lt1 : ∀ x ∈ p1, x.block < W.heap.size := by obtain ⟨m, hm⟩ := k1; exact DataW.trod_lt m _ _ _ hm
  obtain ⟨n1, e1⟩ := okWide_string Try.underlying9 (hval 1 9 v1 rfl rfl)
  have w1 : Rd Try.prog W 9 v1 := by
    obtain ⟨fuel, hf⟩ := h1
    subst e1
    exact ⟨H, enc, fuel, _, by simpa [Value.cells] using hf⟩
  have k2 := h2
  have lt2 : ∀ x ∈ p2, x.block < W.heap.size := by obtain ⟨m, hm⟩ := k2; exact DataW.trod_lt m _ _ _ hm
  obtain ⟨n2, e2⟩ := okWide_int Try.underlying3 (hval 2 3 v2 rfl rfl)
  have w2 : Rd Try.prog W 3 v2 := by
    obtain ⟨fuel, hf⟩ := h2
    subst e2
    exact ⟨H, enc, fuel, _, by simpa [Value.cells] using hf⟩
  have k3 := h3
  have lt3 : ∀ x ∈ p3, x.block < W.heap.size := by obtain ⟨m, hm⟩ := k3; exact DataW.trod_lt m _ _ _ hm
  obtain ⟨n3, e3⟩ := okWide_int Try.underlying3 (hval 3 3 v3 rfl rfl)
  have w3 : Rd Try.prog W 3 v3 := by
    obtain ⟨fuel, hf⟩ := h3
    subst e3
    exact ⟨H, enc, fuel, _, by simpa [Value.cells] using hf⟩
  clear hA0 hval0
  refine (walk v0 v1 v2 v3 W w0 w1 w2 w3).mono fun e W' ⟨he, bel⟩ => ?_
  subst he
  exact ⟨_, rfl, _, _, _, [], _, [], hW', trodAll_mk1 (shut_bool Try.underlying4 _), (trodAll_cons_mk (Below.trod laidOut (by kernel_rfl) (of_decide_eq_true (by kernel_rfl)) k0 bel lt0) (trodAll_cons_mk (Below.trod laidOut (by kernel_rfl) (of_decide_eq_true (by kernel_rfl)) k1 bel lt1) (trodAll_cons_mk (Below.trod laidOut (by kernel_rfl) (of_decide_eq_true (by kernel_rfl)) k2 bel lt2) (trodAll_cons_mk (Below.trod laidOut (by kernel_rfl) (of_decide_eq_true (by kernel_rfl)) k3 bel lt3) trodAll_mk0)))), rfl, bel.frame _, fun h => by cases h⟩

theorem over : Rows.datasetTellsRow.holds Try.pinned (OpenSpec.ofChange Rows.datasetTellsSpec) :=
  OpenClaim.holds_of_wide 3 Try.f3 rfl rfl rfl rfl rfl rfl rfl ⟨rfl, rfl, rfl, rfl, rfl⟩ rfl rfl rfl rfl rfl (by kernel_rfl) Try.func3 (by kernel_rfl)
    (of_decide_eq_true (by kernel_rfl)) (by unfold Func.isWrapper; first | (rw [if_pos (by decide +kernel)]; kernel_rfl) | (rw [if_neg (by decide +kernel)]; exact ⟨rfl, rfl⟩))
    (fun os started H enc _ => lifted os started H enc)

theorem proved : Rows.DatasetTellsSaid := over
#print axioms proved
end Go.Proofs.Ytddjhajnhamjoaa.datasetTells
