/- Rows.FrameBackSaid holds: for every input the law returns true and leaves its arguments as they were. Conditions: none beside the row's own. -/
import Derived.Test.YtkmkhlhgnjoecaaRows
import Derived.WalkKit
import Derived.ProofKit
import Derived.OpenShut
import Derived.ShutString
import Derived.ChangeOld
import Derived.Below
import Derived.Test.YtkmkhlhgnjoecaaArgs
import Derived.Test.YtkmkhlhgnjoecaaFrameBack
import Derived.Test.YtkmkhlhgnjoecaaLies
namespace Go.Proofs.Ytkmkhlhgnjoecaa.frameBack
open Go.ChangeShapes Go.WideShapes Go.ChangeAt Go.RowKit
open Go.ChangeMaps (open_string shut_string)
open CrcPlain OctPlain FramePlain
set_option linter.unusedVariables false
set_option linter.unusedSimpArgs false

theorem own : ownKnob Try.prog.godebug = none := by kernel_rfl
theorem laidOut : laidOutB Try.prog = true := by kernel_rfl


set_option maxRecDepth 100000 in
set_option maxHeartbeats 4000000 in
theorem walk (v0 v1 v2 v3 v4 v5 : Value) (w : World) (w0 : Rd Try.prog w 3 v0) (w1 : Rd Try.prog w 22 v1) (w2 : Rd Try.prog w 9 v2) (w3 : RdAgg Try.prog w 25 v3) (w4 : Rd Try.prog w 38 v4) (w5 : Rd Try.prog w 23 v5) :
    Calls Try.prog 4 #[v0, v1, v2, v3, v4, v5] w fun e w' => e = .returned (.bool true) ∧ Gr w w' := by
  obtain ⟨size, rfl, hw0⟩ := rd_int Try.underlying3 w0
  have hk : I64 size := bounds_i64 hw0
  obtain ⟨l, hl, hlm, hls⟩ := lies_in Try.underlying22 w1
  obtain ⟨more, rfl, hsm⟩ := rd_string Try.underlying9 w2
  obtain ⟨n, m, rfl, hn, hm⟩ := info_in w3
  obtain ⟨at_, rfl, hw4⟩ := rd_int Try.underlying38 w4
  obtain ⟨bits_, rfl, hw5⟩ := rd_int Try.underlying23 w5
  have b4 := bounds_u16 hw4
  have b5 := bounds_u32 hw5
  obtain ⟨p, rfl⟩ : ∃ p : Nat, at_ = p := ⟨at_.toNat, by omega⟩
  obtain ⟨q, rfl⟩ : ∃ q : Nat, bits_ = q := ⟨bits_.toNat, by omega⟩
  clear w0 w1 w2 w3 w4 w5 hw0 hlm hls hw4 hw5
  unfold maxLen at hsm
  have hm1 : (m : Int) < 4294967296 := by omega
  have hg0 : Gr w (w.alloc (.cells #[.int .i64 n, .int .u32 (m : Int)] 25)) := gral _ _
  have HX := Lib.hid (fun u (g : Gr (w.alloc (.cells #[.int .i64 n, .int .u32 (m : Int)] 25)) u) => (two_new w _ _ _ g).cells)
  have HL := Lib.hid (fun u (g : Gr w u) => hl.gr g)
  clear hl
  cases hf : fewB l
  · have F := few_c (HL.out _ hg0)
    rw [hf] at F
    clear hf
    go_enter Try.func4, Try.ntmps4
    go_wp2_with fail
    refine F.mono ?_; rintro e u ⟨rfl, rfl⟩
    go_wp2_with fail
    refine (awake5_c _).mono ?_; rintro e u7 ⟨rfl, g7⟩
    go_wp2_with fail
    go_ret
    exact ⟨rfl, hg0.trans g7⟩
  · by_cases hs : more.size ≤ 100
    · obtain ⟨hl10, hl80⟩ := few_yes hf
      have F := few_c (HL.out _ hg0)
      rw [hf] at F
      have P := fput_c (HL.out _ hg0) size hk (by omega) (fun s hs => by have := hl80 s hs; omega)
      have t1 : decide ((100 : Int) < more.size) = false := by rw [decide_eq_false_iff_not]; omega
      obtain ⟨b, hb⟩ : ∃ b, blkB size l = b := ⟨_, rfl⟩
      obtain ⟨sv, hsv⟩ : ∃ sv, blkS size l = sv := ⟨_, rfl⟩
      rw [hb, hsv] at P
      have HB := Lib.hid hb
      have HSV := Lib.hid hsv
      clear hf hl80 hb hsv
      go_enter Try.func4, Try.ntmps4
      go_wp2_with fail
      refine F.mono ?_; rintro e u ⟨rfl, rfl⟩
      clear F
      go_wp2_with fail
      refine P.mono ?_; rintro e u1 ⟨rfl, g1⟩
      clear P
      obtain ⟨W, hW⟩ : ∃ W, W = w.alloc (.cells #[.int .i64 n, .int .u32 (m : Int)] 25) := ⟨_, rfl⟩
      rw [← hW] at HX hg0 g1
      have HWE := Lib.hid hW
      clear hW
      go_upto_if 46 with (fail)
      go_cut [] (fun wx => Gr W wx)
      case first =>
        cases b
        · go_wp2_with fail
          go_meet
          exact g1
        · have hb := HB.out
          have hs : cl (blk l) = sv := (blkS_yes hb).symm.trans HSV.out
          obtain ⟨N, hN, hN6, hN261, -, -⟩ := blk_cl hb
          have B1 := back_c hb hk more (by rw [ByteArray.size_append]; omega)
          have B0 := back_c hb hk (ByteArray.mk #[]) (by rw [app_none]; omega)
          rw [app_none] at B0
          obtain ⟨k, hk1, hk2⟩ : ∃ k : Nat, (p : Int) % (8 * (N : Int) - 8) = (k : Int) ∧ 8 + k < 8 * N := by
            refine ⟨p % (8 * N - 8), ?_, ?_⟩
            · rw [Int.natCast_emod]; congr 1; omega
            · have := Nat.mod_lt p (show 0 < 8 * N - 8 by omega); omega
          have TC := fun u => turned_c (cl (blk l)) (8 + k) q (by omega) (by omega) (by omega) u
          have ek : ((8 + k : Nat) : Int) = 8 + (k : Int) := by omega
          rw [ek] at TC
          have GT := fun (l' : List UInt8) (v : Nat) (ht : Turn (cl (blk l)).data.toList l' (8 + k) v) => get_turned hb ht (by omega) (by omega)
          have hd0 : ¬ (8 * (N : Int) - 8 = 0) := by omega
          have hsz : ∀ l' : List UInt8, l'.length = (cl (blk l)).data.toList.length → (bs l').size ≤ 1000 := by
            intro l' h; rw [bs_size, h, data_length]; omega
          have OS := fun (l' : List UInt8) (v : Nat) (ht : Turn (cl (blk l)).data.toList l' (8 + k) v) (h0 : v = 0) => op_same ht h0
          rw [hs] at B1 B0 TC GT OS hsz hN
          have HG := Lib.hid GT
          have HO := Lib.hid OS
          have HZ := Lib.hid hsz
          clear ek GT OS hsz hb hs
          subst hN
          have i1 : (sv.size : Int) ≤ 261 := by omega
          have i0 : decide ((sv.size : Int) < 6) = false := by rw [decide_eq_false_iff_not]; omega
          have i2 : (k : Int) ≤ 3000 := by omega
          have HL10 := Lib.hid hl10
          clear hN6 hN261 hk2 hl10 hm
          go_wp2_with fail
          refine (B1 _).mono ?_; rintro e u2 ⟨v, rfl, o2, g2⟩
          have L2 := Lib.hid o2
          clear o2
          have SL := same_lies (by have := HL10.out; omega) L2.out (HL.out _ ((hg0.trans g1).trans g2))
          go_wp2_with fail
          refine SL.mono ?_; rintro e u3 ⟨rfl, g3⟩
          go_wp2_with fail
          refine (TC _).mono ?_; rintro e u4 ⟨l', v', c, hv, ht, hc, rfl, g4⟩
          by_cases h0 : v' = 0
          · have hsame := HO.out _ _ ht h0
            obtain rfl : c = false := by rw [hc]; simp [h0]
            rw [hsame]
            clear hc ht hsame h0 hv
            go_wp2_with fail
            refine (B0 _).mono ?_; rintro e u5 ⟨v5, rfl, _, g5⟩
            go_wp2_with fail
            go_meet
            exact (((g1.trans g2).trans g3).trans g4).trans g5
          · have hno := HG.out _ _ ht hv h0
            have GC := gone_c hno hk (HZ.out _ ht.1)
            obtain rfl : c = true := by rw [hc]; simp [h0]
            clear hc ht hno h0 hv
            go_wp2_with fail
            refine (GC _).mono ?_; rintro e u5 ⟨v5, rfl, g5⟩
            go_wp2_with fail
            go_meet
            exact (((g1.trans g2).trans g3).trans g4).trans g5
      case rest =>
        have HXL := Lib.hid (show w.heap.size < W.heap.size by rw [HWE.out, World.size_alloc]; omega)
        obtain ⟨x0, x1⟩ := HX.out _ hcut
        have PE := fputend_c n hn m hm wc
        cases hb : peB n
        · rw [hb, peS_no hb] at PE
          go_wp2_with fail
          refine PE.mono ?_; rintro e u2 ⟨rfl, g2⟩
          go_wp2_with fail
          refine (awake5_c _).mono ?_; rintro e u7 ⟨rfl, g7⟩
          go_wp2_with fail
          go_ret
          exact ⟨rfl, ((hg0.trans hcut).trans g2).trans g7⟩
        · rw [hb, peS_yes hb] at PE
          have EB := fun u => endback_c hb hm u
          have hz17 : (cl (endS n.toNat m)).size = 17 := by rw [cl_size, endS_size]
          obtain ⟨k, hk1, hk2⟩ : ∃ k : Nat, (p : Int) % 128 = (k : Int) ∧ k < 128 := ⟨p % 128, by omega, by omega⟩
          have TC := fun u => turned_c (cl (endS n.toNat m)) (8 + k) q (by omega) (by omega) (by omega) u
          have ek : ((8 + k : Nat) : Int) = 8 + (k : Int) := by omega
          rw [ek] at TC
          have ET := fun (l' : List UInt8) (v : Nat) (ht : Turn (cl (endS n.toNat m)).data.toList l' (8 + k) v) => end_turned ht (by omega)
          have OS := fun (l' : List UInt8) (v : Nat) (ht : Turn (cl (endS n.toNat m)).data.toList l' (8 + k) v) (h0 : v = 0) => op_same ht h0
          have HE := Lib.hid ET
          have HO := Lib.hid OS
          clear ek ET OS hb
          generalize cl (endS n.toNat m) = s at PE EB TC HE HO hz17
          have hz17' : ((s.size : Int) == 17) = true := by rw [hz17]; rfl
          have i2 : (k : Int) ≤ 127 := by omega
          have NE := info_neq n m
          have HM := Lib.hid hm
          clear hz17 hk2 hm hl10
          go_wp2_with fail
          refine PE.mono ?_; rintro e u2 ⟨rfl, g2⟩
          clear PE x0 x1
          go_wp2_with fail
          refine (EB _).mono ?_; rintro e u3 ⟨rfl, g3⟩
          go_wp2_with fail
          refine (TC _).mono ?_; rintro e u4 ⟨l', v', c, hv, ht, hc, rfl, g4⟩
          by_cases h0 : v' = 0
          · have hsame := HO.out _ _ ht h0
            obtain rfl : c = false := by rw [hc]; simp [h0]
            rw [hsame]
            clear hc ht hsame h0 hv
            go_wp2_with fail
            refine (EB _).mono ?_; rintro e u5 ⟨rfl, g5⟩
            obtain ⟨ylt, y0, y1, _, _⟩ := two_new _ _ _ _ (g4.trans g5)
            have xlt : w.heap.size < u5.heap.size := Nat.lt_of_lt_of_le HXL.out ((((hcut.trans g2).trans g3).trans (gral _ _)).trans (g4.trans g5)).size
            obtain ⟨x0, x1⟩ := HX.out _ ((((hcut.trans g2).trans g3).trans (gral _ _)).trans (g4.trans g5))
            go_wp2_with fail
            refine (awake5_c _).mono ?_; rintro e u7 ⟨rfl, g7⟩
            go_wp2_with fail
            go_ret
            exact ⟨rfl, (((((((hg0.trans hcut).trans g2).trans g3).trans (gral _ _)).trans g4).trans g5).trans (gral _ _)).trans g7⟩
          · have hno := HE.out _ _ ht hv h0
            obtain rfl : c = true := by rw [hc]; simp [h0]
            clear hc ht h0 hv
            go_wp2_with fail
            refine (endgone_c hno _).mono ?_; rintro e u5 ⟨rfl, g5⟩
            obtain ⟨ylt, y0, y1, _, _⟩ := two_new _ _ _ _ (g4.trans g5)
            have xlt : w.heap.size < u5.heap.size := Nat.lt_of_lt_of_le HXL.out ((((hcut.trans g2).trans g3).trans (gral _ _)).trans (g4.trans g5)).size
            obtain ⟨x0, x1⟩ := HX.out _ ((((hcut.trans g2).trans g3).trans (gral _ _)).trans (g4.trans g5))
            clear hno
            go_wp2_with fail
            refine (awake5_c _).mono ?_; rintro e u7 ⟨rfl, g7⟩
            go_wp2_with fail
            go_ret
            exact ⟨rfl, (((((((hg0.trans hcut).trans g2).trans g3).trans (gral _ _)).trans g4).trans g5).trans (gral _ _)).trans g7⟩
    · have F := few_c (HL.out _ hg0)
      rw [hf] at F
      have t1 : decide ((100 : Int) < more.size) = true := by rw [decide_eq_true_iff]; omega
      clear hf
      go_enter Try.func4, Try.ntmps4
      go_wp2_with fail
      refine F.mono ?_; rintro e u ⟨rfl, rfl⟩
      go_wp2_with fail
      refine (awake5_c _).mono ?_; rintro e u7 ⟨rfl, g7⟩
      go_wp2_with fail
      go_ret
      exact ⟨rfl, hg0.trans g7⟩

set_option maxRecDepth 100000 in
theorem lifted (os : Os) (started : os.Started) (H : Type) (enc : TypeId × Value → H) :
    ReturnsInHanded {} Try.checked os 4 .any (Rows.frameBackSpec.pre6 enc Try.prog Try.f4 Rows.frameBackRow.domain false) (Rows.frameBackSpec.post enc Try.prog Try.f4 false true false false) := by
  refine returnsInHanded_of_change (C := Try.checked) own started (by kernel_rfl) Try.func4
    (ChangeSpec.witness6 (enc := enc) (C := Try.checked) false ⟨#[], #[.int .i64 0, .slice none 0 0, .string ByteArray.empty, .agg #[.int .i64 0, .int .u32 0], .int .u16 0, .int .u32 0], []⟩ 8 (by kernel_rfl) (by kernel_rfl) (by kernel_rfl) (by kernel_rfl)) ?_
  intro W base args ds gs before hval0 hW hcnd _
  have hval : ∀ (j : Nat) t v, Try.f4.params[j]? = some t → args[j]? = some v → Value.okWide Try.prog W .any base t v := hval0
  have hW' := hW
  obtain ⟨p, q, hA0, hV, rfl, hfz, hnd⟩ := hW
  have hA : DataW.TrodAll enc Try.prog W 0 (fun _ => true) true Try.f4.params.toList args.toList ds p := hA0
  rw [Try.params4] at hA hval
  obtain ⟨v0, vs0, d0, ds0, p0, q0, hargs, rfl, rfl, h0, r0⟩ := trodAll_cons hA
  obtain ⟨v1, vs1, d1, ds1, p1, q1, rfl, rfl, rfl, h1, r1⟩ := trodAll_cons r0
  obtain ⟨v2, vs2, d2, ds2, p2, q2, rfl, rfl, rfl, h2, r2⟩ := trodAll_cons r1
  obtain ⟨v3, vs3, d3, ds3, p3, q3, rfl, rfl, rfl, h3, r3⟩ := trodAll_cons r2
  obtain ⟨v4, vs4, d4, ds4, p4, q4, rfl, rfl, rfl, h4, r4⟩ := trodAll_cons r3
  obtain ⟨v5, vs5, d5, ds5, p5, q5, rfl, rfl, rfl, h5, r5⟩ := trodAll_cons r4
  obtain ⟨rfl, rfl, rfl⟩ := trodAll_nil r5
  obtain rfl : args = #[v0, v1, v2, v3, v4, v5] := by cases args; simp_all
  obtain ⟨rfl, rfl⟩ := trodVars_none hV
  have k0 := h0
  have lt0 : ∀ x ∈ p0, x.block < W.heap.size := by obtain ⟨m, hm⟩ := k0; exact DataW.trod_lt m _ _ _ hm
  obtain ⟨n0, e0⟩ := okWide_int Try.underlying3 (hval 0 3 v0 rfl rfl)
  have w0 : Rd Try.prog W 3 v0 := by
    obtain ⟨fuel, hf⟩ := h0
    subst e0
    exact ⟨H, enc, fuel, _, by simpa [Value.cells] using hf⟩
  have k1 := h1
  have lt1 : ∀ x ∈ p1, x.block < W.heap.size := by obtain ⟨m, hm⟩ := k1; exact DataW.trod_lt m _ _ _ hm
  obtain ⟨a1, l1, c1, e1⟩ := okWide_slice Try.underlying22 (hval 1 22 v1 rfl rfl)
  have w1 : Rd Try.prog W 22 v1 := by
    obtain ⟨fuel, hf⟩ := h1
    subst e1
    exact ⟨H, enc, fuel, _, by simpa [Value.cells] using hf⟩
  have k2 := h2
  have lt2 : ∀ x ∈ p2, x.block < W.heap.size := by obtain ⟨m, hm⟩ := k2; exact DataW.trod_lt m _ _ _ hm
  obtain ⟨n2, e2⟩ := okWide_string Try.underlying9 (hval 2 9 v2 rfl rfl)
  have w2 : Rd Try.prog W 9 v2 := by
    obtain ⟨fuel, hf⟩ := h2
    subst e2
    exact ⟨H, enc, fuel, _, by simpa [Value.cells] using hf⟩
  have k3 := h3
  have lt3 : ∀ x ∈ p3, x.block < W.heap.size := by obtain ⟨m, hm⟩ := k3; exact DataW.trod_lt m _ _ _ hm
  have w3 : RdAgg Try.prog W 25 v3 := rd_agg Try.underlying25 (by kernel_rfl) (by kernel_rfl) (hval 3 25 v3 rfl rfl) h3
  have k4 := h4
  have lt4 : ∀ x ∈ p4, x.block < W.heap.size := by obtain ⟨m, hm⟩ := k4; exact DataW.trod_lt m _ _ _ hm
  obtain ⟨n4, e4⟩ := okWide_int Try.underlying38 (hval 4 38 v4 rfl rfl)
  have w4 : Rd Try.prog W 38 v4 := by
    obtain ⟨fuel, hf⟩ := h4
    subst e4
    exact ⟨H, enc, fuel, _, by simpa [Value.cells] using hf⟩
  have k5 := h5
  have lt5 : ∀ x ∈ p5, x.block < W.heap.size := by obtain ⟨m, hm⟩ := k5; exact DataW.trod_lt m _ _ _ hm
  obtain ⟨n5, e5⟩ := okWide_int Try.underlying23 (hval 5 23 v5 rfl rfl)
  have w5 : Rd Try.prog W 23 v5 := by
    obtain ⟨fuel, hf⟩ := h5
    subst e5
    exact ⟨H, enc, fuel, _, by simpa [Value.cells] using hf⟩
  clear hA0 hval0
  refine (walk v0 v1 v2 v3 v4 v5 W w0 w1 w2 w3 w4 w5).mono fun e W' ⟨he, bel⟩ => ?_
  subst he
  exact ⟨_, rfl, _, _, _, [], _, [], hW', trodAll_mk1 (shut_bool Try.underlying4 _), (trodAll_cons_mk (Below.trod laidOut (by kernel_rfl) (of_decide_eq_true (by kernel_rfl)) k0 bel lt0) (trodAll_cons_mk (Below.trod laidOut (by kernel_rfl) (of_decide_eq_true (by kernel_rfl)) k1 bel lt1) (trodAll_cons_mk (Below.trod laidOut (by kernel_rfl) (of_decide_eq_true (by kernel_rfl)) k2 bel lt2) (trodAll_cons_mk (Below.trod laidOut (by kernel_rfl) (of_decide_eq_true (by kernel_rfl)) k3 bel lt3) (trodAll_cons_mk (Below.trod laidOut (by kernel_rfl) (of_decide_eq_true (by kernel_rfl)) k4 bel lt4) (trodAll_cons_mk (Below.trod laidOut (by kernel_rfl) (of_decide_eq_true (by kernel_rfl)) k5 bel lt5) trodAll_mk0)))))), rfl, bel.frame _, fun h => by cases h⟩

theorem over : Rows.frameBackRow.holds Try.pinned (OpenSpec.ofChange Rows.frameBackSpec) :=
  OpenClaim.holds_of_wide 4 Try.f4 rfl rfl rfl rfl rfl rfl rfl ⟨rfl, rfl, rfl, rfl, rfl⟩ rfl rfl rfl rfl rfl (by kernel_rfl) Try.func4 (by kernel_rfl)
    (of_decide_eq_true (by kernel_rfl)) (by unfold Func.isWrapper; first | (rw [if_pos (by decide +kernel)]; kernel_rfl) | (rw [if_neg (by decide +kernel)]; exact ⟨rfl, rfl⟩))
    (fun os started H enc _ => lifted os started H enc)

theorem proved : Rows.FrameBackSaid := over
#print axioms proved
end Go.Proofs.Ytkmkhlhgnjoecaa.frameBack
