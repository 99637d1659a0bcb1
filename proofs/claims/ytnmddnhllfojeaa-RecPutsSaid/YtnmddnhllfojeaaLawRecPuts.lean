/- Rows.RecPutsSaid holds: for every input the law returns true and leaves its arguments as they were. Conditions: none beside the row's own. -/
import Derived.Test.YtnmddnhllfojeaaRows
import Derived.WalkKit
import Derived.ProofKit
import Derived.OpenShut
import Derived.ShutString
import Derived.ChangeOld
import Derived.Below
import Derived.Test.YtnmddnhllfojeaaArgs
import Derived.Test.YtnmddnhllfojeaaRcAwake
namespace Go.Proofs.Ytnmddnhllfojeaa.recPuts
open Go.ChangeShapes Go.WideShapes Go.ChangeAt Go.RowKit
open Go.ChangeMaps (open_string shut_string)
open OctPlain RcPlain
set_option linter.unusedVariables false
set_option linter.unusedSimpArgs false

theorem own : ownKnob Try.prog.godebug = none := by kernel_rfl
theorem laidOut : laidOutB Try.prog = true := by kernel_rfl


set_option maxRecDepth 100000 in
set_option maxHeartbeats 4000000 in
theorem walk (v0 v1 v2 v3 : Value) (w : World) (w0 : RdAgg Try.prog w 23 v0) (w1 : RdAgg Try.prog w 25 v1) (w2 : RdS Try.prog w 29 v2) (w3 : RdAgg Try.prog w 31 v3) :
    Calls Try.prog 3 #[v0, v1, v2, v3] w fun e w' => e = .returned (.bool true) ∧ Gr w w' := by
  obtain ⟨px, py, rfl, hpx, hpy⟩ := place_in w0
  obtain ⟨a, b, rfl, ha, hb⟩ := pair_in w1
  obtain ⟨f, d, i, nw, rfl, hf, hd, hi⟩ := edge_in w2
  obtain ⟨o, k, l, id, rfl, ho, hk, hl, hid⟩ := draw_in w3
  clear w0 w1 w2 w3
  have PC := Lib.hid (fun u => putcell_c px py a hpx hpy ha u)
  have RC := Lib.hid (fun u => rputcell_c px py a hpx hpy ha u)
  have PP := Lib.hid (fun u => putpair_c a b ha hb u)
  have RP := Lib.hid (fun u => rputpair_c a b ha hb u)
  have PE := Lib.hid (fun u => putedge_c f d i nw hf hd hi u)
  have RE := Lib.hid (fun u => rputedge_c f d i nw hf hd hi u)
  have PD := Lib.hid (fun u => putdraw_c o k l id ho hk hl hid u)
  have RD := Lib.hid (fun u => rputdraw_c o k l id ho hk hl hid u)
  generalize cellS px py a = s1 at PC RC
  generalize cellB px py a = b1 at PC RC
  generalize pairS a b = s2 at PP RP
  generalize pairB a b = b2 at PP RP
  generalize edgeS f d i nw = s3 at PE RE
  generalize edgeB f d i = b3 at PE RE
  generalize drawS o k l id = s4 at PD RD
  generalize drawB o k l id = b4 at PD RD
  have q1 : (b1 == b1) = true := by simp
  have q2 : (b2 == b2) = true := by simp
  have q3 : (b3 == b3) = true := by simp
  have q4 : (b4 == b4) = true := by simp
  clear hpx hpy ha hb hf hd hi ho hk hl hid
  obtain ⟨W1, hW1⟩ : ∃ W1, W1 = w.alloc (.cells #[.int .i64 px, .int .i64 py] 23) := ⟨_, rfl⟩
  obtain ⟨W2, hW2⟩ : ∃ W2, W2 = W1.alloc (.cells #[.int .i64 a, .int .i64 b] 25) := ⟨_, rfl⟩
  obtain ⟨W3, hW3⟩ : ∃ W3, W3 = W2.alloc (.cells #[.int .i64 f, .int .i64 d, .int .i64 i, .bool nw] 29) := ⟨_, rfl⟩
  obtain ⟨W4, hW4⟩ : ∃ W4, W4 = W3.alloc (.cells #[.int .i64 o, .int .i64 k, .int .i64 l, .int .i64 id] 31) := ⟨_, rfl⟩
  have z1 : W1.heap.size = w.heap.size + 1 := by rw [hW1]; simp
  have z2 : W2.heap.size = w.heap.size + 1 + 1 := by rw [hW2]; simp [z1]
  have z3 : W3.heap.size = w.heap.size + 1 + 1 + 1 := by rw [hW3]; simp [z2]
  have g4 : Gr W3 W4 := by rw [hW4]; exact gral14 _ _
  have g3 : Gr W2 W4 := Gr.trans (by rw [hW3]; exact gral14 _ _) g4
  have g2 : Gr W1 W4 := Gr.trans (by rw [hW2]; exact gral14 _ _) g3
  have g1 : Gr w W4 := Gr.trans (by rw [hW1]; exact gral14 _ _) g2
  have m1 : Two14 w.heap.size 23 (.int .i64 px) (.int .i64 py) W4 := Two14.gr (by rw [hW1]; exact Two14.new _ _ _ _) g2
  have m2 : Two14 (w.heap.size + 1) 25 (.int .i64 a) (.int .i64 b) W4 := Two14.gr (by rw [hW2, ← z1]; exact Two14.new _ _ _ _) g3
  have m3 : Four14 (w.heap.size + 1 + 1) 29 (.int .i64 f) (.int .i64 d) (.int .i64 i) (.bool nw) W4 := Four14.gr (by rw [hW3, ← z2]; exact Four14.new _ _ _ _ _ _) g4
  have m4 : Four14 (w.heap.size + 1 + 1 + 1) 31 (.int .i64 o) (.int .i64 k) (.int .i64 l) (.int .i64 id) W4 := by rw [hW4, ← z3]; exact Four14.new _ _ _ _ _ _
  have M1 := Lib.hid (fun u (g : Gr W4 u) => (m1.gr g).at)
  have M2 := Lib.hid (fun u (g : Gr W4 u) => (m2.gr g).at)
  have M3 := Lib.hid (fun u (g : Gr W4 u) => (m3.gr g).at.1)
  have M4 := Lib.hid (fun u (g : Gr W4 u) => (m4.gr g).at.1)
  rw [hW3, hW2, hW1] at hW4
  have HW := Lib.hid hW4
  clear hW4 hW3 hW2 hW1 m1 m2 m3 m4 z1 z2 z3 g2 g3 g4
  go_enter Try.func3, Try.ntmps3
  go_wp2_with fail
  rw [← HW.out]
  refine (PC.out _).mono ?_; rintro e u1 ⟨rfl, h1⟩
  have c1 := (M1.out _ h1).1
  have c2 := (M1.out _ h1).2
  have c3 := (M2.out _ h1).1
  go_wp2_with fail
  refine (RC.out _).mono ?_; rintro e u2 ⟨rfl, h2⟩
  have h2 := h1.trans h2
  clear c1 c2 c3 h1
  have c1 := (M2.out _ h2).1
  have c2 := (M2.out _ h2).2
  go_wp2_with fail
  refine (PP.out _).mono ?_; rintro e u3 ⟨rfl, h3⟩
  have h3 := h2.trans h3
  clear c1 c2 h2
  have c1 := (M2.out _ h3).1
  have c2 := (M2.out _ h3).2
  go_wp2_with fail
  refine (RP.out _).mono ?_; rintro e u4 ⟨rfl, h4⟩
  have h4 := h3.trans h4
  clear c1 c2 h3
  obtain ⟨c1, c2, c3, c4⟩ := M3.out _ h4
  go_wp2_with fail
  refine (PE.out _).mono ?_; rintro e u5 ⟨rfl, h5⟩
  have h5 := h4.trans h5
  clear c1 c2 c3 c4 h4
  obtain ⟨c1, c2, c3, c4⟩ := M3.out _ h5
  go_wp2_with fail
  refine (RE.out _).mono ?_; rintro e u6 ⟨rfl, h6⟩
  have h6 := h5.trans h6
  clear c1 c2 c3 c4 h5
  obtain ⟨c1, c2, c3, c4⟩ := M4.out _ h6
  go_wp2_with fail
  refine (PD.out _).mono ?_; rintro e u7 ⟨rfl, h7⟩
  have h7 := h6.trans h7
  clear c1 c2 c3 c4 h6
  obtain ⟨c1, c2, c3, c4⟩ := M4.out _ h7
  go_wp2_with fail
  refine (RD.out _).mono ?_; rintro e u8 ⟨rfl, h8⟩
  have h8 := h7.trans h8
  clear c1 c2 c3 c4 h7
  go_wp2_with fail
  refine (awake14_c _).mono ?_; rintro e u9 ⟨rfl, h9⟩
  go_wp2_with fail
  go_ret
  exact ⟨rfl, g1.trans (h8.trans h9)⟩

set_option maxRecDepth 100000 in
theorem lifted (os : Os) (started : os.Started) (H : Type) (enc : TypeId × Value → H) :
    ReturnsInHanded {} Try.checked os 3 .any (Rows.recPutsSpec.pre6 enc Try.prog Try.f3 Rows.recPutsRow.domain false) (Rows.recPutsSpec.post enc Try.prog Try.f3 false true false false) := by
  refine returnsInHanded_of_change (C := Try.checked) own started (by kernel_rfl) Try.func3
    (ChangeSpec.witness6 (enc := enc) (C := Try.checked) false ⟨#[], #[.agg #[.int .i64 0, .int .i64 0], .agg #[.int .i64 0, .int .i64 0], .agg #[.int .i64 0, .int .i64 0, .int .i64 0, .bool false], .agg #[.int .i64 0, .int .i64 0, .int .i64 0, .int .i64 0]], []⟩ 8 (by kernel_rfl) (by kernel_rfl) (by kernel_rfl) (by kernel_rfl)) ?_
  intro W base args ds gs before hval0 hW hcnd _
  have hval : ∀ (j : Nat) t v, Try.f3.params[j]? = some t → args[j]? = some v → Value.okWide Try.prog W .any base t v := hval0
  have hW' := hW
  obtain ⟨p, q, hA0, hV, rfl, hfz, hnd⟩ := hW
  have hA : DataW.TrodAll enc Try.prog W 0 (fun _ => true) true Try.f3.params.toList args.toList ds p := hA0
  rw [Try.params3] at hA hval
  obtain ⟨v0, vs0, d0, ds0, p0, q0, hargs, rfl, rfl, h0, r0⟩ := trodAll_cons hA
  obtain ⟨v1, vs1, d1, ds1, p1, q1, rfl, rfl, rfl, h1, r1⟩ := trodAll_cons r0
  obtain ⟨v2, vs2, d2, ds2, p2, q2, rfl, rfl, rfl, h2, r2⟩ := trodAll_cons r1
  obtain ⟨v3, vs3, d3, ds3, p3, q3, rfl, rfl, rfl, h3, r3⟩ := trodAll_cons r2
  obtain ⟨rfl, rfl, rfl⟩ := trodAll_nil r3
  obtain rfl : args = #[v0, v1, v2, v3] := by cases args; simp_all
  obtain ⟨rfl, rfl⟩ := trodVars_none hV
  have k0 := h0
  have lt0 : ∀ x ∈ p0, x.block < W.heap.size := by obtain ⟨m, hm⟩ := k0; exact DataW.trod_lt m _ _ _ hm
  have w0 : RdAgg Try.prog W 23 v0 := rd_agg Try.underlying23 (by kernel_rfl) (by kernel_rfl) (hval 0 23 v0 rfl rfl) h0
  have k1 := h1
  have lt1 : ∀ x ∈ p1, x.block < W.heap.size := by obtain ⟨m, hm⟩ := k1; exact DataW.trod_lt m _ _ _ hm
  have w1 : RdAgg Try.prog W 25 v1 := rd_agg Try.underlying25 (by kernel_rfl) (by kernel_rfl) (hval 1 25 v1 rfl rfl) h1
  have k2 := h2
  have lt2 : ∀ x ∈ p2, x.block < W.heap.size := by obtain ⟨m, hm⟩ := k2; exact DataW.trod_lt m _ _ _ hm
  have w2 : RdS Try.prog W 29 v2 := rd_s Try.underlying29 (hval 2 29 v2 rfl rfl) h2
  have k3 := h3
  have lt3 : ∀ x ∈ p3, x.block < W.heap.size := by obtain ⟨m, hm⟩ := k3; exact DataW.trod_lt m _ _ _ hm
  have w3 : RdAgg Try.prog W 31 v3 := rd_agg Try.underlying31 (by kernel_rfl) (by kernel_rfl) (hval 3 31 v3 rfl rfl) h3
  clear hA0 hval0
  refine (walk v0 v1 v2 v3 W w0 w1 w2 w3).mono fun e W' ⟨he, bel⟩ => ?_
  subst he
  exact ⟨_, rfl, _, _, _, [], _, [], hW', trodAll_mk1 (shut_bool Try.underlying4 _), (trodAll_cons_mk (Below.trod laidOut (by kernel_rfl) (of_decide_eq_true (by kernel_rfl)) k0 bel lt0) (trodAll_cons_mk (Below.trod laidOut (by kernel_rfl) (of_decide_eq_true (by kernel_rfl)) k1 bel lt1) (trodAll_cons_mk (Below.trod laidOut (by kernel_rfl) (of_decide_eq_true (by kernel_rfl)) k2 bel lt2) (trodAll_cons_mk (Below.trod laidOut (by kernel_rfl) (of_decide_eq_true (by kernel_rfl)) k3 bel lt3) trodAll_mk0)))), rfl, bel.frame _, fun h => by cases h⟩

theorem over : Rows.recPutsRow.holds Try.pinned (OpenSpec.ofChange Rows.recPutsSpec) :=
  OpenClaim.holds_of_wide 3 Try.f3 rfl rfl rfl rfl rfl rfl rfl ⟨rfl, rfl, rfl, rfl, rfl⟩ rfl rfl rfl rfl rfl (by kernel_rfl) Try.func3 (by kernel_rfl)
    (of_decide_eq_true (by kernel_rfl)) (by unfold Func.isWrapper; first | (rw [if_pos (by decide +kernel)]; kernel_rfl) | (rw [if_neg (by decide +kernel)]; exact ⟨rfl, rfl⟩))
    (fun os started H enc _ => lifted os started H enc)

theorem proved : Rows.RecPutsSaid := over
#print axioms proved
end Go.Proofs.Ytnmddnhllfojeaa.recPuts
