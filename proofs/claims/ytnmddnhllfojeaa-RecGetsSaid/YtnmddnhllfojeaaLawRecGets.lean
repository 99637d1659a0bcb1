/- Rows.RecGetsSaid holds: for every input the law returns true and leaves its arguments as they were. Conditions: none beside the row's own. -/
import Derived.Test.YtnmddnhllfojeaaRows
import Derived.WalkKit
import Derived.ProofKit
import Derived.OpenShut
import Derived.ShutString
import Derived.ChangeOld
import Derived.Below
import Derived.Test.YtnmddnhllfojeaaArgs
import Derived.Test.YtnmddnhllfojeaaRcAwake
namespace Go.Proofs.Ytnmddnhllfojeaa.recGets
open Go.ChangeShapes Go.WideShapes Go.ChangeAt Go.RowKit
open Go.ChangeMaps (open_string shut_string)
open OctPlain RcPlain
set_option linter.unusedVariables false
set_option linter.unusedSimpArgs false

theorem own : ownKnob Try.prog.godebug = none := by kernel_rfl
theorem laidOut : laidOutB Try.prog = true := by kernel_rfl


set_option maxRecDepth 100000 in
set_option maxHeartbeats 4000000 in
theorem walk (v0 : Value) (w : World) (w0 : Rd Try.prog w 9 v0) :
    Calls Try.prog 4 #[v0] w fun e w' => e = .returned (.bool true) ∧ Gr w w' := by
  obtain ⟨s, rfl, hsm⟩ := rd_string Try.underlying9 w0
  clear w0 hsm
  by_cases hs : s.size ≤ 40
  · have hs' : s.size ≤ 1000 := by omega
    have t0 : ¬ (40 : Int) < s.size := by omega
    have P0 := Lib.hid (fun u => getcell_c s hs' u)
    have R0 := Lib.hid (fun u => rgetcell_c s hs' u)
    have P1 := Lib.hid (fun u => getpair_c s hs' u)
    have R1 := Lib.hid (fun u => rgetpair_c s hs' u)
    have P2 := Lib.hid (fun u => getedge_c s hs' u)
    have R2 := Lib.hid (fun u => rgetedge_c s hs' u)
    have P3 := Lib.hid (fun u => getdraw_c s hs' u)
    have R3 := Lib.hid (fun u => rgetdraw_c s hs' u)
    generalize gcellX s = x00 at P0 R0
    generalize gcellY s = x01 at P0 R0
    generalize gcellN s = x02 at P0 R0
    generalize gcellB s = b0 at P0 R0
    generalize gpairX s = x10 at P1 R1
    generalize gpairY s = x11 at P1 R1
    generalize gpairB s = b1 at P1 R1
    generalize gedgeF s = x20 at P2 R2
    generalize gedgeD s = x21 at P2 R2
    generalize gedgeI s = x22 at P2 R2
    generalize gedgeW s = x23 at P2 R2
    generalize gedgeB s = b2 at P2 R2
    generalize gdrawO s = x30 at P3 R3
    generalize gdrawK s = x31 at P3 R3
    generalize gdrawL s = x32 at P3 R3
    generalize gdrawI s = x33 at P3 R3
    generalize gdrawB s = b3 at P3 R3
    have q0 : (b0 == b0) = true := by simp
    have q1 : (b1 == b1) = true := by simp
    have q2 : (b2 == b2) = true := by simp
    have q3 : (b3 == b3) = true := by simp
    have e0 := place_eq x00 x01
    have e1 := pair_eq x10 x11
    have e2 := edge_eq x20 x21 x22 x23
    have i0 : (x02 == x02) = true := by simp
    have i30 : (x30 == x30) = true := by simp
    have i31 : (x31 == x31) = true := by simp
    have i32 : (x32 == x32) = true := by simp
    have i33 : (x33 == x33) = true := by simp
    clear hs hs'
    go_enter Try.func4, Try.ntmps4
    go_wp2_with fail
    refine (P0.out _).mono ?_; rintro e u0 ⟨rfl, h0⟩
    have g0 : Gr w u0 := h0
    have m0 : Two14 u0.heap.size 23 (.int .i64 x00) (.int .i64 x01) (u0.alloc (.cells #[.int .i64 x00, .int .i64 x01] 23)) := Two14.new _ _ _ _
    go_wp2_with fail
    refine (R0.out _).mono ?_; rintro e u1 ⟨rfl, h1⟩
    have g1 : Gr w u1 := g0.trans ((gral14 _ _).trans h1)
    replace m0 := m0.gr h1
    have m1 : Two14 u1.heap.size 23 (.int .i64 x00) (.int .i64 x01) (u1.alloc (.cells #[.int .i64 x00, .int .i64 x01] 23)) := Two14.new _ _ _ _
    go_wp2_with fail
    refine (P1.out _).mono ?_; rintro e u2 ⟨rfl, h2⟩
    have g2 : Gr w u2 := g1.trans ((gral14 _ _).trans h2)
    replace m0 := m0.gr ((gral14 _ _).trans h2)
    replace m1 := m1.gr h2
    have m2 : Two14 u2.heap.size 25 (.int .i64 x10) (.int .i64 x11) (u2.alloc (.cells #[.int .i64 x10, .int .i64 x11] 25)) := Two14.new _ _ _ _
    go_wp2_with fail
    refine (R1.out _).mono ?_; rintro e u3 ⟨rfl, h3⟩
    have g3 : Gr w u3 := g2.trans ((gral14 _ _).trans h3)
    replace m0 := m0.gr ((gral14 _ _).trans h3)
    replace m1 := m1.gr ((gral14 _ _).trans h3)
    replace m2 := m2.gr h3
    have m3 : Two14 u3.heap.size 25 (.int .i64 x10) (.int .i64 x11) (u3.alloc (.cells #[.int .i64 x10, .int .i64 x11] 25)) := Two14.new _ _ _ _
    go_wp2_with fail
    refine (P2.out _).mono ?_; rintro e u4 ⟨rfl, h4⟩
    have g4 : Gr w u4 := g3.trans ((gral14 _ _).trans h4)
    replace m0 := m0.gr ((gral14 _ _).trans h4)
    replace m1 := m1.gr ((gral14 _ _).trans h4)
    replace m2 := m2.gr ((gral14 _ _).trans h4)
    replace m3 := m3.gr h4
    have m4 : Four14 u4.heap.size 29 (.int .i64 x20) (.int .i64 x21) (.int .i64 x22) (.bool x23) (u4.alloc (.cells #[.int .i64 x20, .int .i64 x21, .int .i64 x22, .bool x23] 29)) := Four14.new _ _ _ _ _ _
    go_wp2_with fail
    refine (R2.out _).mono ?_; rintro e u5 ⟨rfl, h5⟩
    have g5 : Gr w u5 := g4.trans ((gral14 _ _).trans h5)
    replace m0 := m0.gr ((gral14 _ _).trans h5)
    replace m1 := m1.gr ((gral14 _ _).trans h5)
    replace m2 := m2.gr ((gral14 _ _).trans h5)
    replace m3 := m3.gr ((gral14 _ _).trans h5)
    replace m4 := m4.gr h5
    have m5 : Four14 u5.heap.size 29 (.int .i64 x20) (.int .i64 x21) (.int .i64 x22) (.bool x23) (u5.alloc (.cells #[.int .i64 x20, .int .i64 x21, .int .i64 x22, .bool x23] 29)) := Four14.new _ _ _ _ _ _
    go_wp2_with fail
    refine (P3.out _).mono ?_; rintro e u6 ⟨rfl, h6⟩
    have g6 : Gr w u6 := g5.trans ((gral14 _ _).trans h6)
    replace m0 := m0.gr ((gral14 _ _).trans h6)
    replace m1 := m1.gr ((gral14 _ _).trans h6)
    replace m2 := m2.gr ((gral14 _ _).trans h6)
    replace m3 := m3.gr ((gral14 _ _).trans h6)
    replace m4 := m4.gr ((gral14 _ _).trans h6)
    replace m5 := m5.gr h6
    have m6 : Four14 u6.heap.size 37 (.int .i64 x30) (.int .i64 x31) (.int .i64 x32) (.int .i64 x33) (u6.alloc (.cells #[.int .i64 x30, .int .i64 x31, .int .i64 x32, .int .i64 x33] 37)) := Four14.new _ _ _ _ _ _
    go_wp2_with fail
    refine (R3.out _).mono ?_; rintro e u7 ⟨rfl, h7⟩
    have g7 : Gr w u7 := g6.trans ((gral14 _ _).trans h7)
    replace m0 := m0.gr ((gral14 _ _).trans h7)
    replace m1 := m1.gr ((gral14 _ _).trans h7)
    replace m2 := m2.gr ((gral14 _ _).trans h7)
    replace m3 := m3.gr ((gral14 _ _).trans h7)
    replace m4 := m4.gr ((gral14 _ _).trans h7)
    replace m5 := m5.gr ((gral14 _ _).trans h7)
    replace m6 := m6.gr h7
    have l0 : u0.heap.size < u7.heap.size := lt_of_block m0
    obtain ⟨c00, c01⟩ := m0.at
    have l1 : u1.heap.size < u7.heap.size := lt_of_block m1
    obtain ⟨c10, c11⟩ := m1.at
    have l2 : u2.heap.size < u7.heap.size := lt_of_block m2
    obtain ⟨c20, c21⟩ := m2.at
    have l3 : u3.heap.size < u7.heap.size := lt_of_block m3
    obtain ⟨c30, c31⟩ := m3.at
    have l4 : u4.heap.size < u7.heap.size := lt_of_block m4
    obtain ⟨⟨c40, c41, c42, c43⟩, -⟩ := m4.at
    have l5 : u5.heap.size < u7.heap.size := lt_of_block m5
    obtain ⟨⟨c50, c51, c52, c53⟩, -⟩ := m5.at
    have l6 : u6.heap.size < u7.heap.size := lt_of_block m6
    obtain ⟨⟨c60, c61, c62, c63⟩, -⟩ := m6.at
    clear m0 m1 m2 m3 m4 m5 m6
    go_wp2_with fail
    refine (awake14_c _).mono ?_; rintro e u9 ⟨rfl, h9⟩
    go_wp2_with fail
    go_ret
    exact ⟨rfl, (g7.trans (gral14 _ _)).trans h9⟩
  · have t0 : (40 : Int) < s.size := by omega
    go_enter Try.func4, Try.ntmps4
    go_wp2_with fail
    refine (awake14_c _).mono ?_; rintro e u9 ⟨rfl, h9⟩
    go_wp2_with fail
    go_ret
    exact ⟨rfl, h9⟩

set_option maxRecDepth 100000 in
theorem lifted (os : Os) (started : os.Started) (H : Type) (enc : TypeId × Value → H) :
    ReturnsInHanded {} Try.checked os 4 .any (Rows.recGetsSpec.pre6 enc Try.prog Try.f4 Rows.recGetsRow.domain false) (Rows.recGetsSpec.post enc Try.prog Try.f4 false true false false) := by
  refine returnsInHanded_of_change (C := Try.checked) own started (by kernel_rfl) Try.func4
    (ChangeSpec.witness6 (enc := enc) (C := Try.checked) false ⟨#[], #[.string ByteArray.empty], []⟩ 8 (by kernel_rfl) (by kernel_rfl) (by kernel_rfl) (by kernel_rfl)) ?_
  intro W base args ds gs before hval0 hW hcnd _
  have hval : ∀ (j : Nat) t v, Try.f4.params[j]? = some t → args[j]? = some v → Value.okWide Try.prog W .any base t v := hval0
  have hW' := hW
  obtain ⟨p, q, hA0, hV, rfl, hfz, hnd⟩ := hW
  have hA : DataW.TrodAll enc Try.prog W 0 (fun _ => true) true Try.f4.params.toList args.toList ds p := hA0
  rw [Try.params4] at hA hval
  obtain ⟨v0, vs0, d0, ds0, p0, q0, hargs, rfl, rfl, h0, r0⟩ := trodAll_cons hA
  obtain ⟨rfl, rfl, rfl⟩ := trodAll_nil r0
  obtain rfl : args = #[v0] := by cases args; simp_all
  obtain ⟨rfl, rfl⟩ := trodVars_none hV
  have k0 := h0
  have lt0 : ∀ x ∈ p0, x.block < W.heap.size := by obtain ⟨m, hm⟩ := k0; exact DataW.trod_lt m _ _ _ hm
  obtain ⟨n0, e0⟩ := okWide_string Try.underlying9 (hval 0 9 v0 rfl rfl)
  have w0 : Rd Try.prog W 9 v0 := by
    obtain ⟨fuel, hf⟩ := h0
    subst e0
    exact ⟨H, enc, fuel, _, by simpa [Value.cells] using hf⟩
  clear hA0 hval0
  refine (walk v0 W w0).mono fun e W' ⟨he, bel⟩ => ?_
  subst he
  exact ⟨_, rfl, _, _, _, [], _, [], hW', trodAll_mk1 (shut_bool Try.underlying4 _), (trodAll_cons_mk (Below.trod laidOut (by kernel_rfl) (of_decide_eq_true (by kernel_rfl)) k0 bel lt0) trodAll_mk0), rfl, bel.frame _, fun h => by cases h⟩

theorem over : Rows.recGetsRow.holds Try.pinned (OpenSpec.ofChange Rows.recGetsSpec) :=
  OpenClaim.holds_of_wide 4 Try.f4 rfl rfl rfl rfl rfl rfl rfl ⟨rfl, rfl, rfl, rfl, rfl⟩ rfl rfl rfl rfl rfl (by kernel_rfl) Try.func4 (by kernel_rfl)
    (of_decide_eq_true (by kernel_rfl)) (by unfold Func.isWrapper; first | (rw [if_pos (by decide +kernel)]; kernel_rfl) | (rw [if_neg (by decide +kernel)]; exact ⟨rfl, rfl⟩))
    (fun os started H enc _ => lifted os started H enc)

theorem proved : Rows.RecGetsSaid := over
#print axioms proved
end Go.Proofs.Ytnmddnhllfojeaa.recGets
