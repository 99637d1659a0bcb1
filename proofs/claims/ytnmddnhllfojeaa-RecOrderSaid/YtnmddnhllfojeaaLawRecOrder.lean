/- Rows.RecOrderSaid holds: for every input the law returns true and leaves its arguments as they were. Conditions: none beside the row's own. -/
import Derived.Test.YtnmddnhllfojeaaRows
import Derived.WalkKit
import Derived.ProofKit
import Derived.OpenShut
import Derived.ShutString
import Derived.ChangeOld
import Derived.Below
import Derived.Test.YtnmddnhllfojeaaArgs
import Derived.Test.YtnmddnhllfojeaaRcAwake
import Derived.Test.YtnmddnhllfojeaaRcBack
namespace Go.Proofs.Ytnmddnhllfojeaa.recOrder
open Go.ChangeShapes Go.WideShapes Go.ChangeAt Go.RowKit
open Go.ChangeMaps (open_string shut_string)
open OctPlain RcPlain
set_option linter.unusedVariables false
set_option linter.unusedSimpArgs false

theorem own : ownKnob Try.prog.godebug = none := by kernel_rfl
theorem laidOut : laidOutB Try.prog = true := by kernel_rfl


set_option maxRecDepth 100000 in
set_option maxHeartbeats 4000000 in
theorem walk (v0 v1 v2 v3 v4 v5 : Value) (w : World) (w0 : RdAgg Try.prog w 23 v0) (w1 : RdAgg Try.prog w 23 v1) (w2 : RdAgg Try.prog w 25 v2) (w3 : RdAgg Try.prog w 25 v3) (w4 : RdS Try.prog w 29 v4) (w5 : RdS Try.prog w 29 v5) :
    Calls Try.prog 5 #[v0, v1, v2, v3, v4, v5] w fun e w' => e = .returned (.bool true) ∧ Gr w w' := by
  obtain ⟨px, py, rfl, hpx, hpy⟩ := place_in w0
  obtain ⟨qx, qy, rfl, hqx, hqy⟩ := place_in w1
  obtain ⟨a, b, rfl, ha, hb⟩ := pair_in w2
  obtain ⟨a', b', rfl, ha', hb'⟩ := pair_in w3
  obtain ⟨f, d, i, nw, rfl, hf, hd, hi⟩ := edge_in w4
  obtain ⟨f', d', i', nw', rfl, hf', hd', hi'⟩ := edge_in w5
  clear w0 w1 w2 w3 w4 w5
  have PC := Lib.hid (fun u => putcell_c px py a hpx hpy ha u)
  have PC' := Lib.hid (fun u => putcell_c qx qy a' hqx hqy ha' u)
  have PP := Lib.hid (fun u => putpair_c a b ha hb u)
  have PP' := Lib.hid (fun u => putpair_c a' b' ha' hb' u)
  have PE := Lib.hid (fun u => putedge_c f d i nw hf hd hi u)
  have PE' := Lib.hid (fun u => putedge_c f' d' i' nw' hf' hd' hi' u)
  have EL := Lib.hid (fun u => redgeless_c f d i nw f' d' i' nw' u)
  have GC := Lib.hid (fun (h : cellB px py a = true) (u : World) => (by
    obtain ⟨e1, e2, e3, e4, e5⟩ := cell_back hpx hpy h
    have := getcell_c (cellS px py a) (by omega) u
    rwa [e1, e2, e3, e4] at this :
    Calls Try.prog 16 #[.string (cellS px py a)] u fun e w' => e = .returned (.tuple #[.agg #[.int .i64 px, .int .i64 py], .int .i64 a, .bool true]) ∧ Gr u w'))
  have GP := Lib.hid (fun (h : pairB a b = true) (u : World) => (by
    obtain ⟨e1, e2, e3, e5⟩ := pair_backs h
    have := getpair_c (pairS a b) (by omega) u
    rwa [e1, e2, e3] at this :
    Calls Try.prog 18 #[.string (pairS a b)] u fun e w' => e = .returned (.tuple #[.agg #[.int .i64 a, .int .i64 b], .bool true]) ∧ Gr u w'))
  have GE := Lib.hid (fun (h : edgeB f d i = true) (u : World) => (by
    obtain ⟨e1, e2, e3, e4, e6, e5⟩ := edge_backs nw h
    have := getedge_c (edgeS f d i nw) (by omega) u
    rwa [e1, e2, e3, e4, e6] at this :
    Calls Try.prog 20 #[.string (edgeS f d i nw)] u fun e w' => e = .returned (.tuple #[.agg #[.int .i64 f, .int .i64 d, .int .i64 i, .bool nw], .bool true]) ∧ Gr u w'))
  have ZC := Lib.hid (fun (h : cellB px py a = true) => (by have := (cell_back hpx hpy h).2.2.2.2; simp; omega : (((cellS px py a).size : Int) != 12) = false))
  have ZP := Lib.hid (fun (h : pairB a b = true) => (by have := (pair_backs h).2.2.2; simp; omega : (((pairS a b).size : Int) != 8) = false))
  have ZE := Lib.hid (fun (h : edgeB f d i = true) => (by have := (edge_backs nw h).2.2.2.2.2; simp; omega : (((edgeS f d i nw).size : Int) != 17) = false))
  have LC := Lib.hid (fun (h : cellB px py a = true) (h' : cellB qx qy a' = true) => cell_less hpx hpy h hqx hqy h')
  have LP := Lib.hid (fun (h : pairB a b = true) (h' : pairB a' b' = true) => pair_less h h')
  have LE := Lib.hid (fun (h : edgeB f d i = true) (h' : edgeB f' d' i' = true) => edge_less nw nw' h h')
  unfold cellLess at LC
  unfold pairLess at LP
  generalize cellS px py a = s1 at PC GC ZC LC
  generalize cellB px py a = c1 at PC GC ZC LC
  generalize cellS qx qy a' = t1 at PC' LC
  generalize cellB qx qy a' = d1 at PC' LC
  generalize pairS a b = s2 at PP GP ZP LP
  generalize pairB a b = c2 at PP GP ZP LP
  generalize pairS a' b' = t2 at PP' LP
  generalize pairB a' b' = d2 at PP' LP
  generalize edgeS f d i nw = s3 at PE GE ZE LE
  generalize edgeB f d i = c3 at PE GE ZE LE
  generalize edgeS f' d' i' nw' = t3 at PE' LE
  generalize edgeB f' d' i' = d3 at PE' LE
  generalize edgeLess f d i nw f' d' i' nw' = L at EL LE
  clear hpx hpy hqx hqy ha hb ha' hb' hf hd hi hf' hd' hi'
  obtain ⟨W1, hW1⟩ : ∃ W1, W1 = w.alloc (.cells #[.int .i64 px, .int .i64 py] 23) := ⟨_, rfl⟩
  obtain ⟨W2, hW2⟩ : ∃ W2, W2 = W1.alloc (.cells #[.int .i64 qx, .int .i64 qy] 23) := ⟨_, rfl⟩
  obtain ⟨W3, hW3⟩ : ∃ W3, W3 = W2.alloc (.cells #[.int .i64 a, .int .i64 b] 25) := ⟨_, rfl⟩
  obtain ⟨W4, hW4⟩ : ∃ W4, W4 = W3.alloc (.cells #[.int .i64 a', .int .i64 b'] 25) := ⟨_, rfl⟩
  obtain ⟨W5, hW5⟩ : ∃ W5, W5 = W4.alloc (.cells #[.int .i64 f, .int .i64 d, .int .i64 i, .bool nw] 29) := ⟨_, rfl⟩
  obtain ⟨W6, hW6⟩ : ∃ W6, W6 = W5.alloc (.cells #[.int .i64 f', .int .i64 d', .int .i64 i', .bool nw'] 29) := ⟨_, rfl⟩
  have z1 : W1.heap.size = w.heap.size + 1 := by rw [hW1]; simp
  have z2 : W2.heap.size = w.heap.size + 1 + 1 := by rw [hW2]; simp [z1]
  have z3 : W3.heap.size = w.heap.size + 1 + 1 + 1 := by rw [hW3]; simp [z2]
  have z4 : W4.heap.size = w.heap.size + 1 + 1 + 1 + 1 := by rw [hW4]; simp [z3]
  have z5 : W5.heap.size = w.heap.size + 1 + 1 + 1 + 1 + 1 := by rw [hW5]; simp [z4]
  have g6 : Gr W6 W6 := Gr.refl _
  have g5 : Gr W5 W6 := Gr.trans (by rw [hW6]; exact gral14 _ _) g6
  have g4 : Gr W4 W6 := Gr.trans (by rw [hW5]; exact gral14 _ _) g5
  have g3 : Gr W3 W6 := Gr.trans (by rw [hW4]; exact gral14 _ _) g4
  have g2 : Gr W2 W6 := Gr.trans (by rw [hW3]; exact gral14 _ _) g3
  have g1 : Gr W1 W6 := Gr.trans (by rw [hW2]; exact gral14 _ _) g2
  have g0 : Gr w W6 := Gr.trans (by rw [hW1]; exact gral14 _ _) g1
  have m0 : Two14 (w.heap.size) 23 (.int .i64 px) (.int .i64 py) W6 := Two14.gr (by rw [hW1]; exact Two14.new _ _ _ _) g1
  have m1 : Two14 (w.heap.size + 1) 23 (.int .i64 qx) (.int .i64 qy) W6 := Two14.gr (by rw [hW2, ← z1]; exact Two14.new _ _ _ _) g2
  have m2 : Two14 (w.heap.size + 1 + 1) 25 (.int .i64 a) (.int .i64 b) W6 := Two14.gr (by rw [hW3, ← z2]; exact Two14.new _ _ _ _) g3
  have m3 : Two14 (w.heap.size + 1 + 1 + 1) 25 (.int .i64 a') (.int .i64 b') W6 := Two14.gr (by rw [hW4, ← z3]; exact Two14.new _ _ _ _) g4
  have m4 : Four14 (w.heap.size + 1 + 1 + 1 + 1) 29 (.int .i64 f) (.int .i64 d) (.int .i64 i) (.bool nw) W6 := Four14.gr (by rw [hW5, ← z4]; exact Four14.new _ _ _ _ _ _) g5
  have m5 : Four14 (w.heap.size + 1 + 1 + 1 + 1 + 1) 29 (.int .i64 f') (.int .i64 d') (.int .i64 i') (.bool nw') W6 := Four14.gr (by rw [hW6, ← z5]; exact Four14.new _ _ _ _ _ _) g6
  have M0 := Lib.hid (fun u (g : Gr W6 u) => (m0.gr g).at)
  have M1 := Lib.hid (fun u (g : Gr W6 u) => (m1.gr g).at)
  have M2 := Lib.hid (fun u (g : Gr W6 u) => (m2.gr g).at)
  have M3 := Lib.hid (fun u (g : Gr W6 u) => (m3.gr g).at)
  have M4 := Lib.hid (fun u (g : Gr W6 u) => (m4.gr g).at.1)
  have M5 := Lib.hid (fun u (g : Gr W6 u) => (m5.gr g).at.1)
  have hz6 : w.heap.size + 1 + 1 + 1 + 1 + 1 < W6.heap.size := lt_of_block m5
  have HZ6 := Lib.hid (fun u (g : Gr W6 u) => (show w.heap.size + 1 + 1 + 1 + 1 + 1 < u.heap.size from Nat.lt_of_lt_of_le hz6 g.size))
  rw [hW5, hW4, hW3, hW2, hW1] at hW6
  have HW := Lib.hid hW6
  clear hW6 hW5 hW4 hW3 hW2 hW1 m0 m1 m2 m3 m4 m5 z1 z2 z3 z4 z5 g1 g2 g3 g4 g5 g6 hz6
  have ne1 := place_neq px py
  have ne2 := pair_neq a b
  have ne3 := edge_neq f d i nw
  have ne4 : (a != a) = false := by simp
  go_enter Try.func5, Try.ntmps5
  go_wp2_with fail
  rw [← HW.out]
  refine (PC.out _).mono ?_; rintro e u1 ⟨rfl, h1⟩
  go_upto_if 39 with (fail)
  go_cut [] (fun wx => Gr W6 wx)
  case first =>
    as_aux_lemma =>
    cases c1
    · go_wp2_with fail
      go_meet
      exact h1
    · go_wp2_with fail
      refine (GC.out (by simp) _).mono ?_; rintro e v1 ⟨rfl, k1⟩
      have k1 := h1.trans k1
      have hz := HZ6.out _ k1
      have zf := ZC.out (by simp)
      have hz0 : w.heap.size < v1.heap.size := by omega
      have hz1 : w.heap.size + 1 < v1.heap.size := by omega
      have hz2 : w.heap.size + 1 + 1 < v1.heap.size := by omega
      have hz3 : w.heap.size + 1 + 1 + 1 < v1.heap.size := by omega
      obtain ⟨x0, x1⟩ := M0.out _ k1
      obtain ⟨y0, y1⟩ := M2.out _ k1
      obtain ⟨r0, r1⟩ := M1.out _ k1
      obtain ⟨t0, t1⟩ := M3.out _ k1
      go_wp2_with fail
      refine (PC'.out _).mono ?_; rintro e v2 ⟨rfl, k2⟩
      have k2 := (k1.trans (gral14 _ _)).trans k2
      clear x0 x1 r0 r1 hz
      obtain ⟨x0, x1⟩ := M0.out _ k2
      obtain ⟨r0, r1⟩ := M1.out _ k2
      obtain ⟨y0, y1⟩ := M2.out _ k2
      obtain ⟨t0, t1⟩ := M3.out _ k2
      cases d1
      · go_wp2_with fail
        go_meet
        exact k2
      · have hl := LC.out (by simp) (by simp)
        obtain ⟨n1, hn1⟩ : ∃ n1, decide (px < qx) = n1 := ⟨_, rfl⟩
        obtain ⟨n2, hn2⟩ : ∃ n2, (px == qx) = n2 := ⟨_, rfl⟩
        obtain ⟨n3, hn3⟩ : ∃ n3, decide (py < qy) = n3 := ⟨_, rfl⟩
        obtain ⟨n4, hn4⟩ : ∃ n4, (py == qy) = n4 := ⟨_, rfl⟩
        obtain ⟨n5, hn5⟩ : ∃ n5, decide (a < a') = n5 := ⟨_, rfl⟩
        rw [show decide (px = qx) = (px == qx) from rfl, show decide (py = qy) = (py == qy) from rfl, hn1, hn2, hn3, hn4, hn5] at hl
        cases n1
        · cases n2
          · rw [show (false || (false && (n3 || (n4 && n5)))) = false by rfl] at hl
            go_wp2_with fail
            go_meet
            exact k2
          · cases n3
            · cases n4
              · rw [show (false || (true && (false || (false && n5)))) = false by rfl] at hl
                go_wp2_with fail
                go_meet
                exact k2
              · rw [show (false || (true && (false || (true && n5)))) = n5 by cases n5 <;> rfl] at hl
                cases n5
                all_goals
                  go_wp2_with fail
                  go_meet
                  exact k2
            · rw [show (false || (true && (true || (n4 && n5)))) = true by rfl] at hl
              go_wp2_with fail
              go_meet
              exact k2
        · rw [show (true || (n2 && (n3 || (n4 && n5)))) = true by rfl] at hl
          go_wp2_with fail
          go_meet
          exact k2
  case rest =>
  have h2 := hcut
  clear hcut
  obtain ⟨x0, x1⟩ := M2.out _ h2
  go_wp2_with fail
  refine (PP.out _).mono ?_; rintro e u2 ⟨rfl, h3⟩
  have h3 := h2.trans h3
  clear x0 x1
  go_upto_if 116 with (fail)
  go_cut [] (fun wx => Gr W6 wx)
  case first =>
    as_aux_lemma =>
    cases c2
    · go_wp2_with fail
      go_meet
      exact h3
    · go_wp2_with fail
      refine (GP.out (by simp) _).mono ?_; rintro e v1 ⟨rfl, k1⟩
      have k1 := h3.trans k1
      have hz := HZ6.out _ k1
      have zf := ZP.out (by simp)
      have hz2 : w.heap.size + 1 + 1 < v1.heap.size := by omega
      have hz3 : w.heap.size + 1 + 1 + 1 < v1.heap.size := by omega
      obtain ⟨x0, x1⟩ := M2.out _ k1
      obtain ⟨r0, r1⟩ := M3.out _ k1
      go_wp2_with fail
      refine (PP'.out _).mono ?_; rintro e v2 ⟨rfl, k2⟩
      have k2 := (k1.trans (gral14 _ _)).trans k2
      clear x0 x1 r0 r1 hz
      obtain ⟨x0, x1⟩ := M2.out _ k2
      obtain ⟨r0, r1⟩ := M3.out _ k2
      cases d2
      · go_wp2_with fail
        go_meet
        exact k2
      · have hl := LP.out (by simp) (by simp)
        obtain ⟨n1, hn1⟩ : ∃ n1, decide (a < a') = n1 := ⟨_, rfl⟩
        obtain ⟨n2, hn2⟩ : ∃ n2, (a == a') = n2 := ⟨_, rfl⟩
        obtain ⟨n3, hn3⟩ : ∃ n3, decide (b < b') = n3 := ⟨_, rfl⟩
        rw [show decide (a = a') = (a == a') from rfl, hn1, hn2, hn3] at hl
        cases n1
        · cases n2
          · rw [show (false || (false && n3)) = false by rfl] at hl
            go_wp2_with fail
            go_meet
            exact k2
          · rw [show (false || (true && n3)) = n3 by cases n3 <;> rfl] at hl
            cases n3
            all_goals
              go_wp2_with fail
              go_meet
              exact k2
        · rw [show (true || (n2 && n3)) = true by rfl] at hl
          go_wp2_with fail
          go_meet
          exact k2
  case rest =>
  have h4 := hcut
  clear hcut
  obtain ⟨x0, x1, x2, x3⟩ := M4.out _ h4
  go_wp2_with fail
  refine (PE.out _).mono ?_; rintro e u3 ⟨rfl, h5⟩
  have h5 := h4.trans h5
  clear x0 x1 x2 x3
  go_upto_if 170 with (fail)
  go_cut [] (fun wx => Gr W6 wx)
  case first =>
    as_aux_lemma =>
    cases c3
    · go_wp2_with fail
      go_meet
      exact h5
    · go_wp2_with fail
      refine (GE.out (by simp) _).mono ?_; rintro e v1 ⟨rfl, k1⟩
      have k1 := h5.trans k1
      have hz := HZ6.out _ k1
      have zf := ZE.out (by simp)
      have hz4 : w.heap.size + 1 + 1 + 1 + 1 < v1.heap.size := by omega
      obtain ⟨x0, x1, x2, x3⟩ := M4.out _ k1
      obtain ⟨r0, r1, r2, r3⟩ := M5.out _ k1
      go_wp2_with fail
      refine (PE'.out _).mono ?_; rintro e v2 ⟨rfl, k2⟩
      have k2 := (k1.trans (gral14 _ _)).trans k2
      clear x0 x1 x2 x3 r0 r1 r2 r3 hz
      obtain ⟨x0, x1, x2, x3⟩ := M4.out _ k2
      obtain ⟨r0, r1, r2, r3⟩ := M5.out _ k2
      cases d3
      · go_wp2_with fail
        go_meet
        exact k2
      · have hl := LE.out (by simp) (by simp)
        go_wp2_with fail
        refine (EL.out _).mono ?_; rintro e v3 ⟨rfl, k3⟩
        cases L
        all_goals
          go_wp2_with fail
          go_meet
          exact k2.trans k3
  case rest =>
  have h6 := hcut
  clear hcut
  go_wp2_with fail
  refine (awake14_c _).mono ?_; rintro e u9 ⟨rfl, h9⟩
  go_wp2_with fail
  go_ret
  exact ⟨rfl, (g0.trans h6).trans h9⟩

set_option maxRecDepth 100000 in
theorem lifted (os : Os) (started : os.Started) (H : Type) (enc : TypeId × Value → H) :
    ReturnsInHanded {} Try.checked os 5 .any (Rows.recOrderSpec.pre6 enc Try.prog Try.f5 Rows.recOrderRow.domain false) (Rows.recOrderSpec.post enc Try.prog Try.f5 false true false false) := by
  refine returnsInHanded_of_change (C := Try.checked) own started (by kernel_rfl) Try.func5
    (ChangeSpec.witness6 (enc := enc) (C := Try.checked) false ⟨#[], #[.agg #[.int .i64 0, .int .i64 0], .agg #[.int .i64 0, .int .i64 0], .agg #[.int .i64 0, .int .i64 0], .agg #[.int .i64 0, .int .i64 0], .agg #[.int .i64 0, .int .i64 0, .int .i64 0, .bool false], .agg #[.int .i64 0, .int .i64 0, .int .i64 0, .bool false]], []⟩ 8 (by kernel_rfl) (by kernel_rfl) (by kernel_rfl) (by kernel_rfl)) ?_
  intro W base args ds gs before hval0 hW hcnd _
  have hval : ∀ (j : Nat) t v, Try.f5.params[j]? = some t → args[j]? = some v → Value.okWide Try.prog W .any base t v := hval0
  have hW' := hW
  obtain ⟨p, q, hA0, hV, rfl, hfz, hnd⟩ := hW
  have hA : DataW.TrodAll enc Try.prog W 0 (fun _ => true) true Try.f5.params.toList args.toList ds p := hA0
  rw [Try.params5] at hA hval
  obtain ⟨v0, vs0, d0, ds0, p0, q0, hargs, rfl, rfl, h0, r0⟩ := trodAll_cons hA
  obtain ⟨v1, vs1, d1, ds1, p1, q1, rfl, rfl, rfl, h1, r1⟩ := trodAll_cons r0
  obtain ⟨v2, vs2, d2, ds2, p2, q2, rfl, rfl, rfl, h2, r2⟩ := trodAll_cons r1
  obtain ⟨v3, vs3, d3, ds3, p3, q3, rfl, rfl, rfl, h3, r3⟩ := trodAll_cons r2
  obtain ⟨v4, vs4, d4, ds4, p4, q4, rfl, rfl, rfl, h4, r4⟩ := trodAll_cons r3
  obtain ⟨v5, vs5, d5, ds5, p5, q5, rfl, rfl, rfl, h5, r5⟩ := trodAll_cons r4
  obtain ⟨rfl, rfl, rfl⟩ := trodAll_nil r5
  obtain rfl : args = #[v0, v1, v2, v3, v4, v5] := by cases args; simp_all
  obtain ⟨rfl, rfl⟩ := trodVars_none hV
  have k0 := h0
  have lt0 : ∀ x ∈ p0, x.block < W.heap.size := by obtain ⟨m, hm⟩ := k0; exact DataW.trod_lt m _ _ _ hm
  have w0 : RdAgg Try.prog W 23 v0 := rd_agg Try.underlying23 (by kernel_rfl) (by kernel_rfl) (hval 0 23 v0 rfl rfl) h0
  have k1 := h1
  have lt1 : ∀ x ∈ p1, x.block < W.heap.size := by obtain ⟨m, hm⟩ := k1; exact DataW.trod_lt m _ _ _ hm
  have w1 : RdAgg Try.prog W 23 v1 := rd_agg Try.underlying23 (by kernel_rfl) (by kernel_rfl) (hval 1 23 v1 rfl rfl) h1
  have k2 := h2
  have lt2 : ∀ x ∈ p2, x.block < W.heap.size := by obtain ⟨m, hm⟩ := k2; exact DataW.trod_lt m _ _ _ hm
  have w2 : RdAgg Try.prog W 25 v2 := rd_agg Try.underlying25 (by kernel_rfl) (by kernel_rfl) (hval 2 25 v2 rfl rfl) h2
  have k3 := h3
  have lt3 : ∀ x ∈ p3, x.block < W.heap.size := by obtain ⟨m, hm⟩ := k3; exact DataW.trod_lt m _ _ _ hm
  have w3 : RdAgg Try.prog W 25 v3 := rd_agg Try.underlying25 (by kernel_rfl) (by kernel_rfl) (hval 3 25 v3 rfl rfl) h3
  have k4 := h4
  have lt4 : ∀ x ∈ p4, x.block < W.heap.size := by obtain ⟨m, hm⟩ := k4; exact DataW.trod_lt m _ _ _ hm
  have w4 : RdS Try.prog W 29 v4 := rd_s Try.underlying29 (hval 4 29 v4 rfl rfl) h4
  have k5 := h5
  have lt5 : ∀ x ∈ p5, x.block < W.heap.size := by obtain ⟨m, hm⟩ := k5; exact DataW.trod_lt m _ _ _ hm
  have w5 : RdS Try.prog W 29 v5 := rd_s Try.underlying29 (hval 5 29 v5 rfl rfl) h5
  clear hA0 hval0
  refine (walk v0 v1 v2 v3 v4 v5 W w0 w1 w2 w3 w4 w5).mono fun e W' ⟨he, bel⟩ => ?_
  subst he
  exact ⟨_, rfl, _, _, _, [], _, [], hW', trodAll_mk1 (shut_bool Try.underlying4 _), (trodAll_cons_mk (Below.trod laidOut (by kernel_rfl) (of_decide_eq_true (by kernel_rfl)) k0 bel lt0) (trodAll_cons_mk (Below.trod laidOut (by kernel_rfl) (of_decide_eq_true (by kernel_rfl)) k1 bel lt1) (trodAll_cons_mk (Below.trod laidOut (by kernel_rfl) (of_decide_eq_true (by kernel_rfl)) k2 bel lt2) (trodAll_cons_mk (Below.trod laidOut (by kernel_rfl) (of_decide_eq_true (by kernel_rfl)) k3 bel lt3) (trodAll_cons_mk (Below.trod laidOut (by kernel_rfl) (of_decide_eq_true (by kernel_rfl)) k4 bel lt4) (trodAll_cons_mk (Below.trod laidOut (by kernel_rfl) (of_decide_eq_true (by kernel_rfl)) k5 bel lt5) trodAll_mk0)))))), rfl, bel.frame _, fun h => by cases h⟩

theorem over : Rows.recOrderRow.holds Try.pinned (OpenSpec.ofChange Rows.recOrderSpec) :=
  OpenClaim.holds_of_wide 5 Try.f5 rfl rfl rfl rfl rfl rfl rfl ⟨rfl, rfl, rfl, rfl, rfl⟩ rfl rfl rfl rfl rfl (by kernel_rfl) Try.func5 (by kernel_rfl)
    (of_decide_eq_true (by kernel_rfl)) (by unfold Func.isWrapper; first | (rw [if_pos (by decide +kernel)]; kernel_rfl) | (rw [if_neg (by decide +kernel)]; exact ⟨rfl, rfl⟩))
    (fun os started H enc _ => lifted os started H enc)

theorem proved : Rows.RecOrderSaid := over
#print axioms proved
end Go.Proofs.Ytnmddnhllfojeaa.recOrder
