/- Rows.RecfileBackSaid holds: for every input the law returns true and leaves its arguments as they were. Conditions: none beside the row's own. -/
import Derived.Test.YtckgdnaocmefjaaRows
import Derived.WalkKit
import Derived.ProofKit
import Derived.OpenShut
import Derived.ShutString
import Derived.ChangeOld
import Derived.Below
import Derived.Test.YtckgdnaocmefjaaArgs
import Derived.Test.YtckgdnaocmefjaaRecCut
namespace Go.Proofs.Ytckgdnaocmefjaa.recfileBack
open Go.ChangeShapes Go.WideShapes Go.ChangeAt Go.RowKit
open Go.ChangeMaps (open_string shut_string)
open CrcPlain OctPlain FramePlain RecPlain
set_option linter.unusedVariables false
set_option linter.unusedSimpArgs false

theorem own : ownKnob Try.prog.godebug = none := by kernel_rfl
theorem laidOut : laidOutB Try.prog = true := by kernel_rfl


set_option maxRecDepth 100000 in
set_option maxHeartbeats 4000000 in
theorem walk (v0 v1 v2 v3 : Value) (w : World) (w0 : Rd Try.prog w 3 v0) (w1 : Rd Try.prog w 22 v1) (w2 : Rd Try.prog w 40 v2) (w3 : Rd Try.prog w 9 v3) :
    Calls Try.prog 4 #[v0, v1, v2, v3] w fun e w' => e = .returned (.bool true) ∧ Gr w w' := by
  obtain ⟨size, rfl, hw0⟩ := rd_int Try.underlying3 w0
  have hk : I64 size := bounds_i64 hw0
  obtain ⟨l, hl, hlm, hls⟩ := lies_in Try.underlying22 w1
  obtain ⟨at_, rfl, hw2⟩ := rd_int Try.underlying40 w2
  obtain ⟨more, rfl, hsm⟩ := rd_string Try.underlying9 w3
  have b2 := bounds_u16 hw2
  obtain ⟨p, rfl⟩ : ∃ p : Nat, at_ = p := ⟨at_.toNat, by omega⟩
  clear w0 w1 w2 w3 hw0 hw2 hls
  unfold maxLen at hsm hlm
  have F := few6_c hl 30 (by omega) (by omega)
  have HL := Lib.hid (fun u (g : Gr w u) => hl.gr g)
  have HLV := Lib.hid hl
  obtain ⟨la, lc, rfl, -, -⟩ := hl
  cases hf : few6 l 30
  · rw [hf] at F
    clear hf
    go_enter Try.func4, Try.ntmps4
    go_wp2_with fail
    refine F.mono ?_; rintro e u ⟨rfl, rfl⟩
    go_wp2_with fail
    refine (awake6_c _).mono ?_; rintro e u7 ⟨rfl, g7⟩
    go_wp2_with fail
    go_ret
    exact ⟨rfl, g7⟩
  · by_cases hm : more.size ≤ 50
    · obtain ⟨hl30, hl80⟩ := few6_yes hf
      rw [hf] at F
      have t1 : decide ((50 : Int) < more.size) = false := by rw [decide_eq_false_iff_not]; omega
      have P := lay_c (HL.out w (Gr.refl _)) size hk (by omega) (fun s hs => by have := hl80 s hs; omega)
      cases hB : layB size l
      · rw [hB, layR_no hB] at P
        clear hf hl30 hl80 hB
        go_enter Try.func4, Try.ntmps4
        go_wp2_with fail
        refine F.mono ?_; rintro e u ⟨rfl, rfl⟩
        go_wp2_with fail
        refine P.mono ?_; rintro e u1 ⟨rfl, g1⟩
        go_wp2_with fail
        refine (awake6_c _).mono ?_; rintro e u7 ⟨rfl, g7⟩
        go_wp2_with fail
        go_ret
        exact ⟨rfl, g1.trans g7⟩
      · have hF := lay_file hB
        obtain ⟨hz1, hz2, hz3⟩ := lay_bound hB hl30
        rw [hB] at P
        obtain ⟨s, hs⟩ : ∃ s, s = layR size l := ⟨_, rfl⟩
        rw [← hs] at P hF hz1 hz2 hz3
        have P1 := fun u => parse_file hk (by omega) hF u
        obtain ⟨k, hk1, hk2⟩ : ∃ k : Nat, (p : Int) % (s.size : Int) = (k : Int) ∧ k < s.size := ⟨p % s.size, by omega, Nat.mod_lt _ (by omega)⟩
        have P2 := fun u => parse_none hk (s := s.extract 0 k) (by rw [ByteArray.size_extract]; omega) (cut_none hF hk2) u
        have hsl := slice_to s k (by omega)
        have LE := fun u => length_c size l.length hk (by unfold I64; omega) u
        rw [hz3] at LE
        have e0 : ((s.size : Int) == 0) = false := by rw [beq_eq_false_iff_ne]; omega
        have e1 : ((s.size : Int) != 0) = true := by rw [bne_iff_ne]; omega
        have e2 : ¬ (s.size : Int) = 0 := by omega
        have i1 : (s.size : Int) ≤ 2000 := by omega
        have i2 : 28 ≤ (s.size : Int) := by omega
        have i3 : (more.size : Int) ≤ 50 := by omega
        have i4 : (k : Int) < (s.size : Int) := by omega
        have HLL := Lib.hid hl30
        obtain ⟨n, hn⟩ : ∃ n, l.length = n := ⟨_, rfl⟩
        have SLL := Lib.hid (fun (u : World) (v : Value) (h1 : Lies u v l) (g : Gr w u) => same_lies (by omega) h1 (HL.out u g))
        by_cases hmz : more.size = 0
        · have hme := empty_of hmz
          subst hme
          have P3 := P1
          have hcat : s ++ ByteArray.mk #[] = s := app_none s
          clear hf hl80 hB hs hF hz1 hz2 hz3 hk2 hl30 hn hm hmz hsm hlm
          go_enter Try.func4, Try.ntmps4
          go_wp2_with fail
          refine F.mono ?_; rintro e u ⟨rfl, rfl⟩
          go_wp2_with fail
          refine P.mono ?_; rintro e u1 ⟨rfl, g1⟩
          go_wp2_with fail
          refine (P1 _).mono ?_; rintro e u2 ⟨v, rfl, o2, g2⟩
          have SL := SLL.out _ v (o2.gr (gral u2 (.cells #[.int .i64 (l.length : Nat), .int .u32 (sumN l : Nat)] 29))) ((g1.trans g2).trans (gral _ _))
          clear o2
          go_wp2_with fail
          refine SL.mono ?_; rintro e u3 ⟨rfl, g3⟩
          obtain ⟨x0, x1⟩ := (two_new _ _ _ _ g3).cells
          go_wp2_with fail
          refine (LE _).mono ?_; rintro e u ⟨rfl, rfl⟩
          go_wp2_with fail
          refine (P2 _).mono ?_; rintro e u4 ⟨rfl, g4⟩
          clear x0 x1
          go_wp2_with fail
          refine (P3 _).mono ?_; rintro e u5 ⟨v5, rfl, _, g5⟩
          go_wp2_with fail
          refine (awake6_c _).mono ?_; rintro e u7 ⟨rfl, g7⟩
          go_wp2_with fail
          go_ret
          exact ⟨rfl, (((((((g1.trans g2).trans (gral _ _)).trans g3).trans g4).trans (gral _ _)).trans g5).trans (gral _ _)).trans g7⟩
        · have P3 := fun u => parse_none hk (s := s ++ more) (by rw [ByteArray.size_append]; omega) (more_none hF hmz) u
          have n1 : (more.toList == []) = false := by
            have := eq_list (a := more) (b := ByteArray.mk #[])
            rw [decide_eq_false (fun e => hmz (by rw [e]; rfl))] at this
            rwa [Lib.toList_data (ByteArray.mk #[])] at this
          have n2 : more.toList ≠ [] := by simpa using n1
          have n3 : more.toList.isEmpty = false := by simpa [List.isEmpty_eq_false_iff] using n2
          have n4 : ¬ more = ⟨#[]⟩ := fun e => hmz (by rw [e]; rfl)
          clear hf hl80 hB hs hF hz1 hz2 hz3 hk2 hl30 hn hm hmz hsm hlm
          go_enter Try.func4, Try.ntmps4
          go_wp2_with fail
          refine F.mono ?_; rintro e u ⟨rfl, rfl⟩
          go_wp2_with fail
          refine P.mono ?_; rintro e u1 ⟨rfl, g1⟩
          go_wp2_with fail
          refine (P1 _).mono ?_; rintro e u2 ⟨v, rfl, o2, g2⟩
          have SL := SLL.out _ v (o2.gr (gral u2 (.cells #[.int .i64 (l.length : Nat), .int .u32 (sumN l : Nat)] 29))) ((g1.trans g2).trans (gral _ _))
          clear o2
          go_wp2_with fail
          refine SL.mono ?_; rintro e u3 ⟨rfl, g3⟩
          obtain ⟨x0, x1⟩ := (two_new _ _ _ _ g3).cells
          go_wp2_with fail
          refine (LE _).mono ?_; rintro e u ⟨rfl, rfl⟩
          go_wp2_with fail
          refine (P2 _).mono ?_; rintro e u4 ⟨rfl, g4⟩
          clear x0 x1
          go_wp2_with fail
          refine (P3 _).mono ?_; rintro e u5 ⟨rfl, g5⟩
          go_wp2_with fail
          refine (awake6_c _).mono ?_; rintro e u7 ⟨rfl, g7⟩
          go_wp2_with fail
          go_ret
          exact ⟨rfl, (((((((g1.trans g2).trans (gral _ _)).trans g3).trans g4).trans (gral _ _)).trans g5).trans (gral _ _)).trans g7⟩
    · rw [hf] at F
      have t1 : decide ((50 : Int) < more.size) = true := by rw [decide_eq_true_iff]; omega
      clear hf
      go_enter Try.func4, Try.ntmps4
      go_wp2_with fail
      refine F.mono ?_; rintro e u ⟨rfl, rfl⟩
      go_wp2_with fail
      refine (awake6_c _).mono ?_; rintro e u7 ⟨rfl, g7⟩
      go_wp2_with fail
      go_ret
      exact ⟨rfl, g7⟩

set_option maxRecDepth 100000 in
theorem lifted (os : Os) (started : os.Started) (H : Type) (enc : TypeId × Value → H) :
    ReturnsInHanded {} Try.checked os 4 .any (Rows.recfileBackSpec.pre6 enc Try.prog Try.f4 Rows.recfileBackRow.domain false) (Rows.recfileBackSpec.post enc Try.prog Try.f4 false true false false) := by
  refine returnsInHanded_of_change (C := Try.checked) own started (by kernel_rfl) Try.func4
    (ChangeSpec.witness6 (enc := enc) (C := Try.checked) false ⟨#[], #[.int .i64 0, .slice none 0 0, .int .u16 0, .string ByteArray.empty], []⟩ 8 (by kernel_rfl) (by kernel_rfl) (by kernel_rfl) (by kernel_rfl)) ?_
  intro W base args ds gs before hval0 hW hcnd _
  have hval : ∀ (j : Nat) t v, Try.f4.params[j]? = some t → args[j]? = some v → Value.okWide Try.prog W .any base t v := hval0
  have hW' := hW
  obtain ⟨p, q, hA0, hV, rfl, hfz, hnd⟩ := hW
  have hA : DataW.TrodAll enc Try.prog W 0 (fun _ => true) true Try.f4.params.toList args.toList ds p := hA0
  rw [Try.params4] at hA hval
  obtain ⟨v0, vs0, d0, ds0, p0, q0, hargs, rfl, rfl, h0, r0⟩ := trodAll_cons hA
  obtain ⟨v1, vs1, d1, ds1, p1, q1, rfl, rfl, rfl, h1, r1⟩ := trodAll_cons r0
  obtain ⟨v2, vs2, d2, ds2, p2, q2, rfl, rfl, rfl, h2, r2⟩ := trodAll_cons r1
  obtain ⟨v3, vs3, d3, ds3, p3, q3, rfl, rfl, rfl, h3, r3⟩ := trodAll_cons r2
  obtain ⟨rfl, rfl, rfl⟩ := trodAll_nil r3
  obtain rfl : args = #[v0, v1, v2, v3] := by cases args; simp_all
  obtain ⟨rfl, rfl⟩ := trodVars_none hV
  have k0 := h0
  have lt0 : ∀ x ∈ p0, x.block < W.heap.size := by obtain ⟨m, hm⟩ := k0; exact DataW.trod_lt m _ _ _ hm
  obtain ⟨n0, e0⟩ := okWide_int Try.underlying3 (hval 0 3 v0 rfl rfl)
  have w0 : Rd Try.prog W 3 v0 := by
    obtain ⟨fuel, hf⟩ := h0
    subst e0
    exact ⟨H, enc, fuel, _, by simpa [Value.cells] using hf⟩
  have k1 := h1
  have lt1 : ∀ x ∈ p1, x.block < W.heap.size := by obtain ⟨m, hm⟩ := k1; exact DataW.trod_lt m _ _ _ hm
  obtain ⟨a1, l1, c1, e1⟩ := okWide_slice Try.underlying22 (hval 1 22 v1 rfl rfl)
  have w1 : Rd Try.prog W 22 v1 := by
    obtain ⟨fuel, hf⟩ := h1
    subst e1
    exact ⟨H, enc, fuel, _, by simpa [Value.cells] using hf⟩
  have k2 := h2
  have lt2 : ∀ x ∈ p2, x.block < W.heap.size := by obtain ⟨m, hm⟩ := k2; exact DataW.trod_lt m _ _ _ hm
  obtain ⟨n2, e2⟩ := okWide_int Try.underlying40 (hval 2 40 v2 rfl rfl)
  have w2 : Rd Try.prog W 40 v2 := by
    obtain ⟨fuel, hf⟩ := h2
    subst e2
    exact ⟨H, enc, fuel, _, by simpa [Value.cells] using hf⟩
  have k3 := h3
  have lt3 : ∀ x ∈ p3, x.block < W.heap.size := by obtain ⟨m, hm⟩ := k3; exact DataW.trod_lt m _ _ _ hm
  obtain ⟨n3, e3⟩ := okWide_string Try.underlying9 (hval 3 9 v3 rfl rfl)
  have w3 : Rd Try.prog W 9 v3 := by
    obtain ⟨fuel, hf⟩ := h3
    subst e3
    exact ⟨H, enc, fuel, _, by simpa [Value.cells] using hf⟩
  clear hA0 hval0
  refine (walk v0 v1 v2 v3 W w0 w1 w2 w3).mono fun e W' ⟨he, bel⟩ => ?_
  subst he
  exact ⟨_, rfl, _, _, _, [], _, [], hW', trodAll_mk1 (shut_bool Try.underlying4 _), (trodAll_cons_mk (Below.trod laidOut (by kernel_rfl) (of_decide_eq_true (by kernel_rfl)) k0 bel lt0) (trodAll_cons_mk (Below.trod laidOut (by kernel_rfl) (of_decide_eq_true (by kernel_rfl)) k1 bel lt1) (trodAll_cons_mk (Below.trod laidOut (by kernel_rfl) (of_decide_eq_true (by kernel_rfl)) k2 bel lt2) (trodAll_cons_mk (Below.trod laidOut (by kernel_rfl) (of_decide_eq_true (by kernel_rfl)) k3 bel lt3) trodAll_mk0)))), rfl, bel.frame _, fun h => by cases h⟩

theorem over : Rows.recfileBackRow.holds Try.pinned (OpenSpec.ofChange Rows.recfileBackSpec) :=
  OpenClaim.holds_of_wide 4 Try.f4 rfl rfl rfl rfl rfl rfl rfl ⟨rfl, rfl, rfl, rfl, rfl⟩ rfl rfl rfl rfl rfl (by kernel_rfl) Try.func4 (by kernel_rfl)
    (of_decide_eq_true (by kernel_rfl)) (by unfold Func.isWrapper; first | (rw [if_pos (by decide +kernel)]; kernel_rfl) | (rw [if_neg (by decide +kernel)]; exact ⟨rfl, rfl⟩))
    (fun os started H enc _ => lifted os started H enc)

theorem proved : Rows.RecfileBackSaid := over
#print axioms proved
end Go.Proofs.Ytckgdnaocmefjaa.recfileBack
