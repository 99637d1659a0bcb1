/- Rows.FsNobodySaid holds: for every input the law returns true and leaves its arguments as they were. Conditions: none beside the row's own. -/
import Derived.Test.YthmcmgbhjdfncaaRows
import Derived.WalkKit
import Derived.ProofKit
import Derived.OpenShut
import Derived.ShutString
import Derived.ChangeOld
import Derived.Below
import Derived.Test.YthmcmgbhjdfncaaArgs
import Derived.Test.YthmcmgbhjdfncaaFsAwake
namespace Go.Proofs.Ythmcmgbhjdfncaa.fsNobody
open Go.ChangeShapes Go.WideShapes Go.ChangeAt Go.RowKit
open Go.ChangeMaps (open_string shut_string)
open FsPlain
set_option linter.unusedVariables false
set_option linter.unusedSimpArgs false

theorem own : ownKnob Try.prog.godebug = none := by kernel_rfl
theorem laidOut : laidOutB Try.prog = true := by kernel_rfl


set_option maxRecDepth 100000 in
set_option maxHeartbeats 1000000 in
theorem walk (v0 : Value) (w : World) (w0 : RdAgg Try.prog w 42 v0) :
    Calls Try.prog 4 #[v0] w fun e w' => e = .returned (.bool true) ∧ Gr w w' := by
  obtain ⟨fs, cs, hu, rfl, hsz, hf⟩ := w0
  rw [Try.underlying42] at hu
  simp only [Option.some.injEq, TypeDesc.struct.injEq] at hu
  subst hu
  obtain ⟨l⟩ := cs
  match l, hsz with
  | [c0, c1, c2, c3, c4, c5, c6, c7], _ =>
    obtain ⟨d1, e1, r1⟩ := hf 1 _ rfl
    obtain ⟨d2, e2, r2⟩ := hf 2 _ rfl
    obtain ⟨d3, e3, r3⟩ := hf 3 _ rfl
    obtain ⟨d4, e4, r4⟩ := hf 4 _ rfl
    obtain ⟨d5, e5, r5⟩ := hf 5 _ rfl
    obtain ⟨d6, e6, r6⟩ := hf 6 _ rfl
    obtain ⟨d7, e7, r7⟩ := hf 7 _ rfl
    simp at e1 e2 e3 e4 e5 e6 e7
    subst e1 e2 e3 e4 e5 e6 e7
    obtain ⟨s1, rfl, hs1⟩ := rd_string Try.underlying9 r1
    obtain ⟨s2, rfl, hs2⟩ := rd_string Try.underlying9 r2
    obtain ⟨s3, rfl, hs3⟩ := rd_string Try.underlying9 r3
    obtain ⟨n4, rfl, _⟩ := rd_int Try.underlying3 r4
    obtain ⟨n5, rfl, _⟩ := rd_int Try.underlying3 r5
    obtain ⟨a6, p6, l6, rfl, _, _, _⟩ := rd_ints Try.underlying24 Try.underlying3 (by kernel_rfl) r6
    obtain ⟨n7, rfl, _⟩ := rd_int Try.underlying40 r7
    clear r1 r2 r3 r4 r5 r6 r7 hf
    go_enter Try.func4, Try.ntmps4
    go_wp2_with fail
    generalize hW : World.alloc (World.alloc (World.alloc w _) _) _ = W
    have hcell : ∀ j c, [c0, Value.string s1, .string s2, .string s3, .int .i64 n4, .int .i64 n5, .slice a6 l6.length p6, .int .u32 n7][j]? = some c → W.cell? ⟨w.heap.size, j, none⟩ = some c := by
      intro j c hj
      rw [← hW, World.cell?_alloc_lt _ _ _ (by simp; omega), World.cell?_alloc_lt _ _ _ (by simp), World.cell?_alloc_new]
      simpa using hj
    have d1 := hcell 1 _ rfl
    have d2 := hcell 2 _ rfl
    have d3 := hcell 3 _ rfl
    have d4 := hcell 4 _ rfl
    have d5 := hcell 5 _ rfl
    have d6 := hcell 6 _ rfl
    have d7 := hcell 7 _ rfl
    have hg : Gr w W := by rw [← hW]; exact ((((Below.refl _ _).alloc (Nat.le_refl _) _).alloc (by simp) _).alloc (by simp; omega) _)
    have hrow : ∀ k : Nat, k < 2 → ∃ v, W.cell? ⟨w.heap.size + 1 + 1, k, none⟩ = some v ∧ Nob v W := by
      intro k hk
      have hc1 : W.cell? ⟨w.heap.size + 1, 1, none⟩ = some (.map none) := by
        rw [← hW, World.cell?_alloc_lt _ _ _ (by simp)]; exact new_cell _ _ _ (by simp) 1
      have hsz : W.heap.size = w.heap.size + 3 := by rw [← hW]; simp
      rcases (show k = 0 ∨ k = 1 by omega) with rfl | rfl
      · refine ⟨.pointer none, ?_, .inl rfl⟩
        rw [← hW]; exact new_cell _ _ _ (by simp) 0
      · refine ⟨.pointer (some ⟨w.heap.size + 1, 0, none⟩), ?_, .inr ⟨_, rfl, by omega, hc1⟩⟩
        rw [← hW]; exact new_cell _ _ _ (by simp) 1
    have HG := Lib.hid hg
    have HROW := Lib.hid hrow
    clear hW hcell hg hrow
    go_loop [4] (fun i => ∃ k : Nat, k ≤ 2 ∧ i = .int .i64 k) (fun i => 2 - (intOf i).toNat)
    case atStart => exact ⟨0, by omega, rfl⟩
    case round =>
      obtain ⟨k, hk, rfl⟩ := hrel
      by_cases hlt : k < 2
      · obtain ⟨v, hv, hN⟩ := HROW.out k hlt
        have HN := Lib.hid hN
        clear hN
        go_wp2_with fail
        refine (arm_n v n4 W HN.out).mono ?_; rintro e w2 ⟨rfl, rfl⟩
        go_wp2_with fail
        refine (rise_n v a6 l6.length p6 W HN.out).mono ?_; rintro e w2 ⟨rfl, rfl⟩
        go_wp2_with fail
        refine (read_n v s1 n4 n5 W HN.out hs1).mono ?_; rintro e w2 ⟨rfl, rfl⟩
        go_wp2_with fail
        refine (size_n v s1 W HN.out hs1).mono ?_; rintro e w2 ⟨rfl, rfl⟩
        go_wp2_with fail
        refine (list_n v W HN.out).mono ?_; rintro e w2 ⟨rfl, rfl⟩
        go_wp2_with fail
        refine (create_n v s1 W HN.out hs1).mono ?_; rintro e w2 ⟨rfl, rfl⟩
        go_wp2_with fail
        refine (append_n v s1 s3 W HN.out hs1).mono ?_; rintro e w2 ⟨rfl, rfl⟩
        go_wp2_with fail
        refine (sync_n v s1 W HN.out hs1).mono ?_; rintro e w2 ⟨rfl, rfl⟩
        go_wp2_with fail
        refine (rename_n v s1 s2 W HN.out hs1 hs2).mono ?_; rintro e w2 ⟨rfl, rfl⟩
        go_wp2_with fail
        refine (remove_n v s1 W HN.out hs1).mono ?_; rintro e w2 ⟨rfl, rfl⟩
        go_wp2_with fail
        refine (turn_n v s1 n4 n7 W HN.out).mono ?_; rintro e w2 ⟨rfl, rfl⟩
        go_wp2_with fail
        refine (calls_n v W HN.out).mono ?_; rintro e w2 ⟨rfl, rfl⟩
        go_wp2_with fail
        refine (used_n v W HN.out).mono ?_; rintro e w2 ⟨rfl, rfl⟩
        go_wp2_with fail
        refine (clone_n v W HN.out).mono ?_; rintro e w2 ⟨rfl, rfl⟩
        go_wp2_with fail
        go_round
        case rel => exact ⟨k + 1, by omega, by go_num⟩
        case measure => simp [intOf]; omega
      · obtain rfl : k = 2 := by omega
        clear hk hlt
        rw [show ((2 : Nat) : Int) = 2 from rfl]
        go_wp2_with fail
        refine (awake_c _).mono ?_; rintro e w7 ⟨rfl, g7⟩
        go_wp2_with fail
        go_ret
        exact ⟨rfl, HG.out.trans g7⟩

set_option maxRecDepth 100000 in
theorem lifted (os : Os) (started : os.Started) (H : Type) (enc : TypeId × Value → H) :
    ReturnsInHanded {} Try.checked os 4 .any (Rows.fsNobodySpec.pre6 enc Try.prog Try.f4 Rows.fsNobodyRow.domain false) (Rows.fsNobodySpec.post enc Try.prog Try.f4 false true false false) := by
  refine returnsInHanded_of_change (C := Try.checked) own started (by kernel_rfl) Try.func4
    (ChangeSpec.witness6 (enc := enc) (C := Try.checked) false ⟨#[], #[.agg #[.int .i64 0, .string ByteArray.empty, .string ByteArray.empty, .string ByteArray.empty, .int .i64 0, .int .i64 0, .slice none 0 0, .int .u32 0]], []⟩ 8 (by kernel_rfl) (by kernel_rfl) (by kernel_rfl) (by kernel_rfl)) ?_
  intro W base args ds gs before hval0 hW hcnd _
  have hval : ∀ (j : Nat) t v, Try.f4.params[j]? = some t → args[j]? = some v → Value.okWide Try.prog W .any base t v := hval0
  have hW' := hW
  obtain ⟨p, q, hA0, hV, rfl, hfz, hnd⟩ := hW
  have hA : DataW.TrodAll enc Try.prog W 0 (fun _ => true) true Try.f4.params.toList args.toList ds p := hA0
  rw [Try.params4] at hA hval
  obtain ⟨v0, vs0, d0, ds0, p0, q0, hargs, rfl, rfl, h0, r0⟩ := trodAll_cons hA
  obtain ⟨rfl, rfl, rfl⟩ := trodAll_nil r0
  obtain rfl : args = #[v0] := by cases args; simp_all
  obtain ⟨rfl, rfl⟩ := trodVars_none hV
  have k0 := h0
  have lt0 : ∀ x ∈ p0, x.block < W.heap.size := by obtain ⟨m, hm⟩ := k0; exact DataW.trod_lt m _ _ _ hm
  have w0 : RdAgg Try.prog W 42 v0 := rd_agg Try.underlying42 (by kernel_rfl) (by kernel_rfl) (hval 0 42 v0 rfl rfl) h0
  clear hA0 hval0
  refine (walk v0 W w0).mono fun e W' ⟨he, bel⟩ => ?_
  subst he
  exact ⟨_, rfl, _, _, _, [], _, [], hW', trodAll_mk1 (shut_bool Try.underlying4 _), (trodAll_cons_mk (Below.trod laidOut (by kernel_rfl) (of_decide_eq_true (by kernel_rfl)) k0 bel lt0) trodAll_mk0), rfl, bel.frame _, fun h => by cases h⟩

theorem over : Rows.fsNobodyRow.holds Try.pinned (OpenSpec.ofChange Rows.fsNobodySpec) :=
  OpenClaim.holds_of_wide 4 Try.f4 rfl rfl rfl rfl rfl rfl rfl ⟨rfl, rfl, rfl, rfl, rfl⟩ rfl rfl rfl rfl rfl (by kernel_rfl) Try.func4 (by kernel_rfl)
    (of_decide_eq_true (by kernel_rfl)) (by unfold Func.isWrapper; first | (rw [if_pos (by decide +kernel)]; kernel_rfl) | (rw [if_neg (by decide +kernel)]; exact ⟨rfl, rfl⟩))
    (fun os started H enc _ => lifted os started H enc)

theorem proved : Rows.FsNobodySaid := over
#print axioms proved
end Go.Proofs.Ythmcmgbhjdfncaa.fsNobody
