/- Rows.OctetRowsSaid holds: for every input the law returns true and leaves its arguments as they were. Conditions: none beside the row's own. -/
import Derived.Test.YtlhoclpddkjdjaaRows
import Derived.WalkKit
import Derived.ProofKit
import Derived.OpenShut
import Derived.ShutString
import Derived.ChangeOld
import Derived.Below
import Derived.Test.YtlhoclpddkjdjaaOctRow
import Derived.Test.YtlhoclpddkjdjaaOctSame
import Derived.Test.YtlhoclpddkjdjaaOctAwake
namespace Go.Proofs.Ytlhoclpddkjdjaa.octetRows
open Go.ChangeShapes Go.WideShapes Go.ChangeAt Go.RowKit
open Go.ChangeMaps (open_string shut_string)
open OctPlain
set_option linter.unusedVariables false
set_option linter.unusedSimpArgs false

theorem own : ownKnob Try.prog.godebug = none := by kernel_rfl
theorem laidOut : laidOutB Try.prog = true := by kernel_rfl

def IsRow (k : IntKind) (w : World) (a : Option Addr) (len cap : Nat) (zs : List Int) : Prop :=
  (a = none ∧ len = 0 ∧ cap = 0 ∧ zs = []) ∨
  ∃ x, a = some x ∧ len ≤ cap ∧ cap ≤ maxLen ∧ zs.length = cap ∧ (∀ i, i < zs.length → w.cell? (x.add i) = some (.int k (zs.getD i 0))) ∧ ∀ n ∈ zs, (Lit.int k n).wf = true

set_option maxHeartbeats 1000000 in
theorem walk (a0 : Option Addr) (len0 cap0 : Nat) (z0 : List Int) (a1 : Int) (a2 : ByteArray) (w : World) (w0 : IsRow .i64 w a0 len0 cap0 z0) (w1 : (Lit.int .i64 a1).wf = true) (w2 : a2.size ≤ maxLen) :
    Calls Try.prog 4 #[.slice a0 len0 cap0, .int .i64 a1, .string a2] w fun e w' => e = .returned (.bool true) ∧ Gr w w' := by
  have b1 : I64 a1 := bounds_i64 w1
  unfold maxLen at w2
  clear w1
  by_cases hs : a2.size ≤ 100
  · by_cases hl : len0 ≤ 20
    · have hrow : ∃ zs : List Int, (∀ u, Gr w u → Calls Try.prog 15 #[.slice a0 len0 cap0, .int .i64 a1] u fun e w' => e = .returned (.tuple #[.string (rowS zs a1), .bool (rowB zs a1)]) ∧ Gr u w') ∧
          (∀ u, Gr w u → Calls Try.prog 16 #[.slice a0 len0 cap0, .int .i64 a1] u fun e w' => e = .returned (.tuple #[.string (rowS zs a1), .bool (rowB zs a1)]) ∧ Gr u w') := by
        by_cases h0 : len0 = 0
        · subst h0
          exact ⟨[], fun u _ => row_empty a0 cap0 a1 b1 u, fun u _ => rrow_empty a0 cap0 a1 b1 u⟩
        · rcases w0 with ⟨_, h, _, _⟩ | ⟨x, rfl, hle, hm, hz, hcell, hwz⟩
          · exact absurd h h0
          · obtain ⟨b, off, spot⟩ := x
            have hc := hcell 0 (by omega)
            have hspot : spot = none := by simpa [Addr.add] using World.cell?_spot hc
            subst hspot
            have hb : b < w.heap.size := by
              have := World.block_lt_of_cell? w _ hc
              simpa [Addr.add] using this
            have hg : ∀ j, j < (z0.take len0).length → (z0.take len0).getD j 0 = z0.getD j 0 := by
              intro j hj
              rw [List.length_take] at hj
              have hj' : j < len0 := by omega
              simp [List.getElem?_take, hj']
            have hcell2 : ∀ u, Gr w u → ∀ j, j < (z0.take len0).length → u.cell? ⟨b, off + j, none⟩ = some (.int .i64 ((z0.take len0).getD j 0)) := by
              intro u hu j hj
              rw [hg j hj, Below.cell hu (p := ⟨b, off + j, none⟩) hb]
              rw [List.length_take] at hj
              have := hcell j (by omega)
              have ea : Addr.add ⟨b, off, none⟩ j = ⟨b, off + j, none⟩ := by by_cases h : j = 0 <;> simp [Addr.add, h]
              rwa [ea] at this
            have hwf : ∀ n ∈ z0.take len0, I64 n := fun n hn => bounds_i64 (hwz n (List.mem_of_mem_take hn))
            have hlen : (z0.take len0).length = len0 := by rw [List.length_take]; omega
            exact ⟨z0.take len0, fun u hu => row_c b off len0 cap0 _ a1 b1 u hl hlen (Nat.lt_of_lt_of_le hb hu.size) (hcell2 u hu) hwf, fun u hu => rrow_c b off len0 cap0 _ a1 b1 u hl hlen (Nat.lt_of_lt_of_le hb hu.size) (hcell2 u hu) hwf⟩
      obtain ⟨zs, hr1, hr2⟩ := hrow
      have hr1' := Lib.hid hr1
      have hr2' := Lib.hid hr2
      clear w0 hr1 hr2
      go_enter Try.func4, Try.ntmps4
      go_wp2_with fail
      refine (hr1'.out _ (Gr.refl _)).mono ?_; rintro e u1 ⟨rfl, g1⟩
      go_wp2_with fail
      refine (hr2'.out _ g1).mono ?_; rintro e u2 ⟨rfl, g2⟩
      go_wp2_with fail
      refine (split_c a2 a1 b1 _ (by omega)).mono ?_; rintro e u3 ⟨v1, rfl, o1, g3⟩
      have o1' := Lib.hid o1
      clear o1
      go_wp2_with fail
      refine (rsplit_c a2 a1 b1 _ (by omega)).mono ?_; rintro e u4 ⟨v2, rfl, o2, g4⟩
      have o3 := Lib.hid (o1'.out.kept g4.grown (Classical.em _))
      have o2' := Lib.hid o2
      clear o2
      go_wp2_with fail
      refine (same_c _ (splL_le a2 a1 (by omega)) o3.out o2'.out).mono ?_; rintro e u5 ⟨rfl, g5⟩
      go_wp2_with fail
      refine (awake_c _).mono ?_; rintro e u6 ⟨rfl, g6⟩
      go_wp2_with fail
      go_ret
      exact ⟨rfl, ((((g1.trans g2).trans g3).trans g4).trans g5).trans g6⟩
    · clear w0
      go_enter Try.func4, Try.ntmps4
      go_wp2_with fail
      refine (awake_c _).mono ?_; rintro e u7 ⟨rfl, g7⟩
      go_wp2_with fail
      go_ret
      exact ⟨rfl, g7⟩
  · clear w0
    by_cases hl : len0 ≤ 20
    · go_enter Try.func4, Try.ntmps4
      go_wp2_with fail
      refine (awake_c _).mono ?_; rintro e u7 ⟨rfl, g7⟩
      go_wp2_with fail
      go_ret
      exact ⟨rfl, g7⟩
    · go_enter Try.func4, Try.ntmps4
      go_wp2_with fail
      refine (awake_c _).mono ?_; rintro e u7 ⟨rfl, g7⟩
      go_wp2_with fail
      go_ret
      exact ⟨rfl, g7⟩

set_option maxRecDepth 100000 in
theorem lifted (os : Os) (started : os.Started) (H : Type) (enc : TypeId × Value → H) :
    ReturnsInHanded {} Try.checked os 4 .any (Rows.octetRowsSpec.pre6 enc Try.prog Try.f4 Rows.octetRowsRow.domain false) (Rows.octetRowsSpec.post enc Try.prog Try.f4 false true false false) := by
  refine returnsInHanded_of_change (C := Try.checked) own started (by kernel_rfl) Try.func4
    (ChangeSpec.witness6 (enc := enc) (C := Try.checked) false ⟨#[], #[.slice none 0 0, .int .i64 0, .string ByteArray.empty], []⟩ 8 (by kernel_rfl) (by kernel_rfl) (by kernel_rfl) (by kernel_rfl)) ?_
  intro W base args ds gs before hval0 hW hcnd _
  have hval : ∀ (j : Nat) t v, Try.f4.params[j]? = some t → args[j]? = some v → Value.okWide Try.prog W .any base t v := hval0
  have hW' := hW
  obtain ⟨p, q, hA0, hV, rfl, hfz, hnd⟩ := hW
  have hA : DataW.TrodAll enc Try.prog W 0 (fun _ => true) true Try.f4.params.toList args.toList ds p := hA0
  rw [Try.params4] at hA hval
  obtain ⟨v0, vs0, d0, ds0, p0, q0, hargs, rfl, rfl, h0, r0⟩ := trodAll_cons hA
  obtain ⟨v1, vs1, d1, ds1, p1, q1, rfl, rfl, rfl, h1, r1⟩ := trodAll_cons r0
  obtain ⟨v2, vs2, d2, ds2, p2, q2, rfl, rfl, rfl, h2, r2⟩ := trodAll_cons r1
  obtain ⟨rfl, rfl, rfl⟩ := trodAll_nil r2
  obtain rfl : args = #[v0, v1, v2] := by cases args; simp_all
  obtain ⟨rfl, rfl⟩ := trodVars_none hV
  obtain ⟨a0, len0, cap0, rfl⟩ := okWide_slice Try.underlying30 (hval 0 30 v0 rfl rfl)
  have k0 := h0
  have lt0 : ∀ x ∈ p0, x.block < W.heap.size := by obtain ⟨m, hm⟩ := k0; exact DataW.trod_lt m _ _ _ hm
  obtain ⟨z0, w0⟩ : ∃ zs, IsRow .i64 W a0 len0 cap0 zs := by
    obtain ⟨fuel, hf⟩ := h0
    rcases open_ints Try.underlying30 Try.underlying3 (by kernel_rfl) hf with ⟨hcs, _⟩ | ⟨x, l, c, zs, hcs, _, hl, hm, hz, _, hcell, hwz⟩
    · simp [Value.cells] at hcs
      obtain ⟨rfl, rfl, rfl⟩ := hcs
      exact ⟨[], .inl ⟨rfl, rfl, rfl, rfl⟩⟩
    · simp [Value.cells] at hcs
      obtain ⟨rfl, rfl, rfl⟩ := hcs
      exact ⟨zs, .inr ⟨_, rfl, hl, hm, by simpa using hz, hcell, hwz⟩⟩
  obtain ⟨a1, rfl, rfl, rfl, w1⟩ := open_int Try.underlying3 (hval 1 3 v1 rfl rfl) h1
  obtain ⟨a2, rfl, rfl, rfl, w2⟩ := open_string Try.underlying9 (hval 2 9 v2 rfl rfl) h2
  clear hA0 hval0
  refine (walk a0 len0 cap0 z0 a1 a2 W w0 w1 w2).mono fun e W' ⟨he, bel⟩ => ?_
  subst he
  exact ⟨_, rfl, _, _, _, [], _, [], hW', trodAll_mk1 (shut_bool Try.underlying4 _), (trodAll_cons_mk (Below.trod laidOut (by kernel_rfl) (of_decide_eq_true (by kernel_rfl)) k0 bel lt0) (trodAll_cons_mk (shut_int Try.underlying3 w1) (trodAll_cons_mk (shut_string Try.underlying9 w2) trodAll_mk0))), rfl, bel.frame _, fun h => by cases h⟩

theorem over : Rows.octetRowsRow.holds Try.pinned (OpenSpec.ofChange Rows.octetRowsSpec) :=
  OpenClaim.holds_of_wide 4 Try.f4 rfl rfl rfl rfl rfl rfl rfl ⟨rfl, rfl, rfl, rfl, rfl⟩ rfl rfl rfl rfl rfl (by kernel_rfl) Try.func4 (by kernel_rfl)
    (of_decide_eq_true (by kernel_rfl)) (by unfold Func.isWrapper; first | (rw [if_pos (by decide +kernel)]; kernel_rfl) | (rw [if_neg (by decide +kernel)]; exact ⟨rfl, rfl⟩))
    (fun os started H enc _ => lifted os started H enc)

theorem proved : Rows.OctetRowsSaid := over
#print axioms proved
end Go.Proofs.Ytlhoclpddkjdjaa.octetRows
