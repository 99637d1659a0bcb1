/- Contracts of Get in every case, and of GetCoord on both sides. -/
import Derived.Test.YtnmddnhllfojeaaOctGet
import Derived.Test.YtnmddnhllfojeaaOctRget
namespace Go.Proofs.Ytnmddnhllfojeaa
open Go.RowKit OctPlain
set_option linter.unusedVariables false
set_option linter.unusedSimpArgs false
set_option maxRecDepth 20000
set_option maxHeartbeats 1000000 in
theorem get_no (s : ByteArray) (a k : Int) (ha : I64 a) (hk : I64 k) (w : World) (hs : s.size ≤ 100000) (h : ¬ ((1 ≤ k ∧ k ≤ 8) ∧ 0 ≤ a ∧ a + k ≤ s.size)) :
    Calls Try.prog 45 #[.string s, .int .i64 a, .int .i64 k] w fun e w' => e = .returned (.tuple #[.int .i64 (getN s a k), .bool (getB s a k)]) ∧ w = w' := by
  have hk' := hk
  unfold I64 at ha hk'
  have hb : getB s a k = false := getB_no h
  have hn : getN s a k = 0 := getN_no hb
  by_cases k1 : 1 ≤ k ∧ k ≤ 8
  · have hd : decide (1 ≤ k ∧ k ≤ 8) = true := by simpa using k1
    by_cases k3 : a < 0
    · go_enter Try.func45, Try.ntmps45
      go_wp2_with fail
      refine (sized_c _ hk _).mono ?_
      rintro e u ⟨rfl, rfl⟩
      go_wp2_with fail
      go_ret2
      first | exact ⟨rfl, rfl⟩ | exact ⟨ret_ib hn.symm hb.symm, rfl⟩
    · have k5 : (s.size : Int) - k < a := by omega
      go_enter Try.func45, Try.ntmps45
      go_wp2_with fail
      refine (sized_c _ hk _).mono ?_
      rintro e u ⟨rfl, rfl⟩
      go_wp2_with fail
      go_ret2
      first | exact ⟨rfl, rfl⟩ | exact ⟨ret_ib hn.symm hb.symm, rfl⟩
  · have hd : decide (1 ≤ k ∧ k ≤ 8) = false := by simpa using k1
    go_enter Try.func45, Try.ntmps45
    go_wp2_with fail
    refine (sized_c _ hk _).mono ?_
    rintro e u ⟨rfl, rfl⟩
    go_wp2_with fail
    go_ret2
    first | exact ⟨rfl, rfl⟩ | exact ⟨ret_ib hn.symm hb.symm, rfl⟩
theorem get_c (s : ByteArray) (a k : Int) (ha : I64 a) (hk : I64 k) (w : World) (hs : s.size ≤ 100000) :
    Calls Try.prog 45 #[.string s, .int .i64 a, .int .i64 k] w fun e w' => e = .returned (.tuple #[.int .i64 (getN s a k), .bool (getB s a k)]) ∧ Gr w w' := by
  by_cases h : (1 ≤ k ∧ k ≤ 8) ∧ 0 ≤ a ∧ a + k ≤ s.size
  · obtain ⟨p, rfl⟩ : ∃ p : Nat, a = p := ⟨a.toNat, by omega⟩
    obtain ⟨q, rfl⟩ : ∃ q : Nat, k = q := ⟨k.toNat, by omega⟩
    exact get_yes s p q ha (by omega) (by omega) w hs
  · exact (get_no s a k ha hk w hs h).mono (fun e w' hh => ⟨hh.1, hh.2 ▸ Gr.refl _⟩)

def gcN (s : ByteArray) (a : Int) : Int := if getB s a 4 = true then wrap64 (getN s a 4 - 2147483648) else 0
set_option maxHeartbeats 1000000 in
theorem gcoord_c (s : ByteArray) (a : Int) (ha : I64 a) (w : World) (hs : s.size ≤ 100000) :
    Calls Try.prog 44 #[.string s, .int .i64 a] w fun e w' => e = .returned (.tuple #[.int .i64 (gcN s a), .bool (getB s a 4)]) ∧ Gr w w' := by
  cases hb : getB s a 4
  · have hn : gcN s a = 0 := by unfold gcN; rw [hb]; rfl
    go_enter Try.func44, Try.ntmps44
    go_wp2_with fail
    refine (get_c s a 4 ha ⟨by decide, by decide⟩ _ hs).mono ?_
    rintro e u ⟨rfl, g⟩
    go_wp2_with fail
    go_ret2
    first | exact ⟨rfl, g⟩ | exact ⟨ret_ib hn.symm rfl, g⟩
  · have hn : gcN s a = wrap64 (getN s a 4 - 2147483648) := by unfold gcN; rw [hb]; rfl
    go_enter Try.func44, Try.ntmps44
    go_wp2_with fail
    refine (get_c s a 4 ha ⟨by decide, by decide⟩ _ hs).mono ?_
    rintro e u ⟨rfl, g⟩
    go_wp2_with fail
    go_ret2
    first | exact ⟨rfl, g⟩ | exact ⟨ret_ib hn.symm rfl, g⟩
set_option maxHeartbeats 1000000 in
theorem rgcoord_c (s : ByteArray) (a : Int) (ha : I64 a) (w : World) (hs : s.size ≤ 1000) :
    Calls Try.prog 39 #[.string s, .int .i64 a] w fun e w' => e = .returned (.tuple #[.int .i64 (gcN s a), .bool (getB s a 4)]) ∧ w = w' := by
  cases hb : getB s a 4
  · have hn : gcN s a = 0 := by unfold gcN; rw [hb]; rfl
    go_enter Try.func39, Try.ntmps39
    go_wp2_with fail
    refine (rget_c s a 4 ha ⟨by decide, by decide⟩ _ hs).mono ?_
    rintro e u ⟨rfl, rfl⟩
    go_wp2_with fail
    go_ret2
    first | exact ⟨rfl, rfl⟩ | exact ⟨ret_ib hn.symm rfl, rfl⟩
  · have hn : gcN s a = wrap64 (getN s a 4 - 2147483648) := by unfold gcN; rw [hb]; rfl
    go_enter Try.func39, Try.ntmps39
    go_wp2_with fail
    refine (rget_c s a 4 ha ⟨by decide, by decide⟩ _ hs).mono ?_
    rintro e u ⟨rfl, rfl⟩
    go_wp2_with fail
    go_ret2
    first | exact ⟨rfl, rfl⟩ | exact ⟨ret_ib hn.symm rfl, rfl⟩
end Go.Proofs.Ytnmddnhllfojeaa
