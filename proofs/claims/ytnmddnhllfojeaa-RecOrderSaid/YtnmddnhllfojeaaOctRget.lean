/- Contracts of the document's Get. -/
import Derived.Test.YtnmddnhllfojeaaOctPut
import Derived.Test.YtnmddnhllfojeaaOctPlain2
import Derived.Lib.Hide
namespace Go.Proofs.Ytnmddnhllfojeaa
open Go.RowKit OctPlain
set_option linter.unusedVariables false
set_option linter.unusedSimpArgs false
set_option maxRecDepth 20000

def GetAt (s : ByteArray) (p k : Nat) (w : World) (n i : Value) (wr : World) : Prop :=
  ∃ j : Nat, wr = w ∧ j ≤ k ∧ i = .int .i64 j ∧ n = .int .i64 (num ((cutL s p k).take j) : Int) ∧ num ((cutL s p k).take j) < 9223372036854775808

theorem ret_ibr {a b : Int} {p q : Bool} (h : a = b) (k : p = q) : Ending.returned (.tuple #[.int .i64 a, .bool p]) = .returned (.tuple #[.int .i64 b, .bool q]) := by rw [h, k]
set_option maxHeartbeats 1000000 in
theorem rget_yes (s : ByteArray) (p k : Nat) (hk8 : 1 ≤ k ∧ k ≤ 8) (hp : p + k ≤ s.size) (w : World) (hs : s.size ≤ 1000) :
    Calls Try.prog 40 #[.string s, .int .i64 p, .int .i64 k] w fun e w' => e = .returned (.tuple #[.int .i64 (getN s p k), .bool (getB s p k)]) ∧ w = w' := by
  have hd : decide (s.size < p) = false := by simp; omega
  go_enter Try.func40, Try.ntmps40
  go_wp2_with fail
  go_loopw [8, 9] (fun n i wr => GetAt s p k w n i wr) (fun _ i _ => k - (intOf i).toNat)
  case atStart => exact ⟨0, rfl, by omega, rfl, rfl, by simp [num]⟩
  case round =>
    obtain ⟨j, rfl, hj, rfl, rfl, hlt⟩ := hrel
    by_cases hjk : j < k
    · have hstep := cutL_take s p k j hp hjk
      have hle := num_take_le (cutL s p k) j (by rw [cutL_length s p k hp]; exact hjk)
      have hnum := num_snoc ((cutL s p k).take j) (s[p + j]'(by omega))
      rw [← hstep] at hnum
      obtain ⟨m, hm⟩ : ∃ m : Int, m = num ((cutL s p k).take j) := ⟨_, rfl⟩
      have hm0 : 0 ≤ m := by omega
      have hm1 : m < 9223372036854775808 := by omega
      rw [← hm]
      by_cases hbig : 36028797018963968 ≤ m
      · have hb : getB s p k = false := getB_big (by omega)
        have hn : getN s p k = 0 := getN_no hb
        clear hm hlt hle hnum hstep
        go_wp2
        go_ret2
        first | exact ⟨rfl, rfl⟩ | exact ⟨ret_ibr hn.symm hb.symm, rfl⟩
      · have hx := (s[p + j]'(by omega)).toNat_lt
        have hval : wrap64 (m * 256 + wrap64 ((s[p + j]'(by omega)).toNat : Int)) = (num ((cutL s p k).take (j + 1)) : Int) := by
          rw [hnum]; unfold wrap64; omega
        have hval2 : num ((cutL s p k).take (j + 1)) < 9223372036854775808 := by omega
        have hh := Lib.hid (And.intro hval hval2)
        clear hm hlt hle hnum hstep hval hval2 hx
        go_wp2
        refine ⟨⟨j + 1, rfl, by omega, rfl, by rw [hh.out.1], hh.out.2⟩, ?_⟩
        simp [intOf]; omega
    · obtain rfl : k = j := by omega
      have ht : (cutL s p k).take k = cutL s p k := List.take_of_length_le (by rw [cutL_length s p k hp]; omega)
      rw [ht] at hlt ⊢
      have hb : getB s p k = true := getB_yes hk8 hp hlt
      have hn : getN s p k = num (cutL s p k) := getN_yes hb
      clear hlt ht
      obtain ⟨m, hm⟩ : ∃ m : Int, m = num (cutL s p k) := ⟨_, rfl⟩
      rw [← hm] at hn ⊢
      clear hm
      go_wp2
      go_ret2
      first | exact ⟨rfl, rfl⟩ | exact ⟨ret_ibr hn.symm hb.symm, rfl⟩

theorem rget_no (s : ByteArray) (a k : Int) (ha : I64 a) (hk : I64 k) (w : World) (hs : s.size ≤ 1000) (h : ¬ ((1 ≤ k ∧ k ≤ 8) ∧ 0 ≤ a ∧ a + k ≤ s.size)) :
    Calls Try.prog 40 #[.string s, .int .i64 a, .int .i64 k] w fun e w' => e = .returned (.tuple #[.int .i64 (getN s a k), .bool (getB s a k)]) ∧ w = w' := by
  unfold I64 at ha hk
  have hb : getB s a k = false := getB_no h
  have hn : getN s a k = 0 := getN_no hb
  by_cases k1 : k < 1
  · go_enter Try.func40, Try.ntmps40
    go_wp2_with fail
    go_ret2
    first | exact ⟨rfl, rfl⟩ | exact ⟨ret_ibr hn.symm hb.symm, rfl⟩
  · by_cases k2 : 8 < k
    · go_enter Try.func40, Try.ntmps40
      go_wp2_with fail
      go_ret2
      first | exact ⟨rfl, rfl⟩ | exact ⟨ret_ibr hn.symm hb.symm, rfl⟩
    · by_cases k3 : a < 0
      · go_enter Try.func40, Try.ntmps40
        go_wp2_with fail
        go_ret2
        first | exact ⟨rfl, rfl⟩ | exact ⟨ret_ibr hn.symm hb.symm, rfl⟩
      · by_cases k4 : (s.size : Int) < a
        · go_enter Try.func40, Try.ntmps40
          go_wp2_with fail
          go_ret2
          first | exact ⟨rfl, rfl⟩ | exact ⟨ret_ibr hn.symm hb.symm, rfl⟩
        · have k5 : (s.size : Int) - a < k := by omega
          go_enter Try.func40, Try.ntmps40
          go_wp2_with fail
          go_ret2
          first | exact ⟨rfl, rfl⟩ | exact ⟨ret_ibr hn.symm hb.symm, rfl⟩
theorem rget_c (s : ByteArray) (a k : Int) (ha : I64 a) (hk : I64 k) (w : World) (hs : s.size ≤ 1000) :
    Calls Try.prog 40 #[.string s, .int .i64 a, .int .i64 k] w fun e w' => e = .returned (.tuple #[.int .i64 (getN s a k), .bool (getB s a k)]) ∧ w = w' := by
  by_cases h : (1 ≤ k ∧ k ≤ 8) ∧ 0 ≤ a ∧ a + k ≤ s.size
  · obtain ⟨p, rfl⟩ : ∃ p : Nat, a = p := ⟨a.toNat, by omega⟩
    obtain ⟨q, rfl⟩ : ∃ q : Nat, k = q := ⟨k.toNat, by omega⟩
    exact rget_yes s p q (by omega) (by omega) w hs
  · exact rget_no s a k ha hk w hs h
end Go.Proofs.Ytnmddnhllfojeaa
