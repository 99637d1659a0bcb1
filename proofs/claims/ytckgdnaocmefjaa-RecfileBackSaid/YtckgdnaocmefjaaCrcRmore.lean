/- The contract of the document's own sum, bit by bit: by a walk of its text. -/
import Derived.Test.YtckgdnaocmefjaaCrcMore
namespace Go.Proofs.Ytckgdnaocmefjaa
open Go.RowKit CrcPlain
set_option linter.unusedVariables false
set_option linter.unusedSimpArgs false
theorem xnot2 (m : Nat) (h : m < 4294967296) : bits .xor .u32 (m : Int) 4294967295 = ((m ^^^ 4294967295 : Nat) : Int) := u32_xor_nat m 4294967295 h (by decide)
theorem bit_odd (m : Nat) (h : m < 4294967296) (ho : m % 2 = 1) : bits .xor .u32 ((m : Int) / 2) 3988292384 = ((st m : Nat) : Int) := by
  have e : ((m / 2 : Nat) : Int) = (m : Int) / 2 := by omega
  rw [← e]
  have := u32_xor_nat (m / 2) 3988292384 (by omega) (by decide)
  unfold st; rw [ho, Nat.one_mul]; exact this
theorem bit_even (m : Nat) (ho : m % 2 = 0) : ((m : Int) / 2) = ((st m : Nat) : Int) := by
  have e : ((m / 2 : Nat) : Int) = (m : Int) / 2 := by omega
  rw [← e]; unfold st; rw [ho, Nat.zero_mul, Nat.xor_zero]
theorem sts_next (j m : Nat) : sts (j + 1) m = st (sts j m) := sts_add j 1 m
set_option maxHeartbeats 1000000 in
theorem rmore_c (sum : Nat) (hsum : sum < 4294967296) (s : ByteArray) (hz : s.size ≤ 1000) (w : World) :
    Calls Try.prog 41 #[.int .u32 (sum : Int), .string s] w fun e w' => e = .returned (.int .u32 (more sum s.data.toList : Nat)) ∧ w = w' := by
  have hr0 := xor_lt hsum (b := 4294967295) (by decide)
  have hx0 := xnot2 sum hsum
  unfold more
  generalize sum ^^^ 4294967295 = r0 at hr0 hx0 ⊢
  go_enter Try.func41, Try.ntmps41
  go_wp2_with fail
  clear hx0
  go_loop [5, 6] (fun n i => ∃ k : Nat, k ≤ s.size ∧ i = .int .i64 k ∧ n = .int .u32 (reg r0 (s.data.toList.take k) : Nat)) (fun _ i => s.size - (intOf i).toNat)
  case atStart => exact ⟨0, Nat.zero_le _, rfl, rfl⟩
  case round =>
    obtain ⟨k, hk, rfl, rfl⟩ := hrel
    have hl := reg_lt hr0 (s.data.toList.take k)
    have hls := reg_lt hr0 s.data.toList
    by_cases hlt : k < s.size
    · obtain ⟨m, hm⟩ : ∃ m, m = reg r0 (s.data.toList.take k) := ⟨_, rfl⟩
      rw [← hm] at hl ⊢
      obtain ⟨m1, l1, q1, p1⟩ := byte_round m hl s[k]
      have hend : reg r0 (s.data.toList.take (k + 1)) = sts 8 m1 := by rw [take_snoc s k hlt, reg_snoc, ← hm, ← p1]
      have HE := Lib.hid hend
      clear hm p1 hend
      go_wp2_with fail
      go_loop [5, 7] (fun n i => ∃ j : Nat, j ≤ 8 ∧ i = .int .i64 j ∧ n = .int .u32 (sts j m1 : Nat)) (fun _ i => 8 - (intOf i).toNat)
      case atStart => exact ⟨0, Nat.zero_le _, rfl, rfl⟩
      case round =>
        obtain ⟨j, hj, rfl, rfl⟩ := hrel
        have ln := sts_lt j l1
        have hsn := sts_next j m1
        obtain ⟨n, hn⟩ : ∃ n, n = sts j m1 := ⟨_, rfl⟩
        rw [← hn] at ln hsn ⊢
        have HN := Lib.hid hn
        have HS := Lib.hid hsn
        clear hn hsn
        by_cases hj8 : j < 8
        · by_cases ho : n % 2 = 1
          · have q2 := bit_odd n ln ho
            have q3 : (n : Int) % 2 = 1 := by omega
            go_wp2_with fail
            go_round
            case rel => exact ⟨j + 1, by omega, by go_num, by rw [HS.out]⟩
            case measure => simp [intOf]; omega
          · have q2 := bit_even n (by omega)
            have q3 : (n : Int) % 2 = 0 := by omega
            go_wp2_with fail
            go_round
            case rel => exact ⟨j + 1, by omega, by go_num, by rw [HS.out]⟩
            case measure => simp [intOf]; omega
        · obtain rfl : j = 8 := by omega
          go_wp2_with fail
          go_round
          case rel => exact ⟨k + 1, by omega, by go_num, by rw [HE.out, HN.out]⟩
          case measure => simp [intOf]; omega
    · obtain rfl : k = s.size := by omega
      rw [List.take_of_length_le (by simp)] at hl ⊢
      have hx1 := xnot2 _ hls
      have HX := Lib.hid hx1
      clear hx1
      go_wp2_with fail
      go_ret
      exact ⟨ret_u (HX.out), rfl⟩
end Go.Proofs.Ytckgdnaocmefjaa
