/- Contracts of the document's Put, and of PutCoord on both sides. -/
import Derived.Test.YtnmddnhllfojeaaOctPut2
import Derived.Lib.Hide
namespace Go.Proofs.Ytnmddnhllfojeaa
open Go.RowKit OctPlain
set_option linter.unusedVariables false
set_option linter.unusedSimpArgs false
set_option maxRecDepth 20000

def PutAt (n k : Int) (B : Nat) (w : World) (v s i : Value) (wr : World) : Prop :=
  ∃ j : Nat, (j : Int) ≤ k ∧ i = .int .i64 j ∧ v = .int .i64 (n / 256 ^ j) ∧ s = .string (bs (beL j n.toNat)) ∧ Below B w wr

set_option maxHeartbeats 1000000 in
theorem rput_c (n k : Int) (hn : I64 n) (hk : I64 k) (w : World) :
    Calls Try.prog 43 #[.int .i64 n, .int .i64 k] w fun e w' => e = .returned (.tuple #[.string (putS n k), .bool (fitsB n k)]) ∧ Gr w w' := by
  unfold I64 at hn hk
  by_cases h : (1 ≤ k ∧ k ≤ 8) ∧ 0 ≤ n
  · obtain ⟨hk8, hn0⟩ := h
    go_enter Try.func43, Try.ntmps43
    go_wp2_with fail
    go_loopw [0, 6, 7] (fun v s i wr => PutAt n k w.heap.size w v s i wr) (fun _ _ i _ => (k - intOf i).toNat)
    case atStart => exact ⟨0, by omega, by simp, by simp, by simp [beL, bs], Below.refl _ _⟩
    case round =>
      obtain ⟨j, hj, rfl, rfl, rfl, hb⟩ := hrel
      have hm0 : 0 ≤ n / 256 ^ j := Int.ediv_nonneg hn0 (Int.pow_nonneg (by omega))
      have hm1 : n / 256 ^ j ≤ n := Int.ediv_le_self _ hn0
      have hstep : n / 256 ^ (j + 1) = n / 256 ^ j / 256 := by rw [Int.pow_succ, Int.ediv_ediv_of_nonneg (Int.pow_nonneg (by omega))]
      by_cases hlt : (j : Int) < k
      · obtain ⟨m, hm⟩ : ∃ m, m = n / 256 ^ j := ⟨_, rfl⟩
        rw [← hm] at hm0 hm1 hstep ⊢
        have hc := fun u => conv1 u (m % 256) (by omega) (by omega)
        have s1 : (bs [UInt8.ofNat (m % 256).toNat]).size = 1 := bs_size _
        have s2 : (bs (beL j n.toNat)).size = j := by rw [bs_size, beL_length]
        have hnew : bs [UInt8.ofNat (m % 256).toNat] ++ bs (beL j n.toNat) = bs (beL (j + 1) n.toNat) := by
          rw [bs_app, beL_top, hm]
          rw [dig_cast n hn0]
          rfl
        have hnew' := Lib.hid hnew
        clear hm hnew
        go_wp2
        refine ⟨⟨j + 1, by omega, rfl, by rw [hstep], by rw [hnew'.out], Below.alloc hb hb.size _⟩, ?_⟩
        simp [intOf]; omega
      · obtain rfl : k = j := by omega
        have hfit : fitsB n j = decide (n / 256 ^ j = 0) := fits_at hk8 hn0
        by_cases hz : 0 < n / 256 ^ j
        · have hf : fitsB n j = false := by rw [hfit]; simp; omega
          have hp := put_no hf
          clear hfit
          go_wp2
          go_ret2
          first | exact ⟨rfl, Gr.of hb⟩ | exact ⟨ret_sb hp.symm hf.symm, Gr.of hb⟩
        · have hf : fitsB n j = true := by rw [hfit]; simp; omega
          have hp : putS n j = bs (beL j n.toNat) := by simp [putS, hf]
          clear hfit
          go_wp2
          go_ret2
          first | exact ⟨rfl, Gr.of hb⟩ | exact ⟨ret_sb hp.symm hf.symm, Gr.of hb⟩
  · have hf : fitsB n k = false := by
      simp only [fitsB, decide_eq_false_iff_not]
      intro hh; exact h ⟨hh.1, hh.2.1⟩
    have hp := put_no hf
    by_cases k1 : k < 1
    · go_enter Try.func43, Try.ntmps43
      go_wp2
      go_ret2
      first | exact ⟨rfl, Gr.refl _⟩ | exact ⟨ret_sb hp.symm hf.symm, Gr.refl _⟩
    · by_cases k2 : 8 < k
      · go_enter Try.func43, Try.ntmps43
        go_wp2
        go_ret2
        first | exact ⟨rfl, Gr.refl _⟩ | exact ⟨ret_sb hp.symm hf.symm, Gr.refl _⟩
      · have k3 : n < 0 := by omega
        go_enter Try.func43, Try.ntmps43
        go_wp2
        go_ret2
        first | exact ⟨rfl, Gr.refl _⟩ | exact ⟨ret_sb hp.symm hf.symm, Gr.refl _⟩
theorem tup_sb {a b : ByteArray} {p q : Bool} (h : a = b) (k : p = q) : (Value.tuple #[.string a, .bool p]) = .tuple #[.string b, .bool q] := by rw [h, k]

def coordS (x : Int) : ByteArray := putS (wrap64 (x + 2147483648)) 4
def coordB (x : Int) : Bool := fitsB (wrap64 (x + 2147483648)) 4
set_option maxHeartbeats 1000000 in
theorem coord_c (x : Int) (hx : I64 x) (w : World) :
    Calls Try.prog 25 #[.int .i64 x] w fun e w' => e = .returned (.tuple #[.string (coordS x), .bool (coordB x)]) ∧ Gr w w' := by
  have hw : I64 (wrap64 (x + 2147483648)) := by unfold I64 wrap64; omega
  go_enter Try.func25, Try.ntmps25
  go_wp2_with fail
  refine (put_c _ 4 hw ⟨by decide, by decide⟩ _).mono ?_
  rintro e u ⟨rfl, g⟩
  go_wp2
  go_ret2
  exact ⟨rfl, g⟩

theorem coordB_no {x : Int} (hx : I64 x) (h : x < -2147483648 ∨ 2147483648 ≤ x) : coordB x = false := by
  unfold I64 at hx
  unfold coordB fitsB wrap64
  simp only [decide_eq_false_iff_not]
  have e : (256 : Int) ^ (4 : Int).toNat = 4294967296 := rfl
  rw [e]
  omega
theorem coordS_no {x : Int} (hx : I64 x) (h : x < -2147483648 ∨ 2147483648 ≤ x) : coordS x = ⟨#[]⟩ := put_no (coordB_no hx h)
theorem coordB_yes {x : Int} (h1 : -2147483648 ≤ x) (h2 : x < 2147483648) : coordB x = fitsB (x + 2147483648) 4 := by
  unfold coordB
  have : wrap64 (x + 2147483648) = x + 2147483648 := by unfold wrap64; omega
  rw [this]
theorem coordS_yes {x : Int} (h1 : -2147483648 ≤ x) (h2 : x < 2147483648) : coordS x = putS (x + 2147483648) 4 := by
  unfold coordS
  have : wrap64 (x + 2147483648) = x + 2147483648 := by unfold wrap64; omega
  rw [this]
set_option maxHeartbeats 1000000 in
theorem rcoord_c (x : Int) (hx : I64 x) (w : World) :
    Calls Try.prog 28 #[.int .i64 x] w fun e w' => e = .returned (.tuple #[.string (coordS x), .bool (coordB x)]) ∧ Gr w w' := by
  by_cases h1 : x < -2147483648
  · have hb := coordB_no hx (Or.inl h1)
    have hs := coordS_no hx (Or.inl h1)
    go_enter Try.func28, Try.ntmps28
    go_wp2
    go_ret2
    first | exact ⟨rfl, Gr.refl _⟩ | exact ⟨ret_sb hs.symm hb.symm, Gr.refl _⟩
  · by_cases h2 : 2147483648 ≤ x
    · have hb := coordB_no hx (Or.inr h2)
      have hs := coordS_no hx (Or.inr h2)
      go_enter Try.func28, Try.ntmps28
      go_wp2
      go_ret2
      first | exact ⟨rfl, Gr.refl _⟩ | exact ⟨ret_sb hs.symm hb.symm, Gr.refl _⟩
    · have hb := Lib.hid (coordB_yes (x := x) (by omega) (by omega))
      have hs := Lib.hid (coordS_yes (x := x) (by omega) (by omega))
      go_enter Try.func28, Try.ntmps28
      go_wp2_with fail
      refine (rput_c _ 4 (by unfold I64; omega) ⟨by decide, by decide⟩ _).mono ?_
      rintro e u ⟨rfl, g⟩
      go_wp2
      go_ret2
      exact ⟨ret_sb hs.out.symm hb.out.symm, g⟩
end Go.Proofs.Ytnmddnhllfojeaa
