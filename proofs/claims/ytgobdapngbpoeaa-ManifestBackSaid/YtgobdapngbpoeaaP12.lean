/- In one text: OctPut2, OctRput. -/
import Derived.Test.YtgobdapngbpoeaaP11
import Derived.Test.YtgobdapngbpoeaaP03
import Derived.Lib.Hide
/- Contracts of Put and PutCoord, and of the document's answers to them. -/
namespace Go.Proofs.Ytgobdapngbpoeaa
open Go.RowKit OctPlain
set_option linter.unusedVariables false
set_option linter.unusedSimpArgs false
set_option maxRecDepth 20000
theorem conv8 (u : World) (n : Int) (k : Nat) (hn : 0 ≤ n) (hk : 1 ≤ k ∧ k ≤ 8) :
    (convert 59 9 (.slice (some ⟨u.heap.size, 8 - k, none⟩) k k)).run Try.prog (u.alloc (.cells #[Value.int IntKind.u8 (n / 72057594037927936 % 256), Value.int IntKind.u8 (n / 281474976710656 % 256),
              Value.int IntKind.u8 (n / 1099511627776 % 256), Value.int IntKind.u8 (n / 4294967296 % 256),
              Value.int IntKind.u8 (n / 16777216 % 256), Value.int IntKind.u8 (n / 65536 % 256),
              Value.int IntKind.u8 (n / 256 % 256), Value.int IntKind.u8 (n % 256)] 76)) = .ok (.string (bs (beL k n.toNat))) (u.alloc (.cells #[Value.int IntKind.u8 (n / 72057594037927936 % 256), Value.int IntKind.u8 (n / 281474976710656 % 256),
              Value.int IntKind.u8 (n / 1099511627776 % 256), Value.int IntKind.u8 (n / 4294967296 % 256),
              Value.int IntKind.u8 (n / 16777216 % 256), Value.int IntKind.u8 (n / 65536 % 256),
              Value.int IntKind.u8 (n / 256 % 256), Value.int IntKind.u8 (n % 256)] 76)) := by
  obtain ⟨m, rfl⟩ : ∃ m : Nat, n = m := ⟨n.toNat, by omega⟩
  refine conv_list _ _ _ _ (beL_length k m) ?_
  intro j x hx
  have hj : j < k := by
    have := (List.getElem?_eq_some_iff.1 hx).1
    rw [beL_length] at this; exact this
  have ea : Addr.add ⟨u.heap.size, 8 - k, none⟩ j = ⟨u.heap.size, 8 - k + j, none⟩ := by simp [Addr.add]
  rw [ea, World.cell?_alloc_mark]
  have hk8 : k = 1 ∨ k = 2 ∨ k = 3 ∨ k = 4 ∨ k = 5 ∨ k = 6 ∨ k = 7 ∨ k = 8 := by omega
  rcases hk8 with rfl | rfl | rfl | rfl | rfl | rfl | rfl | rfl
  all_goals
    have hj8 : j = 0 ∨ j = 1 ∨ j = 2 ∨ j = 3 ∨ j = 4 ∨ j = 5 ∨ j = 6 ∨ j = 7 := by omega
    rcases hj8 with rfl | rfl | rfl | rfl | rfl | rfl | rfl | rfl <;> first | (exfalso; omega) | (simp [beL] at hx; subst hx; simp; done) | (simp [beL] at hx; subst hx; simp; omega)

def b1 (b : UInt8) : ByteArray := bs [b]
theorem conv1 (u : World) (x : Int) (h0 : 0 ≤ x) (h1 : x < 256) :
    (convert 59 9 (.slice (some ⟨u.heap.size, 0, none⟩) 1 1)).run Try.prog (u.alloc (.cells #[Value.int IntKind.u8 x] 5)) = .ok (.string (bs [UInt8.ofNat x.toNat])) (u.alloc (.cells #[Value.int IntKind.u8 x] 5)) := by
  refine conv_list _ _ _ _ rfl ?_
  intro j y hy
  obtain rfl : j = 0 := by
    have := (List.getElem?_eq_some_iff.1 hy).1
    simpa using this
  simp at hy
  subst hy
  show World.cell? _ ⟨u.heap.size, 0 + 0, none⟩ = _
  rw [World.cell?_alloc_mark]
  simp
  omega

set_option maxHeartbeats 1000000 in
theorem put_c (n k : Int) (hn : I64 n) (hk : I64 k) (w : World) :
    Calls Try.prog 47 #[.int .i64 n, .int .i64 k] w fun e w' => e = .returned (.tuple #[.string (putS n k), .bool (fitsB n k)]) ∧ Gr w w' := by
  cases hf : fitsB n k
  · have hp := put_no hf
    go_enter Try.func47, Try.ntmps47
    go_wp2_with fail
    refine (fits_c n k hn hk _).mono ?_
    rintro e u ⟨rfl, rfl⟩
    go_wp2
    go_ret2
    exact ⟨ret_sb hp.symm rfl, Gr.refl _⟩
  · have hf' := hf
    simp only [fitsB, decide_eq_true_eq] at hf'
    obtain ⟨hk8, hn0, _⟩ := hf'
    have hp : putS n k = bs (beL k.toNat n.toNat) := by simp [putS, hf]
    have hm : k = 1 ∨ k = 2 ∨ k = 3 ∨ k = 4 ∨ k = 5 ∨ k = 6 ∨ k = 7 ∨ k = 8 := by omega
    rcases hm with rfl | rfl | rfl | rfl | rfl | rfl | rfl | rfl
    case' inl => have hc := fun u => conv8 u n 1 hn0 (by omega)
    case' inr.inl => have hc := fun u => conv8 u n 2 hn0 (by omega)
    case' inr.inr.inl => have hc := fun u => conv8 u n 3 hn0 (by omega)
    case' inr.inr.inr.inl => have hc := fun u => conv8 u n 4 hn0 (by omega)
    case' inr.inr.inr.inr.inl => have hc := fun u => conv8 u n 5 hn0 (by omega)
    case' inr.inr.inr.inr.inr.inl => have hc := fun u => conv8 u n 6 hn0 (by omega)
    case' inr.inr.inr.inr.inr.inr.inl => have hc := fun u => conv8 u n 7 hn0 (by omega)
    case' inr.inr.inr.inr.inr.inr.inr => have hc := fun u => conv8 u n 8 hn0 (by omega)
    all_goals
      go_enter Try.func47, Try.ntmps47
      go_wp2_with fail
      refine (fits_c n _ hn hk _).mono ?_
      rintro e u ⟨rfl, rfl⟩
      go_wp2_with fail
      refine (full_c n hn _).mono ?_
      rintro e u ⟨rfl, g⟩
      go_wp2
      go_ret2
      exact ⟨ret_sb hp.symm rfl, g.trans (Gr.of (by go_grown))⟩
end Go.Proofs.Ytgobdapngbpoeaa
/- Contracts of the document's Put, and of PutCoord on both sides. -/
namespace Go.Proofs.Ytgobdapngbpoeaa
open Go.RowKit OctPlain
set_option linter.unusedVariables false
set_option linter.unusedSimpArgs false
set_option maxRecDepth 20000

def PutAt (n k : Int) (B : Nat) (w : World) (v s i : Value) (wr : World) : Prop :=
  ∃ j : Nat, (j : Int) ≤ k ∧ i = .int .i64 j ∧ v = .int .i64 (n / 256 ^ j) ∧ s = .string (bs (beL j n.toNat)) ∧ Below B w wr

set_option maxHeartbeats 1000000 in
theorem rput_c (n k : Int) (hn : I64 n) (hk : I64 k) (w : World) :
    Calls Try.prog 38 #[.int .i64 n, .int .i64 k] w fun e w' => e = .returned (.tuple #[.string (putS n k), .bool (fitsB n k)]) ∧ Gr w w' := by
  unfold I64 at hn hk
  by_cases h : (1 ≤ k ∧ k ≤ 8) ∧ 0 ≤ n
  · obtain ⟨hk8, hn0⟩ := h
    go_enter Try.func38, Try.ntmps38
    go_wp2_with fail
    go_loopw [0, 6, 7] (fun v s i wr => PutAt n k w.heap.size w v s i wr) (fun _ _ i _ => (k - intOf i).toNat)
    case atStart => exact ⟨0, by omega, by simp, by simp, by simp [beL, bs], Below.refl _ _⟩
    case round =>
      obtain ⟨j, hj, rfl, rfl, rfl, hb⟩ := hrel
      have hm0 : 0 ≤ n / 256 ^ j := Int.ediv_nonneg hn0 (Int.pow_nonneg (by omega))
      have hm1 : n / 256 ^ j ≤ n := Int.ediv_le_self _ hn0
      have hstep : n / 256 ^ (j + 1) = n / 256 ^ j / 256 := by rw [Int.pow_succ, Int.ediv_ediv_of_nonneg (Int.pow_nonneg (by omega))]
      by_cases hlt : (j : Int) < k
      · obtain ⟨m, hm⟩ : ∃ m, m = n / 256 ^ j := ⟨_, rfl⟩
        rw [← hm] at hm0 hm1 hstep ⊢
        have hc := fun u => conv1 u (m % 256) (by omega) (by omega)
        have s1 : (bs [UInt8.ofNat (m % 256).toNat]).size = 1 := bs_size _
        have s2 : (bs (beL j n.toNat)).size = j := by rw [bs_size, beL_length]
        have hnew : bs [UInt8.ofNat (m % 256).toNat] ++ bs (beL j n.toNat) = bs (beL (j + 1) n.toNat) := by
          rw [bs_app, beL_top, hm]
          rw [dig_cast n hn0]
          rfl
        have hnew' := Lib.hid hnew
        clear hm hnew
        go_wp2
        refine ⟨⟨j + 1, by omega, rfl, by rw [hstep], by rw [hnew'.out], Below.alloc hb hb.size _⟩, ?_⟩
        simp [intOf]; omega
      · obtain rfl : k = j := by omega
        have hfit : fitsB n j = decide (n / 256 ^ j = 0) := fits_at hk8 hn0
        by_cases hz : 0 < n / 256 ^ j
        · have hf : fitsB n j = false := by rw [hfit]; simp; omega
          have hp := put_no hf
          clear hfit
          go_wp2
          go_ret2
          first | exact ⟨rfl, Gr.of hb⟩ | exact ⟨ret_sb hp.symm hf.symm, Gr.of hb⟩
        · have hf : fitsB n j = true := by rw [hfit]; simp; omega
          have hp : putS n j = bs (beL j n.toNat) := by simp [putS, hf]
          clear hfit
          go_wp2
          go_ret2
          first | exact ⟨rfl, Gr.of hb⟩ | exact ⟨ret_sb hp.symm hf.symm, Gr.of hb⟩
  · have hf : fitsB n k = false := by
      simp only [fitsB, decide_eq_false_iff_not]
      intro hh; exact h ⟨hh.1, hh.2.1⟩
    have hp := put_no hf
    by_cases k1 : k < 1
    · go_enter Try.func38, Try.ntmps38
      go_wp2
      go_ret2
      first | exact ⟨rfl, Gr.refl _⟩ | exact ⟨ret_sb hp.symm hf.symm, Gr.refl _⟩
    · by_cases k2 : 8 < k
      · go_enter Try.func38, Try.ntmps38
        go_wp2
        go_ret2
        first | exact ⟨rfl, Gr.refl _⟩ | exact ⟨ret_sb hp.symm hf.symm, Gr.refl _⟩
      · have k3 : n < 0 := by omega
        go_enter Try.func38, Try.ntmps38
        go_wp2
        go_ret2
        first | exact ⟨rfl, Gr.refl _⟩ | exact ⟨ret_sb hp.symm hf.symm, Gr.refl _⟩
theorem tup_sb {a b : ByteArray} {p q : Bool} (h : a = b) (k : p = q) : (Value.tuple #[.string a, .bool p]) = .tuple #[.string b, .bool q] := by rw [h, k]

def coordS (x : Int) : ByteArray := putS (wrap64 (x + 2147483648)) 4
def coordB (x : Int) : Bool := fitsB (wrap64 (x + 2147483648)) 4
theorem coordB_no {x : Int} (hx : I64 x) (h : x < -2147483648 ∨ 2147483648 ≤ x) : coordB x = false := by
  unfold I64 at hx
  unfold coordB fitsB wrap64
  simp only [decide_eq_false_iff_not]
  have e : (256 : Int) ^ (4 : Int).toNat = 4294967296 := rfl
  rw [e]
  omega
theorem coordS_no {x : Int} (hx : I64 x) (h : x < -2147483648 ∨ 2147483648 ≤ x) : coordS x = ⟨#[]⟩ := put_no (coordB_no hx h)
theorem coordB_yes {x : Int} (h1 : -2147483648 ≤ x) (h2 : x < 2147483648) : coordB x = fitsB (x + 2147483648) 4 := by
  unfold coordB
  have : wrap64 (x + 2147483648) = x + 2147483648 := by unfold wrap64; omega
  rw [this]
theorem coordS_yes {x : Int} (h1 : -2147483648 ≤ x) (h2 : x < 2147483648) : coordS x = putS (x + 2147483648) 4 := by
  unfold coordS
  have : wrap64 (x + 2147483648) = x + 2147483648 := by unfold wrap64; omega
  rw [this]
end Go.Proofs.Ytgobdapngbpoeaa
