/- In one text: OctPlain2, OctRget, OctGets, Conv, OctPut2. -/
import Derived.Test.YtibajmjplpnbmaaP21
import Derived.Lib.Hide
import Derived.Test.YtibajmjplpnbmaaP22
import Derived.Test.YtibajmjplpnbmaaP00
import Derived.Laws.IdiomStrings
/- Plain facts on the number of some bytes of a text. -/
namespace Go.Proofs.Ytibajmjplpnbmaa
namespace OctPlain
theorem cutL_take (s : ByteArray) (a k j : Nat) (h : a + k ≤ s.size) (hj : j < k) : (cutL s a k).take (j + 1) = (cutL s a k).take j ++ [s[a + j]'(by omega)] := by
  have hl := cutL_length s a k h
  rw [List.take_succ_eq_append_getElem (by omega)]
  congr 2
  simp only [cutL, List.getElem_take, List.getElem_drop, Array.getElem_toList]
  rfl

theorem num_take_le (l : List UInt8) (j : Nat) (h : j < l.length) : num (l.take j) * 256 ≤ num l := by
  have h1 := num_app (l.take j) (l.drop j)
  rw [List.take_append_drop, List.length_drop] at h1
  have h2 : 256 ^ 1 ≤ 256 ^ (l.length - j) := Nat.pow_le_pow_right (by omega) (by omega)
  have h3 := Nat.mul_le_mul_left (num (l.take j)) h2
  omega

theorem getB_no {s : ByteArray} {a k : Int} (h : ¬ ((1 ≤ k ∧ k ≤ 8) ∧ 0 ≤ a ∧ a + k ≤ s.size)) : getB s a k = false := by
  unfold getB
  rw [decide_eq_false_iff_not]
  intro hh; exact h ⟨hh.1, hh.2.1, hh.2.2.1⟩
theorem getN_no {s : ByteArray} {a k : Int} (h : getB s a k = false) : getN s a k = 0 := by
  unfold getN; rw [h]; rfl
theorem getB_big {s : ByteArray} {p k : Nat} (h : 9223372036854775808 ≤ num (cutL s p k)) : getB s p k = false := by
  unfold getB
  rw [decide_eq_false_iff_not, Int.toNat_natCast, Int.toNat_natCast]
  omega
theorem getB_yes {s : ByteArray} {p k : Nat} (hk : 1 ≤ k ∧ k ≤ 8) (hp : p + k ≤ s.size) (h : num (cutL s p k) < 9223372036854775808) : getB s p k = true := by
  unfold getB
  rw [decide_eq_true_iff, Int.toNat_natCast, Int.toNat_natCast]
  omega
theorem getN_yes {s : ByteArray} {p k : Nat} (h : getB s p k = true) : getN s p k = num (cutL s p k) := by
  unfold getN; rw [if_pos h, Int.toNat_natCast, Int.toNat_natCast]

end OctPlain
end Go.Proofs.Ytibajmjplpnbmaa
/- Contracts of the document's Get. -/
namespace Go.Proofs.Ytibajmjplpnbmaa
open Go.RowKit OctPlain
set_option linter.unusedVariables false
set_option linter.unusedSimpArgs false
set_option maxRecDepth 20000

def GetAt (s : ByteArray) (p k : Nat) (w : World) (n i : Value) (wr : World) : Prop :=
  ∃ j : Nat, wr = w ∧ j ≤ k ∧ i = .int .i64 j ∧ n = .int .i64 (num ((cutL s p k).take j) : Int) ∧ num ((cutL s p k).take j) < 9223372036854775808

theorem ret_ibr {a b : Int} {p q : Bool} (h : a = b) (k : p = q) : Ending.returned (.tuple #[.int .i64 a, .bool p]) = .returned (.tuple #[.int .i64 b, .bool q]) := by rw [h, k]
end Go.Proofs.Ytibajmjplpnbmaa
/- Contracts of Get in every case, and of GetCoord on both sides. -/
namespace Go.Proofs.Ytibajmjplpnbmaa
open Go.RowKit OctPlain
set_option linter.unusedVariables false
set_option linter.unusedSimpArgs false
set_option maxRecDepth 20000
set_option maxHeartbeats 1000000 in
theorem get_no (s : ByteArray) (a k : Int) (ha : I64 a) (hk : I64 k) (w : World) (hs : s.size ≤ 100000) (h : ¬ ((1 ≤ k ∧ k ≤ 8) ∧ 0 ≤ a ∧ a + k ≤ s.size)) :
    Calls Try.prog 55 #[.string s, .int .i64 a, .int .i64 k] w fun e w' => e = .returned (.tuple #[.int .i64 (getN s a k), .bool (getB s a k)]) ∧ w = w' := by
  have hk' := hk
  unfold I64 at ha hk'
  have hb : getB s a k = false := getB_no h
  have hn : getN s a k = 0 := getN_no hb
  by_cases k1 : 1 ≤ k ∧ k ≤ 8
  · have hd : decide (1 ≤ k ∧ k ≤ 8) = true := by simpa using k1
    by_cases k3 : a < 0
    · go_enter Try.func55, Try.ntmps55
      go_wp2_with fail
      refine (sized_c _ hk _).mono ?_
      rintro e u ⟨rfl, rfl⟩
      go_wp2_with fail
      go_ret2
      first | exact ⟨rfl, rfl⟩ | exact ⟨ret_ib hn.symm hb.symm, rfl⟩
    · have k5 : (s.size : Int) - k < a := by omega
      go_enter Try.func55, Try.ntmps55
      go_wp2_with fail
      refine (sized_c _ hk _).mono ?_
      rintro e u ⟨rfl, rfl⟩
      go_wp2_with fail
      go_ret2
      first | exact ⟨rfl, rfl⟩ | exact ⟨ret_ib hn.symm hb.symm, rfl⟩
  · have hd : decide (1 ≤ k ∧ k ≤ 8) = false := by simpa using k1
    go_enter Try.func55, Try.ntmps55
    go_wp2_with fail
    refine (sized_c _ hk _).mono ?_
    rintro e u ⟨rfl, rfl⟩
    go_wp2_with fail
    go_ret2
    first | exact ⟨rfl, rfl⟩ | exact ⟨ret_ib hn.symm hb.symm, rfl⟩
theorem get_c (s : ByteArray) (a k : Int) (ha : I64 a) (hk : I64 k) (w : World) (hs : s.size ≤ 100000) :
    Calls Try.prog 55 #[.string s, .int .i64 a, .int .i64 k] w fun e w' => e = .returned (.tuple #[.int .i64 (getN s a k), .bool (getB s a k)]) ∧ Gr w w' := by
  by_cases h : (1 ≤ k ∧ k ≤ 8) ∧ 0 ≤ a ∧ a + k ≤ s.size
  · obtain ⟨p, rfl⟩ : ∃ p : Nat, a = p := ⟨a.toNat, by omega⟩
    obtain ⟨q, rfl⟩ : ∃ q : Nat, k = q := ⟨k.toNat, by omega⟩
    exact get_yes s p q ha (by omega) (by omega) w hs
  · exact (get_no s a k ha hk w hs h).mono (fun e w' hh => ⟨hh.1, hh.2 ▸ Gr.refl _⟩)

def gcN (s : ByteArray) (a : Int) : Int := if getB s a 4 = true then wrap64 (getN s a 4 - 2147483648) else 0
set_option maxHeartbeats 1000000 in
theorem gcoord_c (s : ByteArray) (a : Int) (ha : I64 a) (w : World) (hs : s.size ≤ 100000) :
    Calls Try.prog 63 #[.string s, .int .i64 a] w fun e w' => e = .returned (.tuple #[.int .i64 (gcN s a), .bool (getB s a 4)]) ∧ Gr w w' := by
  cases hb : getB s a 4
  · have hn : gcN s a = 0 := by unfold gcN; rw [hb]; rfl
    go_enter Try.func63, Try.ntmps63
    go_wp2_with fail
    refine (get_c s a 4 ha ⟨by decide, by decide⟩ _ hs).mono ?_
    rintro e u ⟨rfl, g⟩
    go_wp2_with fail
    go_ret2
    first | exact ⟨rfl, g⟩ | exact ⟨ret_ib hn.symm rfl, g⟩
  · have hn : gcN s a = wrap64 (getN s a 4 - 2147483648) := by unfold gcN; rw [hb]; rfl
    go_enter Try.func63, Try.ntmps63
    go_wp2_with fail
    refine (get_c s a 4 ha ⟨by decide, by decide⟩ _ hs).mono ?_
    rintro e u ⟨rfl, g⟩
    go_wp2_with fail
    go_ret2
    first | exact ⟨rfl, g⟩ | exact ⟨ret_ib hn.symm rfl, g⟩
end Go.Proofs.Ytibajmjplpnbmaa
/- A slice of bytes as a string, by its cells. -/
namespace Go.Proofs.Ytibajmjplpnbmaa
open Go.RowKit
set_option linter.unusedVariables false
set_option linter.unusedSimpArgs false
set_option maxRecDepth 20000
theorem conv_list (W : World) (a : Addr) (k : Nat) (l : List UInt8) (hl : l.length = k) (hc : ∀ j x, l[j]? = some x → W.cell? (a.add j) = some (.int .u8 (x.toNat : Int))) :
    (convert 23 9 (.slice (some a) k k)).run Try.prog W = .ok (.string (bs l)) W := by
  subst hl
  exact run_convert_bytes_back (P := Try.prog) W 23 9 5 a l.length l Try.underlying23 Try.underlying5 Try.underlying9 (fun j hj => hc j l[j] (by simp))
end Go.Proofs.Ytibajmjplpnbmaa
/- Contracts of Put and PutCoord, and of the document's answers to them. -/
namespace Go.Proofs.Ytibajmjplpnbmaa
open Go.RowKit OctPlain
set_option linter.unusedVariables false
set_option linter.unusedSimpArgs false
set_option maxRecDepth 20000
theorem conv8 (u : World) (n : Int) (k : Nat) (hn : 0 ≤ n) (hk : 1 ≤ k ∧ k ≤ 8) :
    (convert 23 9 (.slice (some ⟨u.heap.size, 8 - k, none⟩) k k)).run Try.prog (u.alloc (.cells #[Value.int IntKind.u8 (n / 72057594037927936 % 256), Value.int IntKind.u8 (n / 281474976710656 % 256),
              Value.int IntKind.u8 (n / 1099511627776 % 256), Value.int IntKind.u8 (n / 4294967296 % 256),
              Value.int IntKind.u8 (n / 16777216 % 256), Value.int IntKind.u8 (n / 65536 % 256),
              Value.int IntKind.u8 (n / 256 % 256), Value.int IntKind.u8 (n % 256)] 99)) = .ok (.string (bs (beL k n.toNat))) (u.alloc (.cells #[Value.int IntKind.u8 (n / 72057594037927936 % 256), Value.int IntKind.u8 (n / 281474976710656 % 256),
              Value.int IntKind.u8 (n / 1099511627776 % 256), Value.int IntKind.u8 (n / 4294967296 % 256),
              Value.int IntKind.u8 (n / 16777216 % 256), Value.int IntKind.u8 (n / 65536 % 256),
              Value.int IntKind.u8 (n / 256 % 256), Value.int IntKind.u8 (n % 256)] 99)) := by
  obtain ⟨m, rfl⟩ : ∃ m : Nat, n = m := ⟨n.toNat, by omega⟩
  refine conv_list _ _ _ _ (beL_length k m) ?_
  intro j x hx
  have hj : j < k := by
    have := (List.getElem?_eq_some_iff.1 hx).1
    rw [beL_length] at this; exact this
  have ea : Addr.add ⟨u.heap.size, 8 - k, none⟩ j = ⟨u.heap.size, 8 - k + j, none⟩ := by simp [Addr.add]
  rw [ea, World.cell?_alloc_mark]
  have hk8 : k = 1 ∨ k = 2 ∨ k = 3 ∨ k = 4 ∨ k = 5 ∨ k = 6 ∨ k = 7 ∨ k = 8 := by omega
  rcases hk8 with rfl | rfl | rfl | rfl | rfl | rfl | rfl | rfl
  all_goals
    have hj8 : j = 0 ∨ j = 1 ∨ j = 2 ∨ j = 3 ∨ j = 4 ∨ j = 5 ∨ j = 6 ∨ j = 7 := by omega
    rcases hj8 with rfl | rfl | rfl | rfl | rfl | rfl | rfl | rfl <;> first | (exfalso; omega) | (simp [beL] at hx; subst hx; simp; done) | (simp [beL] at hx; subst hx; simp; omega)

def b1 (b : UInt8) : ByteArray := bs [b]
theorem conv1 (u : World) (x : Int) (h0 : 0 ≤ x) (h1 : x < 256) :
    (convert 23 9 (.slice (some ⟨u.heap.size, 0, none⟩) 1 1)).run Try.prog (u.alloc (.cells #[Value.int IntKind.u8 x] 5)) = .ok (.string (bs [UInt8.ofNat x.toNat])) (u.alloc (.cells #[Value.int IntKind.u8 x] 5)) := by
  refine conv_list _ _ _ _ rfl ?_
  intro j y hy
  obtain rfl : j = 0 := by
    have := (List.getElem?_eq_some_iff.1 hy).1
    simpa using this
  simp at hy
  subst hy
  show World.cell? _ ⟨u.heap.size, 0 + 0, none⟩ = _
  rw [World.cell?_alloc_mark]
  simp
  omega

end Go.Proofs.Ytibajmjplpnbmaa
