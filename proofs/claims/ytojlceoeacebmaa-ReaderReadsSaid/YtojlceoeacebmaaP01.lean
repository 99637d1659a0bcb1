/- In one text: CrcMore, CrcRmore, Conv, CrcClose, OctPlain, FramePlain, OctPut, OctPut2. -/
import Derived.Test.YtojlceoeacebmaaP00
import Derived.Laws.BitsAllLaws
import Derived.Laws.IdiomStrings
import Derived.WalkKit
import Derived.ProofKit
import Derived.Below
import Derived.Handy
import Derived.WalkLawsBesides
import Derived.Outline
/- Contracts of the sum of bytes, half a byte at once by a table: each by a walk of its text. -/
namespace Go.Proofs.Ytojlceoeacebmaa
open Go.RowKit CrcPlain
set_option linter.unusedVariables false
set_option linter.unusedSimpArgs false
set_option maxRecDepth 20000
def halves : Array Value := #[.int .u32 0, .int .u32 498536548, .int .u32 997073096, .int .u32 651767980, .int .u32 1994146192, .int .u32 1802195444, .int .u32 1303535960, .int .u32 1342533948, .int .u32 3988292384, .int .u32 4027552580, .int .u32 3604390888, .int .u32 3412177804, .int .u32 2607071920, .int .u32 2262029012, .int .u32 2685067896, .int .u32 3183342108]
set_option maxHeartbeats 1000000 in
theorem halves_c (w : World) : Calls Try.prog 79 #[] w fun e w' => e = .returned (.agg halves) ∧ Gr w w' := by
  go_enter Try.func79, Try.ntmps79
  go_wp2_with fail
  refine bodyPost_ret (v := .agg halves) (by simp [results, Try.results79, go_sem, halves]) rfl ⟨rfl, Gr.of (by go_grown)⟩
theorem xnot (m : Nat) (h : m < 4294967296) : bits .xor .u32 IntKind.u32.max (m : Int) = ((m ^^^ 4294967295 : Nat) : Int) := by
  have e : IntKind.u32.max = ((4294967295 : Nat) : Int) := rfl
  rw [e, u32_xor_nat _ _ (by decide) h, Nat.xor_comm]
theorem and15 (m : Nat) (h : m < 4294967296) : bits .and .u32 (m : Int) 15 = ((m % 16 : Nat) : Int) := by
  have e := u32_and_nat m 15 h (by decide)
  rw [Nat.and_two_pow_sub_one_eq_mod m 4] at e
  exact e
theorem halves_cell (u W : World) (h : W = u.alloc (.cells halves 109)) : u.heap.size < W.heap.size ∧ ∀ j : Nat, j < 16 → W.cell? ⟨u.heap.size, j, none⟩ = some (.int .u32 (half j : Nat)) := by
  subst h
  refine ⟨by simp, ?_⟩
  intro j hj
  have : j = 0 ∨ j = 1 ∨ j = 2 ∨ j = 3 ∨ j = 4 ∨ j = 5 ∨ j = 6 ∨ j = 7 ∨ j = 8 ∨ j = 9 ∨ j = 10 ∨ j = 11 ∨ j = 12 ∨ j = 13 ∨ j = 14 ∨ j = 15 := by omega
  rcases this with rfl | rfl | rfl | rfl | rfl | rfl | rfl | rfl | rfl | rfl | rfl | rfl | rfl | rfl | rfl | rfl <;> (go_simp; rfl)
theorem half_round (m : Nat) (h : m < 4294967296) : ∃ j v n : Nat, j < 16 ∧ v = half j ∧ n < 4294967296 ∧ bits .and .u32 (m : Int) 15 = (j : Int) ∧ bits .xor .u32 ((m : Int) / 16) (v : Int) = (n : Int) ∧ n = sts 4 m := by
  have hj : m % 16 < 16 := Nat.mod_lt _ (by decide)
  have hv := half_lt _ hj
  have hd : m / 16 < 4294967296 := by omega
  have e : ((m / 16 : Nat) : Int) = (m : Int) / 16 := by omega
  refine ⟨m % 16, half (m % 16), m / 16 ^^^ half (m % 16), hj, rfl, xor_lt hd hv, and15 m h, ?_, half_step m⟩
  rw [← e]
  exact u32_xor_nat _ _ hd hv
theorem byte_round (m : Nat) (h : m < 4294967296) (b : UInt8) : ∃ n : Nat, n < 4294967296 ∧ bits .xor .u32 (m : Int) ((b.toNat : Int) % 4294967296) = (n : Int) ∧ n = m ^^^ b.toNat := by
  have hb := byte_lt b
  have e : (b.toNat : Int) % 4294967296 = (b.toNat : Int) := by omega
  refine ⟨m ^^^ b.toNat, xor_lt h hb, ?_, rfl⟩
  rw [e]
  exact u32_xor_nat _ _ h hb
theorem take_snoc (s : ByteArray) (k : Nat) (h : k < s.size) : s.data.toList.take (k + 1) = s.data.toList.take k ++ [s[k]] := by
  rw [List.take_succ_eq_append_getElem (by simpa using h)]; rfl
set_option maxHeartbeats 1000000 in
theorem more_c (sum : Nat) (hsum : sum < 4294967296) (s : ByteArray) (hz : s.size ≤ 1000) (w : World) :
    Calls Try.prog 70 #[.int .u32 (sum : Int), .string s] w fun e w' => e = .returned (.int .u32 (more sum s.data.toList : Nat)) ∧ Gr w w' := by
  have hr0 := xor_lt hsum (b := 4294967295) (by decide)
  have hx0 := xnot sum hsum
  unfold more
  generalize sum ^^^ 4294967295 = r0 at hr0 hx0 ⊢
  go_enter Try.func70, Try.ntmps70
  go_wp2_with fail
  refine (halves_c _).mono ?_; rintro e u ⟨rfl, g⟩
  unfold halves
  go_wp2_with fail
  obtain ⟨W, hW⟩ : ∃ W, W = u.alloc (.cells halves 109) := ⟨_, rfl⟩
  unfold halves at hW
  rw [← hW]
  obtain ⟨hsz, hcell⟩ := halves_cell u W hW
  clear hx0
  have HW := Lib.hid hW
  have HC := Lib.hid hcell
  clear hW hcell
  go_loop [6, 13] (fun n i => ∃ k : Nat, k ≤ s.size ∧ i = .int .i64 k ∧ n = .int .u32 (reg r0 (s.data.toList.take k) : Nat)) (fun _ i => s.size - (intOf i).toNat)
  case atStart => exact ⟨0, Nat.zero_le _, rfl, rfl⟩
  case round =>
    obtain ⟨k, hk, rfl, rfl⟩ := hrel
    have hl := reg_lt hr0 (s.data.toList.take k)
    have hls := reg_lt hr0 s.data.toList
    by_cases hlt : k < s.size
    · obtain ⟨m, hm⟩ : ∃ m, m = reg r0 (s.data.toList.take k) := ⟨_, rfl⟩
      rw [← hm] at hl ⊢
      obtain ⟨m1, l1, q1, p1⟩ := byte_round m hl s[k]
      obtain ⟨j1, v1, m2, lj1, pv1, l2, q2, q3, p2⟩ := half_round m1 l1
      obtain ⟨j2, v2, m3, lj2, pv2, l3, q4, q5, p3⟩ := half_round m2 l2
      have c1 := HC.out j1 lj1
      have c2 := HC.out j2 lj2
      rw [← pv1] at c1
      rw [← pv2] at c2
      have hend : reg r0 (s.data.toList.take (k + 1)) = m3 := by rw [take_snoc s k hlt, reg_snoc, ← hm, ← p1, two_halves, ← p2, ← p3]
      have HE := Lib.hid hend
      clear hm p1 pv1 p2 pv2 p3 hend
      go_wp2_with fail
      go_round
      case rel => exact ⟨k + 1, by omega, by go_num, by rw [HE.out]⟩
      case measure => simp [intOf]; omega
    · obtain rfl : k = s.size := by omega
      rw [List.take_of_length_le (by simp)] at hl ⊢
      have hx1 := xnot _ hls
      have HX := Lib.hid hx1
      clear hx1
      go_wp2_with fail
      go_ret
      exact ⟨ret_u (HX.out), Gr.trans g (Gr.of (by rw [HW.out]; go_grown))⟩
end Go.Proofs.Ytojlceoeacebmaa
/- The contract of the document's own sum, bit by bit: by a walk of its text. -/
namespace Go.Proofs.Ytojlceoeacebmaa
open Go.RowKit CrcPlain
set_option linter.unusedVariables false
set_option linter.unusedSimpArgs false
set_option maxRecDepth 20000
theorem xnot2 (m : Nat) (h : m < 4294967296) : bits .xor .u32 (m : Int) 4294967295 = ((m ^^^ 4294967295 : Nat) : Int) := u32_xor_nat m 4294967295 h (by decide)
theorem bit_odd (m : Nat) (h : m < 4294967296) (ho : m % 2 = 1) : bits .xor .u32 ((m : Int) / 2) 3988292384 = ((st m : Nat) : Int) := by
  have e : ((m / 2 : Nat) : Int) = (m : Int) / 2 := by omega
  rw [← e]
  have := u32_xor_nat (m / 2) 3988292384 (by omega) (by decide)
  unfold st; rw [ho, Nat.one_mul]; exact this
theorem bit_even (m : Nat) (ho : m % 2 = 0) : ((m : Int) / 2) = ((st m : Nat) : Int) := by
  have e : ((m / 2 : Nat) : Int) = (m : Int) / 2 := by omega
  rw [← e]; unfold st; rw [ho, Nat.zero_mul, Nat.xor_zero]
theorem sts_next (j m : Nat) : sts (j + 1) m = st (sts j m) := sts_add j 1 m
set_option maxHeartbeats 1000000 in
theorem rmore_c (sum : Nat) (hsum : sum < 4294967296) (s : ByteArray) (hz : s.size ≤ 1000) (w : World) :
    Calls Try.prog 46 #[.int .u32 (sum : Int), .string s] w fun e w' => e = .returned (.int .u32 (more sum s.data.toList : Nat)) ∧ w = w' := by
  have hr0 := xor_lt hsum (b := 4294967295) (by decide)
  have hx0 := xnot2 sum hsum
  unfold more
  generalize sum ^^^ 4294967295 = r0 at hr0 hx0 ⊢
  go_enter Try.func46, Try.ntmps46
  go_wp2_with fail
  clear hx0
  go_loop [5, 6] (fun n i => ∃ k : Nat, k ≤ s.size ∧ i = .int .i64 k ∧ n = .int .u32 (reg r0 (s.data.toList.take k) : Nat)) (fun _ i => s.size - (intOf i).toNat)
  case atStart => exact ⟨0, Nat.zero_le _, rfl, rfl⟩
  case round =>
    obtain ⟨k, hk, rfl, rfl⟩ := hrel
    have hl := reg_lt hr0 (s.data.toList.take k)
    have hls := reg_lt hr0 s.data.toList
    by_cases hlt : k < s.size
    · obtain ⟨m, hm⟩ : ∃ m, m = reg r0 (s.data.toList.take k) := ⟨_, rfl⟩
      rw [← hm] at hl ⊢
      obtain ⟨m1, l1, q1, p1⟩ := byte_round m hl s[k]
      have hend : reg r0 (s.data.toList.take (k + 1)) = sts 8 m1 := by rw [take_snoc s k hlt, reg_snoc, ← hm, ← p1]
      have HE := Lib.hid hend
      clear hm p1 hend
      go_wp2_with fail
      go_loop [5, 7] (fun n i => ∃ j : Nat, j ≤ 8 ∧ i = .int .i64 j ∧ n = .int .u32 (sts j m1 : Nat)) (fun _ i => 8 - (intOf i).toNat)
      case atStart => exact ⟨0, Nat.zero_le _, rfl, rfl⟩
      case round =>
        obtain ⟨j, hj, rfl, rfl⟩ := hrel
        have ln := sts_lt j l1
        have hsn := sts_next j m1
        obtain ⟨n, hn⟩ : ∃ n, n = sts j m1 := ⟨_, rfl⟩
        rw [← hn] at ln hsn ⊢
        have HN := Lib.hid hn
        have HS := Lib.hid hsn
        clear hn hsn
        by_cases hj8 : j < 8
        · by_cases ho : n % 2 = 1
          · have q2 := bit_odd n ln ho
            have q3 : (n : Int) % 2 = 1 := by omega
            go_wp2_with fail
            go_round
            case rel => exact ⟨j + 1, by omega, by go_num, by rw [HS.out]⟩
            case measure => simp [intOf]; omega
          · have q2 := bit_even n (by omega)
            have q3 : (n : Int) % 2 = 0 := by omega
            go_wp2_with fail
            go_round
            case rel => exact ⟨j + 1, by omega, by go_num, by rw [HS.out]⟩
            case measure => simp [intOf]; omega
        · obtain rfl : j = 8 := by omega
          go_wp2_with fail
          go_round
          case rel => exact ⟨k + 1, by omega, by go_num, by rw [HE.out, HN.out]⟩
          case measure => simp [intOf]; omega
    · obtain rfl : k = s.size := by omega
      rw [List.take_of_length_le (by simp)] at hl ⊢
      have hx1 := xnot2 _ hls
      have HX := Lib.hid hx1
      clear hx1
      go_wp2_with fail
      go_ret
      exact ⟨ret_u (HX.out), rfl⟩
end Go.Proofs.Ytojlceoeacebmaa
/- A slice of bytes as a string, by its cells. -/
namespace Go.Proofs.Ytojlceoeacebmaa
open Go.RowKit
set_option linter.unusedVariables false
set_option linter.unusedSimpArgs false
set_option maxRecDepth 20000
theorem conv_list (W : World) (a : Addr) (k : Nat) (l : List UInt8) (hl : l.length = k) (hc : ∀ j x, l[j]? = some x → W.cell? (a.add j) = some (.int .u8 (x.toNat : Int))) :
    (convert 70 9 (.slice (some a) k k)).run Try.prog W = .ok (.string (bs l)) W := by
  subst hl
  exact run_convert_bytes_back (P := Try.prog) W 70 9 5 a l.length l Try.underlying70 Try.underlying5 Try.underlying9 (fun j hj => hc j l[j] (by simp))
end Go.Proofs.Ytojlceoeacebmaa
/- Contracts of Of, the bytes of a sum, Close and Open, and of the document's own answers: by walks of their texts. -/
namespace Go.Proofs.Ytojlceoeacebmaa
open Go.RowKit CrcPlain
set_option linter.unusedVariables false
set_option linter.unusedSimpArgs false
set_option maxRecDepth 20000
theorem conv4 (T : TypeId) (n : Nat) (hn : n < 4294967296) (u : World) :
    (convert 70 9 (.slice (some ⟨u.heap.size, 0, none⟩) 4 4)).run Try.prog (u.alloc (.cells #[Value.int IntKind.u8 ((n : Int) % 256), Value.int IntKind.u8 ((n : Int) / 256 % 256), Value.int IntKind.u8 ((n : Int) / 65536 % 256), Value.int IntKind.u8 ((n : Int) / 16777216)] T)) =
      .ok (.string (bs (tl n))) (u.alloc (.cells #[Value.int IntKind.u8 ((n : Int) % 256), Value.int IntKind.u8 ((n : Int) / 256 % 256), Value.int IntKind.u8 ((n : Int) / 65536 % 256), Value.int IntKind.u8 ((n : Int) / 16777216)] T)) := by
  refine conv_list _ _ _ _ (tl_length n) ?_
  intro j x hx
  have hj : j < 4 := by
    have := (List.getElem?_eq_some_iff.1 hx).1
    rw [tl_length] at this; exact this
  have ea : Addr.add ⟨u.heap.size, 0, none⟩ j = ⟨u.heap.size, j, none⟩ := by by_cases h : j = 0 <;> simp [Addr.add, h]
  rw [ea, World.cell?_alloc_mark]
  have hj4 : j = 0 ∨ j = 1 ∨ j = 2 ∨ j = 3 := by omega
  rcases hj4 with rfl | rfl | rfl | rfl <;> (simp [tl] at hx; subst hx; simp; try omega)

set_option maxHeartbeats 1000000 in
theorem of_c (s : ByteArray) (hz : s.size ≤ 1000) (w : World) :
    Calls Try.prog 76 #[.string s] w fun e w' => e = .returned (.int .u32 (more 0 s.data.toList : Nat)) ∧ Gr w w' := by
  go_enter Try.func76, Try.ntmps76
  go_wp2_with fail
  refine (more_c 0 (by decide) s hz _).mono ?_; rintro e u ⟨rfl, g⟩
  go_wp2_with fail
  go_ret
  exact ⟨rfl, g⟩
set_option maxHeartbeats 1000000 in
theorem rof_c (s : ByteArray) (hz : s.size ≤ 1000) (w : World) :
    Calls Try.prog 62 #[.string s] w fun e w' => e = .returned (.int .u32 (more 0 s.data.toList : Nat)) ∧ w = w' := by
  go_enter Try.func62, Try.ntmps62
  go_wp2_with fail
  refine (rmore_c 0 (by decide) s hz _).mono ?_; rintro e u ⟨rfl, rfl⟩
  go_wp2_with fail
  go_ret
  exact ⟨rfl, rfl⟩
set_option maxHeartbeats 1000000 in
theorem tail_c (n : Nat) (hn : n < 4294967296) (w : World) :
    Calls Try.prog 75 #[.int .u32 (n : Int)] w fun e w' => e = .returned (.string (bs (tl n))) ∧ Gr w w' := by
  have hc := conv4 112 n hn
  go_enter Try.func75, Try.ntmps75
  go_wp2_with fail
  go_rounds 5
  go_ret
  exact ⟨rfl, Gr.of (by go_grown)⟩
/-- Bytes that are closed by their sum. -/
def cl (s : ByteArray) : ByteArray := s ++ bs (tl (more 0 s.data.toList))
theorem cl_size (s : ByteArray) : (cl s).size = s.size + 4 := by unfold cl; rw [ByteArray.size_append, bs_size, tl_length]
set_option maxHeartbeats 1000000 in
theorem close_c (s : ByteArray) (hz : s.size ≤ 1000) (w : World) :
    Calls Try.prog 73 #[.string s] w fun e w' => e = .returned (.string (cl s)) ∧ Gr w w' := by
  have h4 : (bs (tl (more 0 s.data.toList))).size = 4 := by rw [bs_size, tl_length]
  go_enter Try.func73, Try.ntmps73
  go_wp2_with fail
  refine (of_c s hz _).mono ?_; rintro e u ⟨rfl, g⟩
  go_wp2_with fail
  refine (tail_c _ (more_lt (by decide) _) _).mono ?_; rintro e u2 ⟨rfl, g2⟩
  go_wp2_with fail
  go_ret
  exact ⟨rfl, g.trans g2⟩
theorem and255 (m : Nat) (h : m < 4294967296) : bits .and .u32 (m : Int) 255 = (m : Int) % 256 := by
  have e := u32_and_nat m 255 h (by decide)
  rw [Nat.and_two_pow_sub_one_eq_mod m 8] at e
  rw [Int.natCast_emod] at e
  exact e
set_option maxHeartbeats 1000000 in
theorem rclose_c (s : ByteArray) (hz : s.size ≤ 1000) (w : World) :
    Calls Try.prog 44 #[.string s] w fun e w' => e = .returned (.string (cl s)) ∧ Gr w w' := by
  have h4 : (bs (tl (more 0 s.data.toList))).size = 4 := by rw [bs_size, tl_length]
  have hn := more_lt (sum := 0) (by decide) s.data.toList
  have R := fun w => rof_c s hz w
  unfold cl
  generalize more 0 s.data.toList = n at R hn h4 ⊢
  go_enter Try.func44, Try.ntmps44
  go_wp2_with fail
  refine (R _).mono ?_; rintro e u ⟨rfl, rfl⟩
  have hc := conv4 5 n hn
  have q1 := and255 n hn
  have q2 : bits .and .u32 ((n : Int) / 256) 255 = (n : Int) / 256 % 256 := by
    have := and255 (n / 256) (by omega); rw [Int.natCast_ediv] at this; exact this
  have q3 : bits .and .u32 ((n : Int) / 65536) 255 = (n : Int) / 65536 % 256 := by
    have := and255 (n / 65536) (by omega); rw [Int.natCast_ediv] at this; exact this
  go_wp2_with fail
  go_ret
  exact ⟨rfl, Gr.of (by go_grown)⟩
end Go.Proofs.Ytojlceoeacebmaa
/- Plain facts on bytes of numbers, without the model: the highest byte first. -/
namespace Go.Proofs.Ytojlceoeacebmaa
namespace OctPlain

/-- The k lowest bytes of n, the highest first. -/
def beL : Nat → Nat → List UInt8
  | 0, _ => []
  | k + 1, n => beL k (n / 256) ++ [UInt8.ofNat (n % 256)]

theorem beL_length (k : Nat) : ∀ n, (beL k n).length = k := by
  induction k with
  | zero => intro n; rfl
  | succ k ih => intro n; simp [beL, ih]

theorem beL_top (k : Nat) : ∀ n, beL (k + 1) n = UInt8.ofNat (n / 256 ^ k % 256) :: beL k n := by
  induction k with
  | zero => intro n; simp [beL]
  | succ k ih =>
    intro n
    have h := ih (n / 256)
    rw [beL, h, beL, Nat.div_div_eq_div_mul, ← Nat.pow_succ', List.cons_append]

/-- The number of some bytes. -/
def num (l : List UInt8) : Nat := l.foldl (fun v b => v * 256 + b.toNat) 0

theorem num_nil : num [] = 0 := rfl
theorem num_snoc (l : List UInt8) (b : UInt8) : num (l ++ [b]) = num l * 256 + b.toNat := by
  simp [num]

theorem fold_eq (l : List UInt8) : ∀ v, l.foldl (fun v b => v * 256 + b.toNat) v = v * 256 ^ l.length + num l := by
  induction l with
  | nil => intro v; simp [num]
  | cons b l ih =>
    intro v
    have h1 := ih (v * 256 + b.toNat)
    have h2 := ih (0 * 256 + b.toNat)
    have e : num (b :: l) = l.foldl (fun v b => v * 256 + b.toNat) (0 * 256 + b.toNat) := rfl
    rw [List.foldl_cons, h1, e, h2, List.length_cons, Nat.pow_succ, Nat.add_mul, Nat.zero_mul, Nat.zero_add, Nat.mul_assoc, Nat.mul_comm 256, Nat.add_assoc]

theorem num_cons (b : UInt8) (l : List UInt8) : num (b :: l) = b.toNat * 256 ^ l.length + num l := by
  have h := fold_eq l (0 * 256 + b.toNat)
  have e : num (b :: l) = l.foldl (fun v b => v * 256 + b.toNat) (0 * 256 + b.toNat) := rfl
  rw [e, h, Nat.zero_mul, Nat.zero_add]

theorem num_app (a b : List UInt8) : num (a ++ b) = num a * 256 ^ b.length + num b := by
  rw [← fold_eq b (num a)]
  simp [num]

theorem num_lt (l : List UInt8) : num l < 256 ^ l.length := by
  induction l with
  | nil => simp [num]
  | cons b l ih =>
    rw [num_cons, List.length_cons, Nat.pow_succ]
    have hb := b.toNat_lt
    have hb' : b.toNat * 256 ^ l.length ≤ 255 * 256 ^ l.length := Nat.mul_le_mul_right _ (by omega)
    omega

theorem num_beL (k : Nat) : ∀ n, n < 256 ^ k → num (beL k n) = n := by
  induction k with
  | zero => intro n h; simp at h; subst h; rfl
  | succ k ih =>
    intro n h
    rw [Nat.pow_succ] at h
    have hd : n / 256 < 256 ^ k := by omega
    rw [beL, num_snoc, ih _ hd]
    have : (UInt8.ofNat (n % 256)).toNat = n % 256 := by
      rw [UInt8.toNat_ofNat']; omega
    rw [this]; omega

def fitsB (n k : Int) : Bool := decide ((1 ≤ k ∧ k ≤ 8) ∧ 0 ≤ n ∧ n < (256 : Int) ^ k.toNat)
def putS (n k : Int) : ByteArray := if fitsB n k = true then bs (beL k.toNat n.toNat) else bs []

theorem put_no {n k : Int} (h : fitsB n k = false) : putS n k = ⟨#[]⟩ := by simp [putS, h, bs]

theorem dig_cast (n : Int) (hn : 0 ≤ n) (j : Nat) : (n / 256 ^ j % 256).toNat = n.toNat / 256 ^ j % 256 := by
  obtain ⟨N, rfl⟩ : ∃ N : Nat, n = N := ⟨n.toNat, by omega⟩
  have : ((N / 256 ^ j % 256 : Nat) : Int) = (N : Int) / 256 ^ j % 256 := by rw [Int.natCast_emod, Int.natCast_ediv, Int.natCast_pow]; rfl
  rw [← this, Int.toNat_natCast, Int.toNat_natCast]
theorem fits_at {n k : Int} (hk : 1 ≤ k ∧ k ≤ 8) (hn : 0 ≤ n) : fitsB n k = decide (n / 256 ^ k.toNat = 0) := by
  unfold fitsB
  have hp : (0 : Int) < 256 ^ k.toNat := Int.pow_pos (by omega)
  apply decide_eq_decide.2
  constructor
  · intro h; exact Int.ediv_eq_zero_of_lt hn h.2.2
  · intro h
    refine ⟨hk, hn, ?_⟩
    have h1 := Int.emod_lt_of_pos n hp
    have h2 := Int.emod_add_mul_ediv n (256 ^ k.toNat)
    rw [h] at h2
    omega

/-- The bytes from place a on, k of them. -/
def cutL (s : ByteArray) (a k : Nat) : List UInt8 := (s.data.toList.drop a).take k
def getB (s : ByteArray) (a k : Int) : Bool := decide ((1 ≤ k ∧ k ≤ 8) ∧ 0 ≤ a ∧ a + k ≤ s.size ∧ num (cutL s a.toNat k.toNat) < 9223372036854775808)
def getN (s : ByteArray) (a k : Int) : Int := if getB s a k = true then (num (cutL s a.toNat k.toNat) : Int) else 0

theorem cutL_length (s : ByteArray) (a k : Nat) (h : a + k ≤ s.size) : (cutL s a k).length = k := by
  have : s.data.toList.length = s.size := Array.length_toList
  simp only [cutL, List.length_take, List.length_drop]; omega

end OctPlain
end Go.Proofs.Ytojlceoeacebmaa
/- Plain facts on rows of strings and on blocks, without the model; a row of strings in memory. -/
namespace Go.Proofs.Ytojlceoeacebmaa
open Go.RowKit CrcPlain OctPlain
set_option linter.unusedVariables false
set_option linter.unusedSimpArgs false
set_option maxRecDepth 20000
namespace FramePlain
/-- A record's size that may be. -/
def sizeB (size : Int) : Bool := decide (1 ≤ size ∧ size ≤ 64)
def roomN (size : Int) : Int := if sizeB size = true then 5 + 4 * size else 0
/-- Strings, one behind the other. -/
def cat (l : List ByteArray) : List UInt8 := (l.map (·.data.toList)).flatten
def allB (size : Int) (l : List ByteArray) : Bool := l.all (fun s => decide ((s.size : Int) = size))
def blkB (size : Int) (l : List ByteArray) : Bool := sizeB size && decide (1 ≤ l.length ∧ l.length ≤ 4) && allB size l
/-- A block ahead of its sum. -/
def blk (l : List ByteArray) : ByteArray := bs (UInt8.ofNat l.length :: cat l)
def blkS (size : Int) (l : List ByteArray) : ByteArray := if blkB size l = true then cl (blk l) else ⟨#[]⟩
theorem blkS_no {size : Int} {l : List ByteArray} (h : blkB size l = false) : blkS size l = ⟨#[]⟩ := by simp [blkS, h]
theorem blkS_yes {size : Int} {l : List ByteArray} (h : blkB size l = true) : blkS size l = cl (blk l) := by simp [blkS, h]
theorem cat_snoc (l : List ByteArray) (x : ByteArray) : cat (l ++ [x]) = cat l ++ x.data.toList := by simp [cat]
theorem allB_iff {size : Int} {l : List ByteArray} : allB size l = true ↔ ∀ s ∈ l, (s.size : Int) = size := by simp [allB]
theorem data_length (s : ByteArray) : s.data.toList.length = s.size := Array.length_toList
theorem cat_length {size : Nat} : ∀ {l : List ByteArray}, (∀ s ∈ l, s.size = size) → (cat l).length = l.length * size
  | [], _ => by simp [cat]
  | x :: r, h => by
    have ih := cat_length (l := r) fun s hs => h s (by simp [hs])
    have e : cat (x :: r) = x.data.toList ++ cat r := rfl
    rw [e, List.length_append, ih, data_length, h x (by simp), List.length_cons, Nat.add_mul, Nat.one_mul, Nat.add_comm]
theorem cat_le {l : List ByteArray} (h : ∀ s ∈ l, s.size ≤ 64) : (cat l).length ≤ l.length * 64 := by
  induction l with
  | nil => simp [cat]
  | cons x r ih =>
    have e : cat (x :: r) = x.data.toList ++ cat r := rfl
    have := ih fun s hs => h s (by simp [hs])
    have hx := h x (by simp)
    rw [e, List.length_append, data_length, List.length_cons]
    omega
theorem cat_le1000 {l : List ByteArray} (h : ∀ s ∈ l, s.size ≤ 1000) : (cat l).length ≤ l.length * 1000 := by
  induction l with
  | nil => simp [cat]
  | cons x r ih =>
    have e : cat (x :: r) = x.data.toList ++ cat r := rfl
    have := ih fun s hs => h s (by simp [hs])
    have hx := h x (by simp)
    rw [e, List.length_append, data_length, List.length_cons]
    omega
theorem blk_size (l : List ByteArray) : (blk l).size = 1 + (cat l).length := by unfold blk; rw [bs_size, List.length_cons]; omega
end FramePlain
open FramePlain

/-- A row of strings lies at b, from off on. -/
def SRow (w : World) (b off : Nat) (l : List ByteArray) : Prop := b < w.heap.size ∧ ∀ j x, l[j]? = some x → w.cell? ⟨b, off + j, none⟩ = some (.string x)
theorem SRow.gr {w w' : World} {b off : Nat} {l : List ByteArray} (h : SRow w b off l) (g : Gr w w') : SRow w' b off l := by
  refine ⟨Nat.lt_of_lt_of_le h.1 g.size, fun j x hj => ?_⟩
  rw [Below.cell g (p := ⟨b, off + j, none⟩) h.1]
  exact h.2 j x hj
theorem srow_of {w : World} {a : Option Addr} {l : List ByteArray} (h : RowIn w a (l.map .string)) (hne : 1 ≤ l.length) : ∃ b off, a = some ⟨b, off, none⟩ ∧ SRow w b off l := by
  rcases h with h | ⟨b, off, rfl, hb, hc⟩
  · cases l with
    | nil => simp at hne
    | cons x r => simp at h
  · exact ⟨b, off, rfl, hb, fun j x hj => hc j _ (by rw [List.getElem?_map, hj]; rfl)⟩
theorem take_at {l : List ByteArray} {j : Nat} (hj : j < l.length) : ∃ x, l[j]? = some x ∧ l.take (j + 1) = l.take j ++ [x] ∧ x ∈ l :=
  ⟨l[j], List.getElem?_eq_getElem hj, List.take_succ_eq_append_getElem hj, List.getElem_mem hj⟩
end Go.Proofs.Ytojlceoeacebmaa
/- Contracts of layer octet's functions that make bytes, and of the document's answers to them, each by a walk of its text. -/
namespace Go.Proofs.Ytojlceoeacebmaa
open Go.RowKit OctPlain
set_option linter.unusedVariables false
set_option linter.unusedSimpArgs false
set_option maxRecDepth 20000
set_option maxHeartbeats 1000000 in
theorem sized_c (k : Int) (hk : I64 k) (w : World) :
    Calls Try.prog 74 #[.int .i64 k] w fun e w' => e = .returned (.bool (decide (1 ≤ k ∧ k ≤ 8))) ∧ w = w' := by
  by_cases h1 : 1 ≤ k <;> by_cases h2 : k ≤ 8
  all_goals
    go_enter Try.func74, Try.ntmps74
    go_wp2
    go_ret
    exact ⟨by simp [h1, h2], rfl⟩
theorem ret_b {a b : Bool} (h : a = b) : Ending.returned (.bool a) = .returned (.bool b) := by rw [h]
theorem b_of {a : Bool} {p : Prop} [Decidable p] (h : a = true ↔ p) : a = decide p := by
  cases a <;> simp_all
end Go.Proofs.Ytojlceoeacebmaa
/- Contracts of Put and PutCoord, and of the document's answers to them. -/
namespace Go.Proofs.Ytojlceoeacebmaa
open Go.RowKit OctPlain
set_option linter.unusedVariables false
set_option linter.unusedSimpArgs false
set_option maxRecDepth 20000
theorem conv8 (u : World) (n : Int) (k : Nat) (hn : 0 ≤ n) (hk : 1 ≤ k ∧ k ≤ 8) :
    (convert 70 9 (.slice (some ⟨u.heap.size, 8 - k, none⟩) k k)).run Try.prog (u.alloc (.cells #[Value.int IntKind.u8 (n / 72057594037927936 % 256), Value.int IntKind.u8 (n / 281474976710656 % 256),
              Value.int IntKind.u8 (n / 1099511627776 % 256), Value.int IntKind.u8 (n / 4294967296 % 256),
              Value.int IntKind.u8 (n / 16777216 % 256), Value.int IntKind.u8 (n / 65536 % 256),
              Value.int IntKind.u8 (n / 256 % 256), Value.int IntKind.u8 (n % 256)] 107)) = .ok (.string (bs (beL k n.toNat))) (u.alloc (.cells #[Value.int IntKind.u8 (n / 72057594037927936 % 256), Value.int IntKind.u8 (n / 281474976710656 % 256),
              Value.int IntKind.u8 (n / 1099511627776 % 256), Value.int IntKind.u8 (n / 4294967296 % 256),
              Value.int IntKind.u8 (n / 16777216 % 256), Value.int IntKind.u8 (n / 65536 % 256),
              Value.int IntKind.u8 (n / 256 % 256), Value.int IntKind.u8 (n % 256)] 107)) := by
  obtain ⟨m, rfl⟩ : ∃ m : Nat, n = m := ⟨n.toNat, by omega⟩
  refine conv_list _ _ _ _ (beL_length k m) ?_
  intro j x hx
  have hj : j < k := by
    have := (List.getElem?_eq_some_iff.1 hx).1
    rw [beL_length] at this; exact this
  have ea : Addr.add ⟨u.heap.size, 8 - k, none⟩ j = ⟨u.heap.size, 8 - k + j, none⟩ := by simp [Addr.add]
  rw [ea, World.cell?_alloc_mark]
  have hk8 : k = 1 ∨ k = 2 ∨ k = 3 ∨ k = 4 ∨ k = 5 ∨ k = 6 ∨ k = 7 ∨ k = 8 := by omega
  rcases hk8 with rfl | rfl | rfl | rfl | rfl | rfl | rfl | rfl
  all_goals
    have hj8 : j = 0 ∨ j = 1 ∨ j = 2 ∨ j = 3 ∨ j = 4 ∨ j = 5 ∨ j = 6 ∨ j = 7 := by omega
    rcases hj8 with rfl | rfl | rfl | rfl | rfl | rfl | rfl | rfl <;> first | (exfalso; omega) | (simp [beL] at hx; subst hx; simp; done) | (simp [beL] at hx; subst hx; simp; omega)

def b1 (b : UInt8) : ByteArray := bs [b]
theorem conv1 (u : World) (x : Int) (h0 : 0 ≤ x) (h1 : x < 256) :
    (convert 70 9 (.slice (some ⟨u.heap.size, 0, none⟩) 1 1)).run Try.prog (u.alloc (.cells #[Value.int IntKind.u8 x] 5)) = .ok (.string (bs [UInt8.ofNat x.toNat])) (u.alloc (.cells #[Value.int IntKind.u8 x] 5)) := by
  refine conv_list _ _ _ _ rfl ?_
  intro j y hy
  obtain rfl : j = 0 := by
    have := (List.getElem?_eq_some_iff.1 hy).1
    simpa using this
  simp at hy
  subst hy
  show World.cell? _ ⟨u.heap.size, 0 + 0, none⟩ = _
  rw [World.cell?_alloc_mark]
  simp
  omega

end Go.Proofs.Ytojlceoeacebmaa
