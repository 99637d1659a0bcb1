/- In one text: CrcMore, CrcRmore, Conv, CrcClose, CrcOpen. -/
import Derived.Test.YtignfbdgpgidpaaGreatDoorK00
import Derived.Test.YtignfbdgpgidpaaGreatDoorK10
import Derived.Laws.BitsAllLaws
import Derived.Laws.IdiomStrings
import Derived.Test.YtignfbdgpgidpaaGreatDoorK04
import Derived.Deep.RegionLaw
import Derived.RegionTactic
import Derived.BigRegion
import Derived.Deep.QuietTactic
import Derived.BigQuiet
import Derived.Lib.Strings
import Derived.Deep.RegionHeld3
/- Contracts of the sum of bytes, half a byte at once by a table: each by a walk of its text. -/
namespace Go.Proofs.YtignfbdgpgidpaaGreatDoor
open Go.RowKit CrcPlain
set_option linter.unusedVariables false
set_option linter.unusedSimpArgs false
set_option maxRecDepth 20000
def halves : Array Value := #[.int .u32 0, .int .u32 498536548, .int .u32 997073096, .int .u32 651767980, .int .u32 1994146192, .int .u32 1802195444, .int .u32 1303535960, .int .u32 1342533948, .int .u32 3988292384, .int .u32 4027552580, .int .u32 3604390888, .int .u32 3412177804, .int .u32 2607071920, .int .u32 2262029012, .int .u32 2685067896, .int .u32 3183342108]
set_option maxHeartbeats 1000000 in
theorem halves_c (w : World) : Calls Tryz.prog 170 #[] w fun e w' => e = .returned (.agg halves) ∧ Gr w w' := by
  go_enter Tryz.func170, Tryz.ntmps170
  go_wp2_with fail
  refine bodyPost_ret (v := .agg halves) (by simp [results, Tryz.results170, go_sem, halves]) rfl ⟨rfl, Gr.of (by go_grown)⟩
theorem xnot (m : Nat) (h : m < 4294967296) : bits .xor .u32 IntKind.u32.max (m : Int) = ((m ^^^ 4294967295 : Nat) : Int) := by
  have e : IntKind.u32.max = ((4294967295 : Nat) : Int) := rfl
  rw [e, u32_xor_nat _ _ (by decide) h, Nat.xor_comm]
theorem and15 (m : Nat) (h : m < 4294967296) : bits .and .u32 (m : Int) 15 = ((m % 16 : Nat) : Int) := by
  have e := u32_and_nat m 15 h (by decide)
  rw [Nat.and_two_pow_sub_one_eq_mod m 4] at e
  exact e
theorem halves_cell (u W : World) (h : W = u.alloc (.cells halves 204)) : u.heap.size < W.heap.size ∧ ∀ j : Nat, j < 16 → W.cell? ⟨u.heap.size, j, none⟩ = some (.int .u32 (half j : Nat)) := by
  subst h
  refine ⟨by simp, ?_⟩
  intro j hj
  have : j = 0 ∨ j = 1 ∨ j = 2 ∨ j = 3 ∨ j = 4 ∨ j = 5 ∨ j = 6 ∨ j = 7 ∨ j = 8 ∨ j = 9 ∨ j = 10 ∨ j = 11 ∨ j = 12 ∨ j = 13 ∨ j = 14 ∨ j = 15 := by omega
  rcases this with rfl | rfl | rfl | rfl | rfl | rfl | rfl | rfl | rfl | rfl | rfl | rfl | rfl | rfl | rfl | rfl <;> (go_simp; rfl)
theorem half_round (m : Nat) (h : m < 4294967296) : ∃ j v n : Nat, j < 16 ∧ v = half j ∧ n < 4294967296 ∧ bits .and .u32 (m : Int) 15 = (j : Int) ∧ bits .xor .u32 ((m : Int) / 16) (v : Int) = (n : Int) ∧ n = sts 4 m := by
  have hj : m % 16 < 16 := Nat.mod_lt _ (by decide)
  have hv := half_lt _ hj
  have hd : m / 16 < 4294967296 := by omega
  have e : ((m / 16 : Nat) : Int) = (m : Int) / 16 := by omega
  refine ⟨m % 16, half (m % 16), m / 16 ^^^ half (m % 16), hj, rfl, xor_lt hd hv, and15 m h, ?_, half_step m⟩
  rw [← e]
  exact u32_xor_nat _ _ hd hv
theorem byte_round (m : Nat) (h : m < 4294967296) (b : UInt8) : ∃ n : Nat, n < 4294967296 ∧ bits .xor .u32 (m : Int) ((b.toNat : Int) % 4294967296) = (n : Int) ∧ n = m ^^^ b.toNat := by
  have hb := byte_lt b
  have e : (b.toNat : Int) % 4294967296 = (b.toNat : Int) := by omega
  refine ⟨m ^^^ b.toNat, xor_lt h hb, ?_, rfl⟩
  rw [e]
  exact u32_xor_nat _ _ h hb
theorem take_snoc (s : ByteArray) (k : Nat) (h : k < s.size) : s.data.toList.take (k + 1) = s.data.toList.take k ++ [s[k]] := by
  rw [List.take_succ_eq_append_getElem (by simpa using h)]; rfl
set_option maxHeartbeats 1000000 in
theorem more_c (sum : Nat) (hsum : sum < 4294967296) (s : ByteArray) (hz : s.size ≤ 1000) (w : World) :
    Calls Tryz.prog 146 #[.int .u32 (sum : Int), .string s] w fun e w' => e = .returned (.int .u32 (more sum s.data.toList : Nat)) ∧ Gr w w' := by
  have hr0 := xor_lt hsum (b := 4294967295) (by decide)
  have hx0 := xnot sum hsum
  unfold more
  generalize sum ^^^ 4294967295 = r0 at hr0 hx0 ⊢
  go_enter Tryz.func146, Tryz.ntmps146
  go_wp2_with fail
  refine (halves_c _).mono ?_; rintro e u ⟨rfl, g⟩
  unfold halves
  go_wp2_with fail
  obtain ⟨W, hW⟩ : ∃ W, W = u.alloc (.cells halves 204) := ⟨_, rfl⟩
  unfold halves at hW
  rw [← hW]
  obtain ⟨hsz, hcell⟩ := halves_cell u W hW
  clear hx0
  have HW := Lib.hid hW
  have HC := Lib.hid hcell
  clear hW hcell
  go_loop [6, 13] (fun n i => ∃ k : Nat, k ≤ s.size ∧ i = .int .i64 k ∧ n = .int .u32 (reg r0 (s.data.toList.take k) : Nat)) (fun _ i => s.size - (intOf i).toNat)
  case atStart => exact ⟨0, Nat.zero_le _, rfl, rfl⟩
  case round =>
    obtain ⟨k, hk, rfl, rfl⟩ := hrel
    have hl := reg_lt hr0 (s.data.toList.take k)
    have hls := reg_lt hr0 s.data.toList
    by_cases hlt : k < s.size
    · obtain ⟨m, hm⟩ : ∃ m, m = reg r0 (s.data.toList.take k) := ⟨_, rfl⟩
      rw [← hm] at hl ⊢
      obtain ⟨m1, l1, q1, p1⟩ := byte_round m hl s[k]
      obtain ⟨j1, v1, m2, lj1, pv1, l2, q2, q3, p2⟩ := half_round m1 l1
      obtain ⟨j2, v2, m3, lj2, pv2, l3, q4, q5, p3⟩ := half_round m2 l2
      have c1 := HC.out j1 lj1
      have c2 := HC.out j2 lj2
      rw [← pv1] at c1
      rw [← pv2] at c2
      have hend : reg r0 (s.data.toList.take (k + 1)) = m3 := by rw [take_snoc s k hlt, reg_snoc, ← hm, ← p1, two_halves, ← p2, ← p3]
      have HE := Lib.hid hend
      clear hm p1 pv1 p2 pv2 p3 hend
      go_wp2_with fail
      go_round
      case rel => exact ⟨k + 1, by omega, by go_num, by rw [HE.out]⟩
      case measure => simp [intOf]; omega
    · obtain rfl : k = s.size := by omega
      rw [List.take_of_length_le (by simp)] at hl ⊢
      have hx1 := xnot _ hls
      have HX := Lib.hid hx1
      clear hx1
      go_wp2_with fail
      go_ret
      exact ⟨ret_u (HX.out), Gr.trans g (Gr.of (by rw [HW.out]; go_grown))⟩
end Go.Proofs.YtignfbdgpgidpaaGreatDoor
/- The contract of the document's own sum, bit by bit: by a walk of its text. -/
namespace Go.Proofs.YtignfbdgpgidpaaGreatDoor
open Go.RowKit CrcPlain
set_option linter.unusedVariables false
set_option linter.unusedSimpArgs false
set_option maxRecDepth 20000
theorem xnot2 (m : Nat) (h : m < 4294967296) : bits .xor .u32 (m : Int) 4294967295 = ((m ^^^ 4294967295 : Nat) : Int) := u32_xor_nat m 4294967295 h (by decide)
theorem bit_odd (m : Nat) (h : m < 4294967296) (ho : m % 2 = 1) : bits .xor .u32 ((m : Int) / 2) 3988292384 = ((st m : Nat) : Int) := by
  have e : ((m / 2 : Nat) : Int) = (m : Int) / 2 := by omega
  rw [← e]
  have := u32_xor_nat (m / 2) 3988292384 (by omega) (by decide)
  unfold st; rw [ho, Nat.one_mul]; exact this
theorem bit_even (m : Nat) (ho : m % 2 = 0) : ((m : Int) / 2) = ((st m : Nat) : Int) := by
  have e : ((m / 2 : Nat) : Int) = (m : Int) / 2 := by omega
  rw [← e]; unfold st; rw [ho, Nat.zero_mul, Nat.xor_zero]
theorem sts_next (j m : Nat) : sts (j + 1) m = st (sts j m) := sts_add j 1 m
set_option maxHeartbeats 1000000 in
theorem rmore_c (sum : Nat) (hsum : sum < 4294967296) (s : ByteArray) (hz : s.size ≤ 1000) (w : World) :
    Calls Tryz.prog 49 #[.int .u32 (sum : Int), .string s] w fun e w' => e = .returned (.int .u32 (more sum s.data.toList : Nat)) ∧ w = w' := by
  have hr0 := xor_lt hsum (b := 4294967295) (by decide)
  have hx0 := xnot2 sum hsum
  unfold more
  generalize sum ^^^ 4294967295 = r0 at hr0 hx0 ⊢
  go_enter Tryz.func49, Tryz.ntmps49
  go_wp2_with fail
  clear hx0
  go_loop [5, 6] (fun n i => ∃ k : Nat, k ≤ s.size ∧ i = .int .i64 k ∧ n = .int .u32 (reg r0 (s.data.toList.take k) : Nat)) (fun _ i => s.size - (intOf i).toNat)
  case atStart => exact ⟨0, Nat.zero_le _, rfl, rfl⟩
  case round =>
    obtain ⟨k, hk, rfl, rfl⟩ := hrel
    have hl := reg_lt hr0 (s.data.toList.take k)
    have hls := reg_lt hr0 s.data.toList
    by_cases hlt : k < s.size
    · obtain ⟨m, hm⟩ : ∃ m, m = reg r0 (s.data.toList.take k) := ⟨_, rfl⟩
      rw [← hm] at hl ⊢
      obtain ⟨m1, l1, q1, p1⟩ := byte_round m hl s[k]
      have hend : reg r0 (s.data.toList.take (k + 1)) = sts 8 m1 := by rw [take_snoc s k hlt, reg_snoc, ← hm, ← p1]
      have HE := Lib.hid hend
      clear hm p1 hend
      go_wp2_with fail
      go_loop [5, 7] (fun n i => ∃ j : Nat, j ≤ 8 ∧ i = .int .i64 j ∧ n = .int .u32 (sts j m1 : Nat)) (fun _ i => 8 - (intOf i).toNat)
      case atStart => exact ⟨0, Nat.zero_le _, rfl, rfl⟩
      case round =>
        obtain ⟨j, hj, rfl, rfl⟩ := hrel
        have ln := sts_lt j l1
        have hsn := sts_next j m1
        obtain ⟨n, hn⟩ : ∃ n, n = sts j m1 := ⟨_, rfl⟩
        rw [← hn] at ln hsn ⊢
        have HN := Lib.hid hn
        have HS := Lib.hid hsn
        clear hn hsn
        by_cases hj8 : j < 8
        · by_cases ho : n % 2 = 1
          · have q2 := bit_odd n ln ho
            have q3 : (n : Int) % 2 = 1 := by omega
            go_wp2_with fail
            go_round
            case rel => exact ⟨j + 1, by omega, by go_num, by rw [HS.out]⟩
            case measure => simp [intOf]; omega
          · have q2 := bit_even n (by omega)
            have q3 : (n : Int) % 2 = 0 := by omega
            go_wp2_with fail
            go_round
            case rel => exact ⟨j + 1, by omega, by go_num, by rw [HS.out]⟩
            case measure => simp [intOf]; omega
        · obtain rfl : j = 8 := by omega
          go_wp2_with fail
          go_round
          case rel => exact ⟨k + 1, by omega, by go_num, by rw [HE.out, HN.out]⟩
          case measure => simp [intOf]; omega
    · obtain rfl : k = s.size := by omega
      rw [List.take_of_length_le (by simp)] at hl ⊢
      have hx1 := xnot2 _ hls
      have HX := Lib.hid hx1
      clear hx1
      go_wp2_with fail
      go_ret
      exact ⟨ret_u (HX.out), rfl⟩
end Go.Proofs.YtignfbdgpgidpaaGreatDoor
/- A slice of bytes as a string, by its cells. -/
namespace Go.Proofs.YtignfbdgpgidpaaGreatDoor
open Go.RowKit
set_option linter.unusedVariables false
set_option linter.unusedSimpArgs false
set_option maxRecDepth 20000
theorem conv_list (W : World) (a : Addr) (k : Nat) (l : List UInt8) (hl : l.length = k) (hc : ∀ j x, l[j]? = some x → W.cell? (a.add j) = some (.int .u8 (x.toNat : Int))) :
    (convert 94 9 (.slice (some a) k k)).run Tryz.prog W = .ok (.string (bs l)) W := by
  subst hl
  exact run_convert_bytes_back (P := Tryz.prog) W 94 9 5 a l.length l Tryz.underlying94 Tryz.underlying5 Tryz.underlying9 (fun j hj => hc j l[j] (by simp))
end Go.Proofs.YtignfbdgpgidpaaGreatDoor
/- Contracts of Of, the bytes of a sum, Close and Open, and of the document's own answers: by walks of their texts. -/
namespace Go.Proofs.YtignfbdgpgidpaaGreatDoor
open Go.RowKit CrcPlain
set_option linter.unusedVariables false
set_option linter.unusedSimpArgs false
set_option maxRecDepth 20000
theorem conv4 (T : TypeId) (n : Nat) (hn : n < 4294967296) (u : World) :
    (convert 94 9 (.slice (some ⟨u.heap.size, 0, none⟩) 4 4)).run Tryz.prog (u.alloc (.cells #[Value.int IntKind.u8 ((n : Int) % 256), Value.int IntKind.u8 ((n : Int) / 256 % 256), Value.int IntKind.u8 ((n : Int) / 65536 % 256), Value.int IntKind.u8 ((n : Int) / 16777216)] T)) =
      .ok (.string (bs (tl n))) (u.alloc (.cells #[Value.int IntKind.u8 ((n : Int) % 256), Value.int IntKind.u8 ((n : Int) / 256 % 256), Value.int IntKind.u8 ((n : Int) / 65536 % 256), Value.int IntKind.u8 ((n : Int) / 16777216)] T)) := by
  refine conv_list _ _ _ _ (tl_length n) ?_
  intro j x hx
  have hj : j < 4 := by
    have := (List.getElem?_eq_some_iff.1 hx).1
    rw [tl_length] at this; exact this
  have ea : Addr.add ⟨u.heap.size, 0, none⟩ j = ⟨u.heap.size, j, none⟩ := by by_cases h : j = 0 <;> simp [Addr.add, h]
  rw [ea, World.cell?_alloc_mark]
  have hj4 : j = 0 ∨ j = 1 ∨ j = 2 ∨ j = 3 := by omega
  rcases hj4 with rfl | rfl | rfl | rfl <;> (simp [tl] at hx; subst hx; simp; try omega)
set_option maxHeartbeats 1000000 in
theorem of_c (s : ByteArray) (hz : s.size ≤ 1000) (w : World) :
    Calls Tryz.prog 116 #[.string s] w fun e w' => e = .returned (.int .u32 (more 0 s.data.toList : Nat)) ∧ Gr w w' := by
  go_enter Tryz.func116, Tryz.ntmps116
  go_wp2_with fail
  refine (more_c 0 (by decide) s hz _).mono ?_; rintro e u ⟨rfl, g⟩
  go_wp2_with fail
  go_ret
  exact ⟨rfl, g⟩
set_option maxHeartbeats 1000000 in
theorem rof_c (s : ByteArray) (hz : s.size ≤ 1000) (w : World) :
    Calls Tryz.prog 141 #[.string s] w fun e w' => e = .returned (.int .u32 (more 0 s.data.toList : Nat)) ∧ w = w' := by
  go_enter Tryz.func141, Tryz.ntmps141
  go_wp2_with fail
  refine (rmore_c 0 (by decide) s hz _).mono ?_; rintro e u ⟨rfl, rfl⟩
  go_wp2_with fail
  go_ret
  exact ⟨rfl, rfl⟩
set_option maxHeartbeats 1000000 in
theorem tail_c (n : Nat) (hn : n < 4294967296) (w : World) :
    Calls Tryz.prog 115 #[.int .u32 (n : Int)] w fun e w' => e = .returned (.string (bs (tl n))) ∧ Gr w w' := by
  have hc := conv4 184 n hn
  go_enter Tryz.func115, Tryz.ntmps115
  go_wp2_with fail
  go_rounds 5
  go_ret
  exact ⟨rfl, Gr.of (by go_grown)⟩
def cl (s : ByteArray) : ByteArray := s ++ bs (tl (more 0 s.data.toList))
theorem cl_size (s : ByteArray) : (cl s).size = s.size + 4 := by unfold cl; rw [ByteArray.size_append, bs_size, tl_length]
set_option maxHeartbeats 1000000 in
theorem close_c (s : ByteArray) (hz : s.size ≤ 1000) (w : World) :
    Calls Tryz.prog 87 #[.string s] w fun e w' => e = .returned (.string (cl s)) ∧ Gr w w' := by
  have h4 : (bs (tl (more 0 s.data.toList))).size = 4 := by rw [bs_size, tl_length]
  go_enter Tryz.func87, Tryz.ntmps87
  go_wp2_with fail
  refine (of_c s hz _).mono ?_; rintro e u ⟨rfl, g⟩
  go_wp2_with fail
  refine (tail_c _ (more_lt (by decide) _) _).mono ?_; rintro e u2 ⟨rfl, g2⟩
  go_wp2_with fail
  go_ret
  exact ⟨rfl, g.trans g2⟩
theorem and255 (m : Nat) (h : m < 4294967296) : bits .and .u32 (m : Int) 255 = (m : Int) % 256 := by
  have e := u32_and_nat m 255 h (by decide)
  rw [Nat.and_two_pow_sub_one_eq_mod m 8] at e
  rw [Int.natCast_emod] at e
  exact e
set_option maxHeartbeats 1000000 in
theorem rclose_c (s : ByteArray) (hz : s.size ≤ 1000) (w : World) :
    Calls Tryz.prog 106 #[.string s] w fun e w' => e = .returned (.string (cl s)) ∧ Gr w w' := by
  have h4 : (bs (tl (more 0 s.data.toList))).size = 4 := by rw [bs_size, tl_length]
  have hn := more_lt (sum := 0) (by decide) s.data.toList
  have R := fun w => rof_c s hz w
  unfold cl
  generalize more 0 s.data.toList = n at R hn h4 ⊢
  go_enter Tryz.func106, Tryz.ntmps106
  go_wp2_with fail
  refine (R _).mono ?_; rintro e u ⟨rfl, rfl⟩
  have hc := conv4 5 n hn
  have q1 := and255 n hn
  have q2 : bits .and .u32 ((n : Int) / 256) 255 = (n : Int) / 256 % 256 := by
    have := and255 (n / 256) (by omega); rw [Int.natCast_ediv] at this; exact this
  have q3 : bits .and .u32 ((n : Int) / 65536) 255 = (n : Int) / 65536 % 256 := by
    have := and255 (n / 65536) (by omega); rw [Int.natCast_ediv] at this; exact this
  go_wp2_with fail
  go_ret
  exact ⟨rfl, Gr.of (by go_grown)⟩
end Go.Proofs.YtignfbdgpgidpaaGreatDoor
/- The contracts of Open and of the document's own Open: by walks of their texts. -/
namespace Go.Proofs.YtignfbdgpgidpaaGreatDoor
open Go.RowKit CrcPlain
set_option linter.unusedVariables false
set_option linter.unusedSimpArgs false
set_option maxRecDepth 20000
def ahead (s : ByteArray) : ByteArray := s.extract 0 (s.size - 4)
def opB (s : ByteArray) : Bool := decide (4 ≤ s.size ∧ s.extract (s.size - 4) s.size = bs (tl (more 0 (ahead s).data.toList)))
def opS (s : ByteArray) : ByteArray := if opB s = true then ahead s else ⟨#[]⟩
theorem opS_no {s : ByteArray} (h : opB s = false) : opS s = ⟨#[]⟩ := by simp [opS, h]
theorem opS_yes {s : ByteArray} (h : opB s = true) : opS s = ahead s := by simp [opS, h]
theorem eq_list {a b : ByteArray} : (a.toList == b.toList) = decide (a = b) := by
  apply Bool.eq_iff_iff.2
  simp only [beq_iff_eq, decide_eq_true_iff]
  constructor
  · intro h
    rw [Lib.toList_data, Lib.toList_data] at h
    apply ByteArray.ext; exact Array.toList_inj.1 h
  · intro h; rw [h]
theorem ahead_size (s : ByteArray) (h : 4 ≤ s.size) : (ahead s).size = s.size - 4 := by unfold ahead; rw [ByteArray.size_extract]; omega
set_option maxHeartbeats 1000000 in
theorem open_no (s : ByteArray) (h4 : s.size < 4) (w : World) :
    Calls Tryz.prog 147 #[.string s] w fun e w' => e = .returned (.tuple #[.string (opS s), .bool (opB s)]) ∧ Gr w w' := by
  have hb : opB s = false := by unfold opB; rw [decide_eq_false_iff_not]; omega
  have hs := opS_no hb
  have g1 : decide ((s.size : Int) - 4 < 0) = true := by rw [decide_eq_true_iff]; omega
  have g2 : decide ((s.size : Int) < 4) = true := by rw [decide_eq_true_iff]; omega
  go_enter Tryz.func147, Tryz.ntmps147
  go_wp2_with fail
  go_quiet (fail)
  go_wp2_with fail
  go_ret2
  exact ⟨ret_sb hs.symm hb.symm, grN w nq⟩
set_option maxHeartbeats 1000000 in
theorem open_any (s : ByteArray) (h4 : 4 ≤ s.size) (hz : s.size ≤ 1000) (w : World) :
    Calls Tryz.prog 147 #[.string s] w fun e w' => e = .returned (.tuple #[.string (opS s), .bool (opB s)]) ∧ Gr w w' := by
  have hlen := ahead_size s h4
  have hn := more_lt (sum := 0) (by decide) (ahead s).data.toList
  have C := fun w => of_c (ahead s) (by omega) w
  unfold ahead at C hn
  obtain ⟨k, hk⟩ : ∃ k, k = s.size - 4 := ⟨_, rfl⟩
  have e1 : (s.size : Int) - 4 = (k : Int) := by omega
  have e2 : k ≤ s.size := by omega
  have e3 : decide ((k : Int) < 0) = false := by rw [decide_eq_false_iff_not]; omega
  rw [← hk] at C hn
  obtain ⟨n, hn0⟩ : ∃ n, n = more 0 (s.extract 0 k).data.toList := ⟨_, rfl⟩
  rw [← hn0] at C hn
  have HN := Lib.hid hn0
  clear hn0
  have hs4 : (s.extract 0 k).size ≤ 1000 := by rw [ByteArray.size_extract]; omega
  cases hb : opB s
  · have hs := opS_no hb
    unfold opB ahead at hb
    rw [← hk, ← HN.out] at hb
    have ht : ((s.extract k s.size).toList == (bs (tl n)).toList) = false := by
      rw [eq_list, decide_eq_false_iff_not]; rw [decide_eq_false_iff_not] at hb; intro h; exact hb ⟨h4, h⟩
    have HS := Lib.hid hs
    have HL := Lib.hid hlen
    clear hb hs hlen hk
    go_enter Tryz.func147, Tryz.ntmps147
    go_wp2_with fail
    go_region_held3 (fun w' => True) (trivial) ((first | (go_at_call 116; ((with_reducible refine (C _).mono ?_); rintro e u ⟨rfl, g⟩)) | (go_at_call 115; ((with_reducible refine (tail_c _ hn _).mono ?_); rintro e u2 ⟨rfl, g2⟩))))
    go_wp2_with fail
    go_ret2
    exact ⟨ret_sb HS.out.symm rfl, (Gr.ofDrew g).trans g2⟩
  · have hs := opS_yes hb
    unfold opB ahead at hb
    unfold ahead at hs
    rw [← hk] at hs
    rw [← hk, ← HN.out] at hb
    have ht : ((s.extract k s.size).toList == (bs (tl n)).toList) = true := by
      rw [eq_list, decide_eq_true_iff]; rw [decide_eq_true_iff] at hb; exact hb.2
    have HS := Lib.hid hs
    have HL := Lib.hid hlen
    clear hb hs hlen hk
    go_enter Tryz.func147, Tryz.ntmps147
    go_wp2_with fail
    go_region_held3 (fun w' => True) (trivial) ((first | (go_at_call 116; ((with_reducible refine (C _).mono ?_); rintro e u ⟨rfl, g⟩)) | (go_at_call 115; ((with_reducible refine (tail_c _ hn _).mono ?_); rintro e u2 ⟨rfl, g2⟩))))
    go_wp2_with fail
    refine (clone_c _ _ hs4).mono ?_; rintro e u3 ⟨rfl, g3⟩
    go_wp2_with fail
    go_ret2
    exact ⟨ret_sb HS.out.symm rfl, ((Gr.ofDrew g).trans g2).trans g3⟩
theorem open_c (s : ByteArray) (hz : s.size ≤ 1000) (w : World) :
    Calls Tryz.prog 147 #[.string s] w fun e w' => e = .returned (.tuple #[.string (opS s), .bool (opB s)]) ∧ Gr w w' := by
  by_cases h : s.size < 4
  · exact open_no s h w
  · exact open_any s (by omega) hz w
theorem parts (s : ByteArray) (k : Nat) (h : k ≤ s.size) : s.extract 0 k ++ s.extract k s.size = s := by
  apply ByteArray.ext
  apply Array.toList_inj.1
  simp [ByteArray.data_append]
theorem cl_is (s : ByteArray) (h4 : 4 ≤ s.size) : (cl (ahead s) = s) ↔ opB s = true := by
  have hp := parts s (s.size - 4) (by omega)
  unfold opB cl
  rw [decide_eq_true_iff]
  have ha : ahead s = s.extract 0 (s.size - 4) := rfl
  constructor
  · intro h
    refine ⟨h4, ?_⟩
    have h2 : ahead s ++ bs (tl (more 0 (ahead s).data.toList)) = ahead s ++ s.extract (s.size - 4) s.size := by rw [h, ha, hp]
    have h3 := congrArg (fun x => x.data.toList) h2
    simp only [ByteArray.data_append, Array.toList_append] at h3
    apply ByteArray.ext
    exact (Array.toList_inj.1 (List.append_cancel_left h3)).symm
  · intro h
    rw [← h.2, ha]; exact hp
end Go.Proofs.YtignfbdgpgidpaaGreatDoor
