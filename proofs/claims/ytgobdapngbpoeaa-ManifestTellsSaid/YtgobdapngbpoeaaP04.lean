/- In one text: Clone, CrcOpen, CrcTurnPlain. -/
import Derived.Test.YtgobdapngbpoeaaRows
import Derived.Test.YtgobdapngbpoeaaP00
import Derived.Shelf.LaysM
import Derived.Shelf.Strconv.Clone
import Derived.Test.YtgobdapngbpoeaaP03
import Derived.Deep.RegionLaw
import Derived.RegionTactic
import Derived.BigRegion
import Derived.Deep.QuietTactic
import Derived.BigQuiet
import Derived.Lib.Strings
import Derived.Deep.RegionHeld3
import Derived.Test.YtgobdapngbpoeaaP01
/- strings.Clone gives the same bytes: by the library's contract of internal/stringslite.Clone, laid at this program's numbers. -/
namespace Go.Proofs.Ytgobdapngbpoeaa
open Go.RowKit
set_option linter.unusedVariables false
def cloneRen : Go.Shelf.Ren := ⟨fun | 316 => 50 | n => n, fun | 9 => 9 | 3 => 3 | 4 => 4 | 37 => 59 | 0 => 0 | 127 => 80 | 5 => 5 | n => n, fun | n => n⟩
theorem cloneLaid : Go.Proofs.LaysM.n316 Try.prog cloneRen := {
  mixed := by kernel_rfl
  f316 := Try.func50.trans (congrArg some (by kernel_rfl))
  t0 := Try.underlying0
  a0 := Try.isAgg0
  z0 := Try.sizeOf0
  v0 := Try.zeroValue0
  t3 := Try.underlying3
  a3 := Try.isAgg3
  z3 := Try.sizeOf3
  v3 := Try.zeroValue3
  t4 := Try.underlying4
  a4 := Try.isAgg4
  z4 := Try.sizeOf4
  v4 := Try.zeroValue4
  t9 := Try.underlying9
  a9 := Try.isAgg9
  z9 := Try.sizeOf9
  v9 := Try.zeroValue9
  t37 := Try.underlying59
  a37 := Try.isAgg59
  z37 := Try.sizeOf59
  v37 := Try.zeroValue59
  t127 := Try.underlying80
  a127 := Try.isAgg80
  z127 := Try.sizeOf80
  v127 := Try.zeroValue80
  t5 := Try.underlying5
  a5 := Try.isAgg5
  z5 := Try.sizeOf5
  v5 := Try.zeroValue5
  i0 := by kernel_rfl
  i3 := by kernel_rfl
  i4 := by kernel_rfl
  i5 := by kernel_rfl
  i9 := by kernel_rfl
  i37 := by kernel_rfl
  i127 := by kernel_rfl }
theorem clone_c (s : ByteArray) (w : World) (hs : s.size ≤ 1000) :
    Calls Try.prog 40 #[.string s] w fun e w' => e = .returned (.string s) ∧ Gr w w' := by
  go_enter Try.func40, Try.ntmps40
  go_wp2_with fail
  refine (Any.stringslite_Clone cloneLaid s w (by omega)).mono ?_
  rintro e u ⟨rfl, g⟩
  go_wp2
  go_ret
  exact ⟨rfl, Gr.of g⟩
end Go.Proofs.Ytgobdapngbpoeaa
/- The contracts of Open and of the document's own Open: by walks of their texts. -/
namespace Go.Proofs.Ytgobdapngbpoeaa
open Go.RowKit CrcPlain
set_option linter.unusedVariables false
set_option linter.unusedSimpArgs false
set_option maxRecDepth 20000
def ahead (s : ByteArray) : ByteArray := s.extract 0 (s.size - 4)
/-- Is what stands behind the sum of what stands ahead? -/
def opB (s : ByteArray) : Bool := decide (4 ≤ s.size ∧ s.extract (s.size - 4) s.size = bs (tl (more 0 (ahead s).data.toList)))
def opS (s : ByteArray) : ByteArray := if opB s = true then ahead s else ⟨#[]⟩
theorem opS_no {s : ByteArray} (h : opB s = false) : opS s = ⟨#[]⟩ := by simp [opS, h]
theorem opS_yes {s : ByteArray} (h : opB s = true) : opS s = ahead s := by simp [opS, h]
theorem eq_list {a b : ByteArray} : (a.toList == b.toList) = decide (a = b) := by
  apply Bool.eq_iff_iff.2
  simp only [beq_iff_eq, decide_eq_true_iff]
  constructor
  · intro h
    rw [Lib.toList_data, Lib.toList_data] at h
    apply ByteArray.ext; exact Array.toList_inj.1 h
  · intro h; rw [h]
theorem ahead_size (s : ByteArray) (h : 4 ≤ s.size) : (ahead s).size = s.size - 4 := by unfold ahead; rw [ByteArray.size_extract]; omega
set_option maxHeartbeats 1000000 in
theorem open_no (s : ByteArray) (h4 : s.size < 4) (w : World) :
    Calls Try.prog 25 #[.string s] w fun e w' => e = .returned (.tuple #[.string (opS s), .bool (opB s)]) ∧ Gr w w' := by
  have hb : opB s = false := by unfold opB; rw [decide_eq_false_iff_not]; omega
  have hs := opS_no hb
  have g1 : decide ((s.size : Int) - 4 < 0) = true := by rw [decide_eq_true_iff]; omega
  have g2 : decide ((s.size : Int) < 4) = true := by rw [decide_eq_true_iff]; omega
  go_enter Try.func25, Try.ntmps25
  go_wp2_with fail
  go_quiet (fail)
  go_wp2_with fail
  go_ret2
  exact ⟨ret_sb hs.symm hb.symm, grN w nq⟩
set_option maxHeartbeats 1000000 in
theorem open_any (s : ByteArray) (h4 : 4 ≤ s.size) (hz : s.size ≤ 1000) (w : World) :
    Calls Try.prog 25 #[.string s] w fun e w' => e = .returned (.tuple #[.string (opS s), .bool (opB s)]) ∧ Gr w w' := by
  have hlen := ahead_size s h4
  have hn := more_lt (sum := 0) (by decide) (ahead s).data.toList
  have C := fun w => of_c (ahead s) (by omega) w
  unfold ahead at C hn
  obtain ⟨k, hk⟩ : ∃ k, k = s.size - 4 := ⟨_, rfl⟩
  have e1 : (s.size : Int) - 4 = (k : Int) := by omega
  have e2 : k ≤ s.size := by omega
  have e3 : decide ((k : Int) < 0) = false := by rw [decide_eq_false_iff_not]; omega
  rw [← hk] at C hn
  obtain ⟨n, hn0⟩ : ∃ n, n = more 0 (s.extract 0 k).data.toList := ⟨_, rfl⟩
  rw [← hn0] at C hn
  have HN := Lib.hid hn0
  clear hn0
  have hs4 : (s.extract 0 k).size ≤ 1000 := by rw [ByteArray.size_extract]; omega
  cases hb : opB s
  · have hs := opS_no hb
    unfold opB ahead at hb
    rw [← hk, ← HN.out] at hb
    have ht : ((s.extract k s.size).toList == (bs (tl n)).toList) = false := by
      rw [eq_list, decide_eq_false_iff_not]; rw [decide_eq_false_iff_not] at hb; intro h; exact hb ⟨h4, h⟩
    have HS := Lib.hid hs
    have HL := Lib.hid hlen
    clear hb hs hlen hk
    go_enter Try.func25, Try.ntmps25
    go_wp2_with fail
    go_region_held3 (fun w' => True) (trivial) ((first | (go_at_call 37; ((with_reducible refine (C _).mono ?_); rintro e u ⟨rfl, g⟩)) | (go_at_call 36; ((with_reducible refine (tail_c _ hn _).mono ?_); rintro e u2 ⟨rfl, g2⟩))))
    go_wp2_with fail
    go_ret2
    exact ⟨ret_sb HS.out.symm rfl, (Gr.ofDrew g).trans g2⟩
  · have hs := opS_yes hb
    unfold opB ahead at hb
    unfold ahead at hs
    rw [← hk] at hs
    rw [← hk, ← HN.out] at hb
    have ht : ((s.extract k s.size).toList == (bs (tl n)).toList) = true := by
      rw [eq_list, decide_eq_true_iff]; rw [decide_eq_true_iff] at hb; exact hb.2
    have HS := Lib.hid hs
    have HL := Lib.hid hlen
    clear hb hs hlen hk
    go_enter Try.func25, Try.ntmps25
    go_wp2_with fail
    go_region_held3 (fun w' => True) (trivial) ((first | (go_at_call 37; ((with_reducible refine (C _).mono ?_); rintro e u ⟨rfl, g⟩)) | (go_at_call 36; ((with_reducible refine (tail_c _ hn _).mono ?_); rintro e u2 ⟨rfl, g2⟩))))
    go_wp2_with fail
    refine (clone_c _ _ hs4).mono ?_; rintro e u3 ⟨rfl, g3⟩
    go_wp2_with fail
    go_ret2
    exact ⟨ret_sb HS.out.symm rfl, ((Gr.ofDrew g).trans g2).trans g3⟩
theorem open_c (s : ByteArray) (hz : s.size ≤ 1000) (w : World) :
    Calls Try.prog 25 #[.string s] w fun e w' => e = .returned (.tuple #[.string (opS s), .bool (opB s)]) ∧ Gr w w' := by
  by_cases h : s.size < 4
  · exact open_no s h w
  · exact open_any s (by omega) hz w
theorem parts (s : ByteArray) (k : Nat) (h : k ≤ s.size) : s.extract 0 k ++ s.extract k s.size = s := by
  apply ByteArray.ext
  apply Array.toList_inj.1
  simp [ByteArray.data_append]
theorem cl_is (s : ByteArray) (h4 : 4 ≤ s.size) : (cl (ahead s) = s) ↔ opB s = true := by
  have hp := parts s (s.size - 4) (by omega)
  unfold opB cl
  rw [decide_eq_true_iff]
  have ha : ahead s = s.extract 0 (s.size - 4) := rfl
  constructor
  · intro h
    refine ⟨h4, ?_⟩
    have h2 : ahead s ++ bs (tl (more 0 (ahead s).data.toList)) = ahead s ++ s.extract (s.size - 4) s.size := by rw [h, ha, hp]
    have h3 := congrArg (fun x => x.data.toList) h2
    simp only [ByteArray.data_append, Array.toList_append] at h3
    apply ByteArray.ext
    exact (Array.toList_inj.1 (List.append_cancel_left h3)).symm
  · intro h
    rw [← h.2, ha]; exact hp
end Go.Proofs.Ytgobdapngbpoeaa
/- Plain facts on bytes of which bits are turned, without the model. -/
namespace Go.Proofs.Ytgobdapngbpoeaa
namespace CrcPlain
theorem mul_xor (k a b : Nat) : 2 ^ k * (a ^^^ b) = 2 ^ k * a ^^^ 2 ^ k * b := by
  apply Nat.eq_of_testBit_eq
  intro i
  rw [Nat.testBit_xor, Nat.testBit_two_pow_mul, Nat.testBit_two_pow_mul, Nat.testBit_two_pow_mul, Nat.testBit_xor]
  cases decide (i ≥ k) <;> simp
theorem le_cons (b : UInt8) (l : List UInt8) : le (b :: l) = b.toNat ^^^ 2 ^ 8 * le l := by
  have := add_xor 8 (b := b.toNat) b.toNat_lt (le l)
  rw [← this]; rfl
/-- One byte turned. -/
theorem le_set : ∀ (l : List UInt8) (i : Nat) (x : Nat) (b c : UInt8), l[i]? = some b → c.toNat = b.toNat ^^^ x → le (l.set i c) = le l ^^^ 2 ^ (8 * i) * x
  | [], i, x, b, c, h, _ => by simp at h
  | a :: l, 0, x, b, c, h, hc => by
    simp at h
    subst h
    rw [List.set_cons_zero, le_cons, le_cons, hc]
    simp only [Nat.mul_zero, Nat.pow_zero, Nat.one_mul]
    rw [Nat.xor_assoc, Nat.xor_assoc, Nat.xor_comm x]
  | a :: l, i + 1, x, b, c, h, hc => by
    have ih := le_set l i x b c (by simpa using h) hc
    rw [List.set_cons_succ, le_cons, le_cons, ih, mul_xor, Nat.xor_assoc]
    congr 2
    rw [← Nat.mul_assoc, ← Nat.pow_add]
    congr 2
    omega
theorem le_lt : ∀ l : List UInt8, le l < 2 ^ (8 * l.length)
  | [] => by simp [le]
  | b :: l => by
    have ih := le_lt l
    have hb := b.toNat_lt
    have e : 8 * (b :: l).length = 8 * l.length + 8 := by rw [List.length_cons]; omega
    rw [e, Nat.pow_add]
    show b.toNat + 256 * le l < _
    omega
theorem le_inj : ∀ {a b : List UInt8}, a.length = b.length → le a = le b → a = b
  | [], [], _, _ => rfl
  | x :: a, y :: b, hl, h => by
    have hx := x.toNat_lt
    have hy := y.toNat_lt
    have h' : x.toNat + 256 * le a = y.toNat + 256 * le b := h
    have h1 : x = y := UInt8.toNat_inj.1 (by omega)
    have h2 := le_inj (a := a) (b := b) (by simpa using hl) (by omega)
    rw [h1, h2]
theorem low_next (b k : Nat) (h : b / 2 ^ k % 2 = 1) : b % 2 ^ (k + 1) = b % 2 ^ k ^^^ 2 ^ k := by
  have hm := Nat.mod_pow_succ (x := b) (b := 2) (k := k)
  rw [hm, h, add_xor k (Nat.mod_lt _ (Nat.pow_pos (by decide)))]
  rw [Nat.mul_one]
theorem low_same (b k : Nat) (h : b / 2 ^ k % 2 = 0) : b % 2 ^ (k + 1) = b % 2 ^ k := by
  have hm := Nat.mod_pow_succ (x := b) (b := 2) (k := k)
  rw [hm, h, Nat.mul_zero, Nat.add_zero]
theorem low_pos (b k : Nat) (h : b / 2 ^ k % 2 = 1) : b % 2 ^ (k + 1) ≠ 0 := by
  have hm := Nat.mod_pow_succ (x := b) (b := 2) (k := k)
  have hp : 0 < 2 ^ k := Nat.pow_pos (by decide)
  rw [hm, h, Nat.mul_one]
  omega
/-- l with the lowest k of the bits put on it, from one on. -/
def Turn (l l' : List UInt8) (first w : Nat) : Prop := l'.length = l.length ∧ le l' = le l ^^^ 2 ^ first * w
theorem Turn.start (l : List UInt8) (first b : Nat) : Turn l l first (b % 2 ^ 0) := by
  refine ⟨rfl, ?_⟩
  have : b % 2 ^ 0 = 0 := by rw [Nat.pow_zero]; omega
  rw [this, Nat.mul_zero, Nat.xor_zero]
theorem Turn.on {l l' : List UInt8} {first b k : Nat} (h : Turn l l' first (b % 2 ^ k)) (hb : b / 2 ^ k % 2 = 1) {x c : UInt8} (hx : l'[(first + k) / 8]? = some x) (hc : c.toNat = x.toNat ^^^ 2 ^ ((first + k) % 8)) :
    Turn l (l'.set ((first + k) / 8) c) first (b % 2 ^ (k + 1)) := by
  refine ⟨by rw [List.length_set]; exact h.1, ?_⟩
  rw [le_set l' _ _ _ _ hx hc, h.2, low_next b k hb, mul_xor, Nat.xor_assoc, ← Nat.pow_add, ← Nat.pow_add]
  congr 3
  omega
theorem Turn.off {l l' : List UInt8} {first b k : Nat} (h : Turn l l' first (b % 2 ^ k)) (hb : b / 2 ^ k % 2 = 0) : Turn l l' first (b % 2 ^ (k + 1)) := by
  rw [low_same b k hb]; exact h
theorem Turn.zero {l l' : List UInt8} {first : Nat} (h : Turn l l' first 0) : l' = l := by
  apply le_inj h.1
  rw [h.2, Nat.mul_zero, Nat.xor_zero]
/-- Of bytes that were closed by their sum, nothing that was turned leaves what they leave. -/
theorem Turn.apart {l l' : List UInt8} {first w : Nat} (h : Turn l l' first w) (hw : w < 4294967296) (hw0 : w ≠ 0) (hf : first ≤ 8 * l.length) (r : Nat) : reg r l' ≠ reg r l := by
  refine reg_apart h.1 hw hw0 (by rw [h.1]; exact hf) ?_
  rw [h.2, Nat.xor_comm (le l), Nat.xor_assoc, Nat.xor_self, Nat.xor_zero]
end CrcPlain
end Go.Proofs.Ytgobdapngbpoeaa
