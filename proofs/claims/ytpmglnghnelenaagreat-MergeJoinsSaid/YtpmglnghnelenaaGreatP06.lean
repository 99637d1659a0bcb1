/- In one text: CrcTurnPlain, CrcTurned, CrcBack, FrameEnd2, FrameGetEnd, FrameRget, FrameRgetEnd, FrameArgs. -/
import Derived.Test.YtpmglnghnelenaaGreatP01
import Derived.Test.YtpmglnghnelenaaGreatP03
import Derived.Deep.RegionHeld3
import Derived.BigRegion
import Derived.Lib.ConvBytes
import Derived.KernelRfl
import Derived.Test.YtpmglnghnelenaaGreatP04
import Derived.Test.YtpmglnghnelenaaGreatP05
import Derived.Laws.ResultCell
/- Plain facts on bytes of which bits are turned, without the model. -/
namespace Go.Proofs.YtpmglnghnelenaaGreat
namespace CrcPlain
theorem mul_xor (k a b : Nat) : 2 ^ k * (a ^^^ b) = 2 ^ k * a ^^^ 2 ^ k * b := by
  apply Nat.eq_of_testBit_eq
  intro i
  rw [Nat.testBit_xor, Nat.testBit_two_pow_mul, Nat.testBit_two_pow_mul, Nat.testBit_two_pow_mul, Nat.testBit_xor]
  cases decide (i ≥ k) <;> simp
theorem le_cons (b : UInt8) (l : List UInt8) : le (b :: l) = b.toNat ^^^ 2 ^ 8 * le l := by
  have := add_xor 8 (b := b.toNat) b.toNat_lt (le l)
  rw [← this]; rfl
/-- One byte turned. -/
theorem le_set : ∀ (l : List UInt8) (i : Nat) (x : Nat) (b c : UInt8), l[i]? = some b → c.toNat = b.toNat ^^^ x → le (l.set i c) = le l ^^^ 2 ^ (8 * i) * x
  | [], i, x, b, c, h, _ => by simp at h
  | a :: l, 0, x, b, c, h, hc => by
    simp at h
    subst h
    rw [List.set_cons_zero, le_cons, le_cons, hc]
    simp only [Nat.mul_zero, Nat.pow_zero, Nat.one_mul]
    rw [Nat.xor_assoc, Nat.xor_assoc, Nat.xor_comm x]
  | a :: l, i + 1, x, b, c, h, hc => by
    have ih := le_set l i x b c (by simpa using h) hc
    rw [List.set_cons_succ, le_cons, le_cons, ih, mul_xor, Nat.xor_assoc]
    congr 2
    rw [← Nat.mul_assoc, ← Nat.pow_add]
    congr 2
    omega
theorem le_lt : ∀ l : List UInt8, le l < 2 ^ (8 * l.length)
  | [] => by simp [le]
  | b :: l => by
    have ih := le_lt l
    have hb := b.toNat_lt
    have e : 8 * (b :: l).length = 8 * l.length + 8 := by rw [List.length_cons]; omega
    rw [e, Nat.pow_add]
    show b.toNat + 256 * le l < _
    omega
theorem le_inj : ∀ {a b : List UInt8}, a.length = b.length → le a = le b → a = b
  | [], [], _, _ => rfl
  | x :: a, y :: b, hl, h => by
    have hx := x.toNat_lt
    have hy := y.toNat_lt
    have h' : x.toNat + 256 * le a = y.toNat + 256 * le b := h
    have h1 : x = y := UInt8.toNat_inj.1 (by omega)
    have h2 := le_inj (a := a) (b := b) (by simpa using hl) (by omega)
    rw [h1, h2]
theorem low_next (b k : Nat) (h : b / 2 ^ k % 2 = 1) : b % 2 ^ (k + 1) = b % 2 ^ k ^^^ 2 ^ k := by
  have hm := Nat.mod_pow_succ (x := b) (b := 2) (k := k)
  rw [hm, h, add_xor k (Nat.mod_lt _ (Nat.pow_pos (by decide)))]
  rw [Nat.mul_one]
theorem low_same (b k : Nat) (h : b / 2 ^ k % 2 = 0) : b % 2 ^ (k + 1) = b % 2 ^ k := by
  have hm := Nat.mod_pow_succ (x := b) (b := 2) (k := k)
  rw [hm, h, Nat.mul_zero, Nat.add_zero]
theorem low_pos (b k : Nat) (h : b / 2 ^ k % 2 = 1) : b % 2 ^ (k + 1) ≠ 0 := by
  have hm := Nat.mod_pow_succ (x := b) (b := 2) (k := k)
  have hp : 0 < 2 ^ k := Nat.pow_pos (by decide)
  rw [hm, h, Nat.mul_one]
  omega
/-- l with the lowest k of the bits put on it, from one on. -/
def Turn (l l' : List UInt8) (first w : Nat) : Prop := l'.length = l.length ∧ le l' = le l ^^^ 2 ^ first * w
theorem Turn.start (l : List UInt8) (first b : Nat) : Turn l l first (b % 2 ^ 0) := by
  refine ⟨rfl, ?_⟩
  have : b % 2 ^ 0 = 0 := by rw [Nat.pow_zero]; omega
  rw [this, Nat.mul_zero, Nat.xor_zero]
theorem Turn.on {l l' : List UInt8} {first b k : Nat} (h : Turn l l' first (b % 2 ^ k)) (hb : b / 2 ^ k % 2 = 1) {x c : UInt8} (hx : l'[(first + k) / 8]? = some x) (hc : c.toNat = x.toNat ^^^ 2 ^ ((first + k) % 8)) :
    Turn l (l'.set ((first + k) / 8) c) first (b % 2 ^ (k + 1)) := by
  refine ⟨by rw [List.length_set]; exact h.1, ?_⟩
  rw [le_set l' _ _ _ _ hx hc, h.2, low_next b k hb, mul_xor, Nat.xor_assoc, ← Nat.pow_add, ← Nat.pow_add]
  congr 3
  omega
theorem Turn.off {l l' : List UInt8} {first b k : Nat} (h : Turn l l' first (b % 2 ^ k)) (hb : b / 2 ^ k % 2 = 0) : Turn l l' first (b % 2 ^ (k + 1)) := by
  rw [low_same b k hb]; exact h
theorem Turn.zero {l l' : List UInt8} {first : Nat} (h : Turn l l' first 0) : l' = l := by
  apply le_inj h.1
  rw [h.2, Nat.mul_zero, Nat.xor_zero]
/-- Of bytes that were closed by their sum, nothing that was turned leaves what they leave. -/
theorem Turn.apart {l l' : List UInt8} {first w : Nat} (h : Turn l l' first w) (hw : w < 4294967296) (hw0 : w ≠ 0) (hf : first ≤ 8 * l.length) (r : Nat) : reg r l' ≠ reg r l := by
  refine reg_apart h.1 hw hw0 (by rw [h.1]; exact hf) ?_
  rw [h.2, Nat.xor_comm (le l), Nat.xor_assoc, Nat.xor_self, Nat.xor_zero]
end CrcPlain
end Go.Proofs.YtpmglnghnelenaaGreat
/- The contract of the document's own turning of bits: by a walk of its text. -/
namespace Go.Proofs.YtpmglnghnelenaaGreat
open Go.RowKit CrcPlain
set_option linter.unusedVariables false
set_option linter.unusedSimpArgs false
set_option maxRecDepth 20000
/-- Block B holds the bytes l, and may be written. -/
def Row (B : Nat) (l : List UInt8) (w : World) : Prop := B < w.heap.size ∧ ∀ j x, l[j]? = some x → w.cell? ⟨B, j, none⟩ = some (.int .u8 (x.toNat : Int)) ∧ w.frozen? ⟨B, j, none⟩ = false
theorem row_start (w : World) (s : ByteArray) : Row w.heap.size s.data.toList (Lib.bytesWorld w 5 s) ∧ Gr w (Lib.bytesWorld w 5 s) := by
  refine ⟨⟨by rw [Lib.bytesWorld_size]; omega, ?_⟩, ⟨rfl, rfl, rfl, by rw [Lib.bytesWorld_size]; omega, fun k hk => Lib.bytesWorld_at_old w _ s k hk⟩⟩
  intro j x hx
  have hj : j < s.size := by
    have := (List.getElem?_eq_some_iff.1 hx).1
    simpa using this
  refine ⟨?_, ?_⟩
  · rw [Lib.bytesWorld_cell w _ s j hj]
    rw [List.getD_eq_getElem?_getD, hx]
    rfl
  · unfold World.frozen?
    rw [Lib.bytesWorld_at_new]
    have hz : s.size ≤ (Lib.bytesCells w 5 s).size := by
      unfold Lib.bytesCells
      simp
    simp
    omega
theorem bit_is (b k : Nat) (hb : b < 4294967296) (h : b / 2 ^ k % 2 = 1) : bits .and .u32 ((b : Int) / 2 ^ k) 1 = 1 := by
  have hd : b / 2 ^ k < 4294967296 := Nat.lt_of_le_of_lt (Nat.div_le_self _ _) hb
  have e := u32_and_nat (b / 2 ^ k) 1 hd (by decide)
  rw [Nat.and_two_pow_sub_one_eq_mod _ 1, Nat.pow_one, h, Int.natCast_ediv, Int.natCast_pow] at e
  exact e
theorem bit_not (b k : Nat) (hb : b < 4294967296) (h : b / 2 ^ k % 2 = 0) : bits .and .u32 ((b : Int) / 2 ^ k) 1 = 0 := by
  have hd : b / 2 ^ k < 4294967296 := Nat.lt_of_le_of_lt (Nat.div_le_self _ _) hb
  have e := u32_and_nat (b / 2 ^ k) 1 hd (by decide)
  rw [Nat.and_two_pow_sub_one_eq_mod _ 1, Nat.pow_one, h, Int.natCast_ediv, Int.natCast_pow] at e
  exact e
theorem idx_at {s : ByteArray} {B cap i : Nat} (h : i < s.size) (W : World) : (Instr.indexAt 82 (.slice (some ⟨B, 0, none⟩) s.size cap) (.int .i64 (i : Int))).run Tryz.prog W = .ok (.pointer (some ⟨B, i, none⟩)) W := by
  have ea : Addr.add ⟨B, 0, none⟩ i = ⟨B, i, none⟩ := by by_cases h : i = 0 <;> simp [Addr.add, h]
  rw [run_indexAt_slice (h := by kernel_rfl), if_pos (by omega)]
  have hz : Tryz.prog.elem 82 = 5 := by kernel_rfl
  simp [hz, ea]
theorem shl_at {j : Nat} (hj : j < 8) : IntKind.u8.wrap ((2 : Int) ^ j) = ((2 ^ j : Nat) : Int) := by
  have : j = 0 ∨ j = 1 ∨ j = 2 ∨ j = 3 ∨ j = 4 ∨ j = 5 ∨ j = 6 ∨ j = 7 := by omega
  rcases this with rfl | rfl | rfl | rfl | rfl | rfl | rfl | rfl <;> rfl
theorem row_set {B : Nat} {l : List UInt8} {w : World} {i : Nat} {x : UInt8} {y : Nat} (h : Row B l w) (hx : l[i]? = some x) (hy : y < 256) :
    Row B (l.set i (UInt8.ofNat y)) (w.setCell ⟨B, i, none⟩ (.int .u8 (y : Int))).drew := by
  refine ⟨by simpa using h.1, ?_⟩
  intro j z hz
  by_cases hij : i = j
  · subst hij
    have hl := (List.getElem?_eq_some_iff.1 hx).1
    rw [List.getElem?_set_self hl] at hz
    have hz' : z = UInt8.ofNat y := by simpa using hz.symm
    subst hz'
    refine ⟨?_, by simpa using (h.2 i x hx).2⟩
    rw [World.cell?_drew, World.cell?_setCell_same' _ _ _ (by rw [(h.2 i x hx).1]; rfl), UInt8.toNat_ofNat']
    congr 3
    omega
  · rw [List.getElem?_set_ne hij] at hz
    refine ⟨?_, by simpa using (h.2 j z hz).2⟩
    rw [World.cell?_drew, World.cell?_setCell_other _ _ _ _ (by intro e; apply hij; injection e)]
    exact (h.2 j z hz).1
theorem conv_row {B : Nat} {l : List UInt8} {w : World} (h : Row B l w) (n cap : Nat) (hn : l.length = n) :
    (convert 82 9 (.slice (some ⟨B, 0, none⟩) n cap)).run Tryz.prog w = .ok (.string (bs l)) w := by
  subst hn
  refine run_convert_bytes_back (P := Tryz.prog) w 82 9 5 ⟨B, 0, none⟩ cap l Tryz.underlying82 Tryz.underlying5 Tryz.underlying9 (fun j hj => ?_)
  have ea : Addr.add ⟨B, 0, none⟩ j = ⟨B, j, none⟩ := by by_cases h : j = 0 <;> simp [Addr.add, h]
  rw [ea]
  exact (h.2 j l[j] (List.getElem?_eq_getElem hj)).1
/-- What comes of it: bytes on which some of the bits were put, and whether any was. -/
def TurnedAs (s : ByteArray) (first : Nat) (w : World) (e : Ending) (w' : World) : Prop :=
  ∃ (l : List UInt8) (v : Nat) (c : Bool), v < 4294967296 ∧ Turn s.data.toList l first v ∧ c = decide (v ≠ 0) ∧ e = .returned (.tuple #[.string (bs l), .bool c]) ∧ Gr w w'
/-- .. of no more bits than were asked for. -/
def TurnedIn (s : ByteArray) (first b : Nat) (w : World) (e : Ending) (w' : World) : Prop :=
  ∃ (l : List UInt8) (v : Nat) (c : Bool), v ≤ b ∧ v < 4294967296 ∧ Turn s.data.toList l first v ∧ c = decide (v ≠ 0) ∧ e = .returned (.tuple #[.string (bs l), .bool c]) ∧ Gr w w'
def TurnAt (s : ByteArray) (first b B : Nat) (w0 : World) (some_ k : Value) (wr : World) : Prop :=
  ∃ (n : Nat) (l : List UInt8) (c : Bool), n ≤ 32 ∧ k = .int .i64 n ∧ some_ = .bool c ∧ c = decide (b % 2 ^ n ≠ 0) ∧ Turn s.data.toList l first (b % 2 ^ n) ∧ Row B l wr ∧ Below B w0 wr
end Go.Proofs.YtpmglnghnelenaaGreat
/- Plain facts: what is closed is opened again; with bits turned nothing is opened. -/
namespace Go.Proofs.YtpmglnghnelenaaGreat
open Go.RowKit CrcPlain
set_option linter.unusedVariables false
set_option linter.unusedSimpArgs false
set_option maxRecDepth 20000
theorem opB_reg {x : ByteArray} (h : opB x = true) : reg 4294967295 x.data.toList = sts 32 4294967295 := by
  have h4 : 4 ≤ x.size := by unfold opB at h; rw [decide_eq_true_iff] at h; exact h.1
  have hc := (cl_is x h4).2 h
  have e : x.data.toList = (ahead x).data.toList ++ tl (more 0 (ahead x).data.toList) := by
    have := congrArg (fun s => s.data.toList) hc
    rw [← this]
    simp [cl, bs, ByteArray.data_append]
  rw [e]
  exact reg_closed _
theorem ahead_cl (s : ByteArray) : ahead (cl s) = s := by
  unfold ahead
  rw [cl_size]
  unfold cl
  apply ByteArray.ext
  apply Array.toList_inj.1
  have : s.size + 4 - 4 = s.size := by omega
  rw [this]
  simp [ByteArray.data_append]
  exact List.take_of_length_le (by simp)
theorem op_cl (s : ByteArray) : opB (cl s) = true ∧ opS (cl s) = s := by
  have h : opB (cl s) = true := (cl_is (cl s) (by rw [cl_size]; omega)).1 (by rw [ahead_cl])
  exact ⟨h, by rw [opS_yes h, ahead_cl]⟩
theorem op_turned {s : ByteArray} {l : List UInt8} {first v : Nat} (h : Turn (cl s).data.toList l first v) (hf : first < 8 * (cl s).size) (hv : v < 4294967296) (h0 : v ≠ 0) : opB (bs l) = false := by
  cases hb : opB (bs l)
  · rfl
  · exfalso
    have h1 := opB_reg hb
    have h2 := opB_reg (op_cl s).1
    have hl : (cl s).data.toList.length = (cl s).size := by simp
    exact h.apart hv h0 (by rw [hl]; omega) 4294967295 (h1.trans h2.symm)
theorem op_same {s : ByteArray} {l : List UInt8} {first v : Nat} (h : Turn (cl s).data.toList l first v) (h0 : v = 0) : bs l = cl s := by
  subst h0
  rw [h.zero, bs_toList]
end Go.Proofs.YtpmglnghnelenaaGreat
/- Plain facts on what the bytes of an end say. -/
namespace Go.Proofs.YtpmglnghnelenaaGreat
open Go.RowKit CrcPlain OctPlain FramePlain
set_option linter.unusedVariables false
set_option linter.unusedSimpArgs false
set_option maxRecDepth 20000
namespace FramePlain
def eB (s : ByteArray) : Bool := decide (s.size = 17) && decide (cntN s = 0) && opB s && (getB s 1 8 && decide (getN s 1 8 ≤ 4611686018427387904))
def eC (s : ByteArray) : Int := if eB s = true then getN s 1 8 else 0
def eM (s : ByteArray) : Int := if eB s = true then getN s 9 4 else 0
theorem eC_no {s : ByteArray} (h : eB s = false) : eC s = 0 := by simp [eC, h]
theorem eM_no {s : ByteArray} (h : eB s = false) : eM s = 0 := by simp [eM, h]
theorem eC_yes {s : ByteArray} (h : eB s = true) : eC s = getN s 1 8 := by simp [eC, h]
theorem eM_yes {s : ByteArray} (h : eB s = true) : eM s = getN s 9 4 := by simp [eM, h]
theorem ahead_data (s : ByteArray) : (ahead s).data.toList = s.data.toList.take (s.size - 4) := by
  unfold ahead
  simp [ByteArray.data_extract]
theorem cutL_ahead (s : ByteArray) (a k : Nat) (h : a + k ≤ s.size - 4) : cutL (ahead s) a k = cutL s a k := by
  unfold cutL
  rw [ahead_data, List.drop_take, List.take_take, Nat.min_eq_left (by omega)]
theorem get_ahead (s : ByteArray) (a k : Nat) (h : a + k ≤ s.size - 4) (h4 : 4 ≤ s.size) : getB (ahead s) a k = getB s a k ∧ getN (ahead s) a k = getN s a k := by
  have hc := cutL_ahead s a k h
  have hz := ahead_size s h4
  have hb : getB (ahead s) a k = getB s a k := by
    unfold getB
    rw [Int.toNat_natCast, Int.toNat_natCast, hc, hz]
    apply decide_eq_decide.2
    constructor <;> intro hh <;> refine ⟨hh.1, hh.2.1, by omega, hh.2.2.2⟩
  refine ⟨hb, ?_⟩
  unfold getN
  rw [hb, Int.toNat_natCast, Int.toNat_natCast, hc]
theorem beL_num : ∀ l : List UInt8, beL l.length (num l) = l := by
  intro l
  generalize hk : l.length = k
  induction k generalizing l with
  | zero => rw [List.eq_nil_of_length_eq_zero hk]; rfl
  | succ k ih =>
    obtain ⟨a, b, rfl⟩ : ∃ a b, l = a ++ [b] := ⟨l.dropLast, l.getLast (by intro h; rw [h] at hk; simp at hk), (List.dropLast_concat_getLast _).symm⟩
    rw [List.length_append, List.length_singleton] at hk
    have hb := b.toNat_lt
    have h1 : num (a ++ [b]) / 256 = num a := by rw [num_snoc]; omega
    have h2 : num (a ++ [b]) % 256 = b.toNat := by rw [num_snoc]; omega
    rw [beL, h1, h2, ih a (by omega)]
    simp
theorem get4_lt (s : ByteArray) (h : 13 ≤ s.size) : ∃ m : Nat, m < 4294967296 ∧ getN s 9 4 = m ∧ m = num (cutL s 9 4) ∧ getB s 9 4 = true := by
  have hl := cutL_length s 9 4 (by omega)
  have hlt := num_lt (cutL s 9 4)
  rw [hl] at hlt
  have hb : getB s (9 : Nat) (4 : Nat) = true := getB_yes (by omega) (by omega) (by omega)
  exact ⟨_, hlt, getN_yes hb, rfl, hb⟩
theorem get8_yes {s : ByteArray} (h : getB s 1 8 = true) : ∃ n : Nat, getN s 1 8 = n ∧ n = num (cutL s 1 8) := ⟨_, getN_yes (p := 1) (k := 8) h, rfl⟩
/-- Ahead of its sum an end's bytes are those of its numbers. -/
theorem ahead_end (s : ByteArray) (hz : s.size = 17) (h0 : cntN s = 0) : endS (num (cutL s 1 8)) (num (cutL s 9 4)) = ahead s := by
  have l0 := cutL_length s 0 1 (by omega)
  have l1 := cutL_length s 1 8 (by omega)
  have l2 := cutL_length s 9 4 (by omega)
  have b0 := beL_num (cutL s 0 1)
  have b1 := beL_num (cutL s 1 8)
  have b2 := beL_num (cutL s 9 4)
  rw [l0] at b0; rw [l1] at b1; rw [l2] at b2
  have hd := ahead_data s
  have e0 : cutL s 0 1 = [0] := by
    rw [← b0]
    unfold cntN at h0
    rw [h0]; rfl
  have hcat : cutL s 0 1 ++ (cutL s 1 8 ++ cutL s 9 4) = s.data.toList.take 13 := by
    unfold cutL
    rw [List.drop_zero]
    have q1 : s.data.toList.take 13 = s.data.toList.take 1 ++ (s.data.toList.drop 1).take 12 := by rw [← List.take_add]
    have q2 : (s.data.toList.drop 1).take 12 = (s.data.toList.drop 1).take 8 ++ ((s.data.toList.drop 1).drop 8).take 4 := by rw [← List.take_add]
    rw [q1, q2, List.drop_drop]
  unfold endS
  rw [b1, b2]
  apply ByteArray.ext
  apply Array.toList_inj.1
  rw [hd, hz, ← hcat, e0]
  rfl
theorem get_end {c m : Nat} (hc : c < 9223372036854775808) (hm : m < 4294967296) : cntN (cl (endS c m)) = 0 ∧ getB (cl (endS c m)) 1 8 = true ∧ getN (cl (endS c m)) 1 8 = c ∧ getN (cl (endS c m)) 9 4 = m := by
  have hd : (cl (endS c m)).data.toList = 0 :: (beL 8 c ++ (beL 4 m ++ tl (more 0 (endS c m).data.toList))) := by
    unfold cl endS
    rw [bs_app]
    simp [bs]
  have hz : (cl (endS c m)).size = 17 := by rw [cl_size, endS_size]
  generalize cl (endS c m) = s at hd hz
  have l8 := beL_length 8 c
  have l4 := beL_length 4 m
  have c0 : cutL s 0 1 = [0] := by unfold cutL; rw [hd]; rfl
  have c8 : cutL s 1 8 = beL 8 c := by
    unfold cutL; rw [hd, List.drop_succ_cons, List.drop_zero, List.take_append_of_le_length (by omega), List.take_of_length_le (by omega)]
  have c4 : cutL s 9 4 = beL 4 m := by
    unfold cutL
    rw [hd, List.drop_succ_cons, List.drop_append_of_le_length (by omega), List.drop_of_length_le (by omega), List.nil_append, List.take_append_of_le_length (by omega), List.take_of_length_le (by omega)]
  have n8 : num (cutL s 1 8) = c := by rw [c8]; exact num_beL 8 c (by omega)
  have n4 : num (cutL s 9 4) = m := by rw [c4]; exact num_beL 4 m (by omega)
  have g8 : getB s (1 : Nat) (8 : Nat) = true := getB_yes (by omega) (by omega) (by omega)
  have g4 : getB s (9 : Nat) (4 : Nat) = true := getB_yes (by omega) (by omega) (by omega)
  refine ⟨by unfold cntN; rw [c0]; rfl, g8, ?_, ?_⟩
  · have := getN_yes g8; rw [n8] at this; exact this
  · have := getN_yes g4; rw [n4] at this; exact this
end FramePlain
end Go.Proofs.YtpmglnghnelenaaGreat
/- The contract of GetEnd. -/
namespace Go.Proofs.YtpmglnghnelenaaGreat
open Go.RowKit CrcPlain OctPlain FramePlain
set_option linter.unusedVariables false
set_option linter.unusedSimpArgs false
set_option maxRecDepth 20000
theorem prefix_0 (s : ByteArray) (h : 0 < s.size) : ((s.extract 0 1).toList == [0]) = decide (cntN s = 0) := by
  have e0 : [0] = (ByteArray.mk #[0]).toList := by rw [Lib.toList_data]
  rw [e0]
  rw [eq_list]
  apply decide_eq_decide.2
  have l := cutL_length s 0 1 (by omega)
  have e : (s.extract 0 1).data.toList = cutL s 0 1 := by unfold cutL; simp [ByteArray.data_extract]
  have b := beL_num (cutL s 0 1)
  rw [l] at b
  have hlt := cntN_lt s
  constructor
  · intro hh
    have e2 := congrArg (fun x => x.data.toList) hh
    simp only [e] at e2
    unfold cntN; rw [e2]; rfl
  · intro hh
    unfold cntN at hh
    rw [hh] at b
    apply ByteArray.ext
    apply Array.toList_inj.1
    rw [e, ← b]; rfl
theorem prefix_c (s : ByteArray) (h : 0 < s.size) (w : World) :
    Calls Tryz.prog 154 #[.string s, .string (ByteArray.mk #[0])] w fun e w' => e = .returned (.bool (decide (cntN s = 0))) ∧ w = w' := by
  have hp := prefix_0 s h
  have hsl := slice_to s 1 (by omega)
  have h1 : (1 : Int) ≤ s.size := by omega
  have hz : (ByteArray.mk #[0]).size = 1 := rfl
  generalize decide (cntN s = 0) = b at hp
  go_enter Tryz.func154, Tryz.ntmps154
  go_wp2
  go_ret
  first | exact ⟨rfl, rfl⟩ | exact ⟨retb hp, rfl⟩

/-- What GetEnd hands out. -/
def EGot (s : ByteArray) (w : World) (e : Ending) (w' : World) : Prop :=
  e = .returned (.tuple #[.agg #[.int .i64 (eC s), .int .u32 (eM s)], .bool (eB s)]) ∧ Gr w w'
theorem egot_no {s : ByteArray} {w w' : World} (h : eB s = false) (g : Gr w w') : EGot s w (.returned (.tuple #[.agg #[.int .i64 0, .int .u32 0], .bool false])) w' := by
  refine ⟨?_, g⟩
  rw [eC_no h, eM_no h, h]

theorem egetend_short (s : ByteArray) (w : World) (h : ¬ s.size = 17) :
    Calls Tryz.prog 138 #[.string s] w (EGot s w) := by
  have hb : eB s = false := by unfold eB; rw [decide_eq_false h]; rfl
  have HB := Lib.hid hb
  clear hb
  have h1 : (((s.size : Int)) != 17) = true := by simpa using (by omega : ¬ (s.size : Int) = 17)
  go_enter Tryz.func138, Tryz.ntmps138
  go_wp2_with fail
  refine bodyPost_ret (v := .tuple #[.agg #[.int .i64 0, .int .u32 0], .bool false]) ?_ rfl (egot_no HB.out ?_)
  · rw [results_cell_tmp Tryz.results138]
    simp [go_sem]
  · exact Gr.of (by go_grown)

theorem egetend_head (s : ByteArray) (w : World) (h : s.size = 17) (h0 : ¬ cntN s = 0) :
    Calls Tryz.prog 138 #[.string s] w (EGot s w) := by
  have hb : eB s = false := by unfold eB; rw [decide_eq_false h0, Bool.and_false]; rfl
  have HB := Lib.hid hb
  have P := fun u => prefix_c s (by omega) u
  rw [decide_eq_false h0] at P
  clear hb h0
  have h1 : (((s.size : Int)) != 17) = false := by simpa using (by omega : (s.size : Int) = 17)
  clear h
  go_enter Tryz.func138, Tryz.ntmps138
  go_wp2_with fail
  refine (P _).mono ?_; rintro e u ⟨rfl, rfl⟩
  go_wp2_with fail
  refine bodyPost_ret (v := .tuple #[.agg #[.int .i64 0, .int .u32 0], .bool false]) ?_ rfl (egot_no HB.out ?_)
  · rw [results_cell_tmp Tryz.results138]
    simp [go_sem]
  · exact Gr.of (by go_grown)

/-- A block of two cells of the call's own, as it was made: at u it may be read and written. -/
structure Two (w : World) (B : Nat) (a b : Value) (u : World) : Prop where
  lt : B < u.heap.size
  c0 : u.cell? ⟨B, 0, none⟩ = some a
  c1 : u.cell? ⟨B, 1, none⟩ = some b
  f0 : u.frozen? ⟨B, 0, none⟩ = false
  f1 : u.frozen? ⟨B, 1, none⟩ = false
theorem two_new (w : World) (a b : Value) (T : TypeId) {u : World} (g : Gr (w.alloc (.cells #[a, b] T)) u) : Two w w.heap.size a b u := by
  have h := Below.block g w.heap.size (by rw [World.size_alloc]; omega)
  have hh : u.heap[w.heap.size]? = some (.cells #[a, b] T (0, 0)) := by rw [h]; exact heap_alloc_new w _
  have hs := g.size
  rw [World.size_alloc] at hs
  exact ⟨by omega, by simp [World.cell?, hh], by simp [World.cell?, hh], by simp [World.frozen?, hh], by simp [World.frozen?, hh]⟩
/-- Behind both stores. -/
theorem two_set {w u : World} {B : Nat} {a b : Value} (h : Two w B a b u) (x y : Value) (g : Gr w u) (hB : w.heap.size ≤ B) :
    ∃ W, W = (u.setCell ⟨B, 0, none⟩ x).setCell ⟨B, 1, none⟩ y ∧ W.cell? ⟨B, 0, none⟩ = some x ∧ W.cell? ⟨B, 1, none⟩ = some y ∧ Gr w W := by
  have n1 : (⟨B, 1, none⟩ : Addr) ≠ ⟨B, 0, none⟩ := by simp
  have n0 : (⟨B, 0, none⟩ : Addr) ≠ ⟨B, 1, none⟩ := by simp
  have s0 := World.cell?_setCell_same u ⟨B, 0, none⟩ x h.c0
  have s1 : (u.setCell ⟨B, 0, none⟩ x).cell? ⟨B, 1, none⟩ = some b := (World.cell?_setCell_other u ⟨B, 0, none⟩ ⟨B, 1, none⟩ x n0).trans h.c1
  refine ⟨_, rfl, ?_, ?_, ?_⟩
  · exact (World.cell?_setCell_other _ ⟨B, 1, none⟩ ⟨B, 0, none⟩ y n1).trans s0
  · exact World.cell?_setCell_same _ _ _ s1
  · exact Below.setCell (Below.setCell g hB _) hB _
theorem two_ret {fn : Func} {p q : Tmp} (hr : fn.results = #[.cell p 33, .tmp q]) {tmps : Array Value} {B : Nat} {W : World} {x y : Int} {b : Bool} (hp : tmps.getD p undef = .pointer (some ⟨B, 0, none⟩)) (hq : tmps.getD q undef = .bool b)
    (c0 : W.cell? ⟨B, 0, none⟩ = some (.int .i64 x)) (c1 : W.cell? ⟨B, 1, none⟩ = some (.int .u32 y)) : (results fn tmps).run Tryz.prog W = .ok (.tuple #[.agg #[.int .i64 x, .int .u32 y], .bool b]) W := by
  rw [results_cell_tmp hr, hp, hq]
  simp [go_sem, c0, c1]

theorem egetend_shut (s : ByteArray) (w : World) (h : s.size = 17) (h0 : cntN s = 0) (hop : opB s = false) :
    Calls Tryz.prog 138 #[.string s] w (EGot s w) := by
  have hb : eB s = false := by unfold eB; rw [hop, Bool.and_false, Bool.false_and]
  have HB := Lib.hid hb
  have P := fun u => prefix_c s (by omega) u
  rw [decide_eq_true h0] at P
  have O := fun u => open_c s (by omega) u
  rw [hop, opS_no hop] at O
  clear hb h0 hop
  have h1 : (((s.size : Int)) != 17) = false := by simpa using (by omega : (s.size : Int) = 17)
  clear h
  go_enter Tryz.func138, Tryz.ntmps138
  go_wp2_with fail
  refine (P _).mono ?_; rintro e u ⟨rfl, rfl⟩
  go_wp2_with fail
  refine (O _).mono ?_; rintro e u ⟨rfl, g⟩
  have hw := two_new _ _ _ _ g
  obtain ⟨W, hW, d0, d1, gW⟩ := two_set hw (.int .i64 0) (.int .u32 0) (Gr.trans (Below.alloc (Below.refl _ _) (Nat.le_refl _) _) g) (Nat.le_refl _)
  have HW := Lib.hid hW
  obtain ⟨_, c0, c1, f0, f1⟩ := hw
  clear hW
  go_wp2_with fail
  rw [← HW.out]
  exact bodyPost_ret (two_ret Tryz.results138 rfl rfl d0 d1) rfl (egot_no HB.out gW)

theorem egetend_open (s : ByteArray) (w : World) (h : s.size = 17) (h0 : cntN s = 0) (hop : opB s = true) :
    Calls Tryz.prog 138 #[.string s] w (EGot s w) := by
  have hbe : eB s = (getB s 1 8 && decide (getN s 1 8 ≤ 4611686018427387904)) := by unfold eB; rw [decide_eq_true h, decide_eq_true h0, hop]; rfl
  have P := fun u => prefix_c s (by omega) u
  rw [decide_eq_true h0] at P
  have O := fun u => open_c s (by omega) u
  have ha := opS_yes hop
  rw [hop, ha] at O
  have haz := ahead_size s (by omega)
  have G8 := fun u => get_c (ahead s) 1 8 (by unfold I64; omega) (by unfold I64; omega) u (by omega)
  have G4 := fun u => get_c (ahead s) 9 4 (by unfold I64; omega) (by unfold I64; omega) u (by omega)
  obtain ⟨e1, e2⟩ := get_ahead s 1 8 (by omega) (by omega)
  obtain ⟨e3, e4⟩ := get_ahead s 9 4 (by omega) (by omega)
  obtain ⟨m, hm, q1, q2, q3⟩ := get4_lt s (by omega)
  have e1' : getB (ahead s) 1 8 = getB s 1 8 := e1
  have e2' : getN (ahead s) 1 8 = getN s 1 8 := e2
  have e3' : getB (ahead s) 9 4 = true := by rw [← q3]; exact e3
  have e4' : getN (ahead s) 9 4 = m := by rw [← q1]; exact e4
  rw [e1', e2'] at G8
  rw [e3', e4'] at G4
  clear e1 e2 e3 e4 e1' e2' e3' e4' q2 q3 ha
  have h1 : (((s.size : Int)) != 17) = false := by simpa using (by omega : (s.size : Int) = 17)
  have HQ := Lib.hid q1
  have hz : (ahead s).size = 13 := by omega
  generalize ahead s = t at O G8 G4 hz haz
  have hm32 : (m : Int) % 4294967296 = (m : Int) := by omega
  cases hg : getB s 1 8
  · have hb : eB s = false := by rw [hbe, hg]; rfl
    have HB := Lib.hid hb
    have hn0 := getN_no hg
    rw [hg, hn0] at G8
    clear hb h0 hop h hbe hg hn0 q1 haz hz
    go_enter Tryz.func138, Tryz.ntmps138
    go_wp2_with fail
    refine (P _).mono ?_; rintro e u ⟨rfl, rfl⟩
    go_wp2_with fail
    refine (O _).mono ?_; rintro e u ⟨rfl, g⟩
    go_wp2_with fail
    refine (G8 _).mono ?_; rintro e u2 ⟨rfl, g2⟩
    have g := Gr.trans g g2
    have hw := two_new _ _ _ _ g
    obtain ⟨W, hW, d0, d1, gW⟩ := two_set hw (.int .i64 0) (.int .u32 0) (Gr.trans (Below.alloc (Below.refl _ _) (Nat.le_refl _) _) g) (Nat.le_refl _)
    have HW := Lib.hid hW
    obtain ⟨_, c0, c1, f0, f1⟩ := hw
    clear hW
    go_wp2_with fail
    rw [← HW.out]
    exact bodyPost_ret (two_ret Tryz.results138 rfl rfl d0 d1) rfl (egot_no HB.out gW)
  · obtain ⟨n, p1, p2⟩ := get8_yes hg
    have hn63 : n < 9223372036854775808 := by
      have hh := hg
      unfold getB at hh
      rw [decide_eq_true_iff] at hh
      have := hh.2.2.2
      rw [p2]; exact this
    rw [hg, p1] at G8
    by_cases hbig : (4611686018427387904 : Int) < n
    · have hb : eB s = false := by rw [hbe, hg, p1]; rw [decide_eq_false (by omega)]; rfl
      have HB := Lib.hid hb
      clear hb h0 hop h hbe hg p1 p2 q1 haz hz
      go_enter Tryz.func138, Tryz.ntmps138
      go_wp2_with fail
      refine (P _).mono ?_; rintro e u ⟨rfl, rfl⟩
      go_wp2_with fail
      refine (O _).mono ?_; rintro e u ⟨rfl, g⟩
      go_wp2_with fail
      refine (G8 _).mono ?_; rintro e u2 ⟨rfl, g2⟩
      have g := Gr.trans g g2
      have hw := two_new _ _ _ _ g
      obtain ⟨W, hW, d0, d1, gW⟩ := two_set hw (.int .i64 0) (.int .u32 0) (Gr.trans (Below.alloc (Below.refl _ _) (Nat.le_refl _) _) g) (Nat.le_refl _)
      have HW := Lib.hid hW
      obtain ⟨_, c0, c1, f0, f1⟩ := hw
      clear hW
      go_wp2_with fail
      rw [← HW.out]
      exact bodyPost_ret (two_ret Tryz.results138 rfl rfl d0 d1) rfl (egot_no HB.out gW)
    · have hb : eB s = true := by rw [hbe, hg, p1]; rw [decide_eq_true (by omega)]; rfl
      have HB := Lib.hid hb
      have HP := Lib.hid p1
      clear hb h0 hop h hbe hg p1 p2 q1 haz hz
      go_enter Tryz.func138, Tryz.ntmps138
      go_wp2_with fail
      refine (P _).mono ?_; rintro e u ⟨rfl, rfl⟩
      go_wp2_with fail
      refine (O _).mono ?_; rintro e u ⟨rfl, g⟩
      go_wp2_with fail
      refine (G8 _).mono ?_; rintro e u2 ⟨rfl, g2⟩
      go_wp2_with fail
      refine (G4 _).mono ?_; rintro e u3 ⟨rfl, g3⟩
      have g := (Gr.trans g g2).trans g3
      have hw := two_new _ _ _ _ g
      obtain ⟨W, hW, d0, d1, gW⟩ := two_set hw (.int .i64 (n : Int)) (.int .u32 (m : Int)) (Gr.trans (Below.alloc (Below.refl _ _) (Nat.le_refl _) _) g) (Nat.le_refl _)
      have HW := Lib.hid hW
      obtain ⟨_, c0, c1, f0, f1⟩ := hw
      clear hW
      go_wp2_with fail
      rw [← HW.out]
      refine bodyPost_ret (two_ret Tryz.results138 rfl rfl d0 d1) rfl ⟨?_, gW⟩
      rw [eC_yes HB.out, eM_yes HB.out, HB.out, HP.out, HQ.out]
theorem getend_c (s : ByteArray) (w : World) :
    Calls Tryz.prog 138 #[.string s] w (EGot s w) := by
  by_cases h : s.size = 17
  · by_cases h0 : cntN s = 0
    · cases hop : opB s
      · exact egetend_shut s w h h0 hop
      · exact egetend_open s w h h0 hop
    · exact egetend_head s w h h0
  · exact egetend_short s w h
end Go.Proofs.YtpmglnghnelenaaGreat
/- The contract of the document's Get. -/
namespace Go.Proofs.YtpmglnghnelenaaGreat
open Go.RowKit CrcPlain OctPlain FramePlain
set_option linter.unusedVariables false
set_option linter.unusedSimpArgs false
set_option maxRecDepth 20000
theorem index_0 (s : ByteArray) (h : 0 < s.size) (w : World) :
    (Instr.index 9 (.string s) (.int .i64 0)).run Tryz.prog w = .ok (.int .u8 (cntN s : Int)) w := by
  rw [run_index_string w 9 s .i64 0 Tryz.underlying9]
  have e := cntN_at s h
  simp [h, ← e]
end Go.Proofs.YtpmglnghnelenaaGreat
/- The contract of the document's GetEnd. -/
namespace Go.Proofs.YtpmglnghnelenaaGreat
open Go.RowKit CrcPlain OctPlain FramePlain
set_option linter.unusedVariables false
set_option linter.unusedSimpArgs false
set_option maxRecDepth 20000
theorem two_new2 (w : World) (a b : Value) (T : TypeId) (o : Obj) {u : World} (g : Gr ((w.alloc o).alloc (.cells #[a, b] T)) u) : Two w (w.heap.size + 1) a b u := by
  have h := two_new (w.alloc o) a b T g
  rw [World.size_alloc] at h
  exact ⟨h.lt, h.c0, h.c1, h.f0, h.f1⟩
end Go.Proofs.YtpmglnghnelenaaGreat
/- What an end's numbers are as an argument; its block. -/
namespace Go.Proofs.YtpmglnghnelenaaGreat
open Go.RowKit CrcPlain OctPlain FramePlain
set_option linter.unusedVariables false
set_option linter.unusedSimpArgs false
set_option maxRecDepth 20000
theorem info_in {w : World} {v : Value} (h : RdAgg Tryz.prog w 33 v) : ∃ (n : Int) (m : Nat), v = .agg #[.int .i64 n, .int .u32 (m : Int)] ∧ I64 n ∧ m < 4294967296 := by
  obtain ⟨fs, cs, hu, rfl, hsz, hf⟩ := h
  rw [Tryz.underlying33] at hu
  simp only [Option.some.injEq, TypeDesc.struct.injEq] at hu
  subst hu
  obtain ⟨l⟩ := cs
  match l, hsz with
  | [c0, c1], _ =>
    obtain ⟨d0, e0, r0⟩ := hf 0 _ rfl
    obtain ⟨d1, e1, r1⟩ := hf 1 _ rfl
    simp at e0 e1
    subst e0 e1
    obtain ⟨n, rfl, hn⟩ := rd_int Tryz.underlying3 r0
    obtain ⟨k, rfl, hk⟩ := rd_int Tryz.underlying31 r1
    have b0 := bounds_i64 hn
    have b1 := bounds_u32 hk
    obtain ⟨m, rfl⟩ : ∃ m : Nat, k = m := ⟨k.toNat, by omega⟩
    exact ⟨n, m, rfl, b0, by omega⟩
theorem fputlies {w : World} {v : Value} {l : List ByteArray} (h : Lies w v l) (u : World) (g : Gr w u) (size : Int) (hk : I64 size) (hl : l.length ≤ 1000000) (hz : ∀ s ∈ l, s.size ≤ 1000) :
    Calls Tryz.prog 101 #[.int .i64 size, v] u fun e w' => e = .returned (.tuple #[.string (blkS size l), .bool (blkB size l)]) ∧ Gr u w' := fput_c (h.gr g) size hk hl hz
theorem gral (u : World) (o : Obj) : Gr u (u.alloc o) := Below.alloc (Below.refl _ _) (Nat.le_refl _) _
theorem splL_le' (s : ByteArray) (k : Int) (hs : s.size ≤ 1000) : (splL s k).length ≤ 1000 := by
  unfold splL
  split
  · rw [pieces_length]; exact Nat.le_trans (Nat.div_le_self _ _) hs
  · simp
theorem opS_size (s : ByteArray) : (opS s).size ≤ s.size := by
  unfold opS
  split
  · unfold ahead; rw [ByteArray.size_extract]; omega
  · exact Nat.zero_le _
theorem Two.cells {w : World} {B : Nat} {a b : Value} {u : World} (h : Two w B a b u) : u.cell? ⟨B, 0, none⟩ = some a ∧ u.cell? ⟨B, 1, none⟩ = some b := ⟨h.c0, h.c1⟩
end Go.Proofs.YtpmglnghnelenaaGreat
