/- In one text: FrameAwake, CrcTurnPlain, CrcTurned, CrcBack, FrameEnd2. -/
import Derived.Test.YtdlomcgkpiejgaaGreatDoorP03
import Derived.Test.YtdlomcgkpiejgaaGreatDoorP04
import Derived.Test.YtdlomcgkpiejgaaGreatDoorP05
import Derived.Test.YtdlomcgkpiejgaaGreatDoorP06
import Derived.Test.YtdlomcgkpiejgaaGreatDoorP01
import Derived.Deep.RegionHeld3
import Derived.BigRegion
import Derived.Lib.ConvBytes
import Derived.KernelRfl
/- Put of whatever slice; the law's 'few'; the chapter's example. -/
namespace Go.Proofs.YtdlomcgkpiejgaaGreatDoor
open Go.RowKit CrcPlain OctPlain FramePlain
set_option linter.unusedVariables false
set_option linter.unusedSimpArgs false
set_option maxRecDepth 20000
theorem fput_c {w : World} {v : Value} {l : List ByteArray} (h : Lies w v l) (size : Int) (hk : I64 size) (hl : l.length ≤ 1000000) (hz : ∀ s ∈ l, s.size ≤ 1000) :
    Calls Tryz.prog 105 #[.int .i64 size, v] w fun e w' => e = .returned (.tuple #[.string (blkS size l), .bool (blkB size l)]) ∧ Gr w w' := by
  obtain ⟨a, c, rfl, hc, h⟩ := h
  by_cases hs : sizeB size = true ∧ 1 ≤ l.length ∧ l.length ≤ 4
  · rcases h with rfl | ⟨b, off, rfl, hr⟩
    · simp at hs
    · exact fput_some b off c l.length l rfl size hk w hr hs.1 hs.2 hc hz
  · refine (fput_no a c l.length l rfl size hk (by unfold I64; omega) w ?_).mono fun e w' ⟨h1, h2⟩ => ⟨h1, h2 ▸ Gr.refl _⟩
    cases hb : sizeB size
    · exact .inl rfl
    · exact .inr fun h4 => hs ⟨hb, h4⟩
theorem rfput_c {w : World} {v : Value} {l : List ByteArray} (h : Lies w v l) (size : Int) (hk : I64 size) (hl : l.length ≤ 1000000) :
    Calls Tryz.prog 25 #[.int .i64 size, v] w fun e w' => e = .returned (.tuple #[.string (blkS size l), .bool (blkB size l)]) ∧ Gr w w' := by
  obtain ⟨a, c, rfl, hc, h⟩ := h
  by_cases hs : sizeB size = true ∧ 1 ≤ l.length ∧ l.length ≤ 4
  · rcases h with rfl | ⟨b, off, rfl, hr⟩
    · simp at hs
    · cases ha : allB size l
      · exact (rfput_mid b off c l.length l rfl size hk w hr hs.1 hs.2 ha).mono fun e w' ⟨h1, h2⟩ => ⟨h1, h2 ▸ Gr.refl _⟩
      · exact rfput_yes b off c l.length l rfl size hk w hr hs.1 hs.2 ha
  · refine (rfput_no a c l.length l rfl size hk w ?_).mono fun e w' ⟨h1, h2⟩ => ⟨h1, h2 ▸ Gr.refl _⟩
    cases hb : sizeB size
    · exact .inl rfl
    · exact .inr fun h4 => hs ⟨hb, h4⟩

def fewB (l : List ByteArray) : Bool := decide (l.length ≤ 10) && (l.take 10).all (fun s => decide (s.size ≤ 80))
theorem few_yes {l : List ByteArray} (h : fewB l = true) : l.length ≤ 10 ∧ ∀ s ∈ l, s.size ≤ 80 := by
  unfold fewB at h
  simp only [Bool.and_eq_true, decide_eq_true_eq, List.all_eq_true] at h
  refine ⟨h.1, fun s hs => h.2 s ?_⟩
  rw [List.take_of_length_le h.1]; exact hs
def FewAt (l : List ByteArray) (w : World) (i : Value) (wr : World) : Prop := ∃ j : Nat, j ≤ 10 ∧ j ≤ l.length ∧ i = .int .i64 j ∧ wr = w ∧ (l.take j).all (fun s => decide (s.size ≤ 80)) = true
end Go.Proofs.YtdlomcgkpiejgaaGreatDoor
/- Plain facts on bytes of which bits are turned, without the model. -/
namespace Go.Proofs.YtdlomcgkpiejgaaGreatDoor
namespace CrcPlain
theorem mul_xor (k a b : Nat) : 2 ^ k * (a ^^^ b) = 2 ^ k * a ^^^ 2 ^ k * b := by
  apply Nat.eq_of_testBit_eq
  intro i
  rw [Nat.testBit_xor, Nat.testBit_two_pow_mul, Nat.testBit_two_pow_mul, Nat.testBit_two_pow_mul, Nat.testBit_xor]
  cases decide (i ≥ k) <;> simp
theorem le_cons (b : UInt8) (l : List UInt8) : le (b :: l) = b.toNat ^^^ 2 ^ 8 * le l := by
  have := add_xor 8 (b := b.toNat) b.toNat_lt (le l)
  rw [← this]; rfl
/-- One byte turned. -/
theorem le_set : ∀ (l : List UInt8) (i : Nat) (x : Nat) (b c : UInt8), l[i]? = some b → c.toNat = b.toNat ^^^ x → le (l.set i c) = le l ^^^ 2 ^ (8 * i) * x
  | [], i, x, b, c, h, _ => by simp at h
  | a :: l, 0, x, b, c, h, hc => by
    simp at h
    subst h
    rw [List.set_cons_zero, le_cons, le_cons, hc]
    simp only [Nat.mul_zero, Nat.pow_zero, Nat.one_mul]
    rw [Nat.xor_assoc, Nat.xor_assoc, Nat.xor_comm x]
  | a :: l, i + 1, x, b, c, h, hc => by
    have ih := le_set l i x b c (by simpa using h) hc
    rw [List.set_cons_succ, le_cons, le_cons, ih, mul_xor, Nat.xor_assoc]
    congr 2
    rw [← Nat.mul_assoc, ← Nat.pow_add]
    congr 2
    omega
theorem le_lt : ∀ l : List UInt8, le l < 2 ^ (8 * l.length)
  | [] => by simp [le]
  | b :: l => by
    have ih := le_lt l
    have hb := b.toNat_lt
    have e : 8 * (b :: l).length = 8 * l.length + 8 := by rw [List.length_cons]; omega
    rw [e, Nat.pow_add]
    show b.toNat + 256 * le l < _
    omega
theorem le_inj : ∀ {a b : List UInt8}, a.length = b.length → le a = le b → a = b
  | [], [], _, _ => rfl
  | x :: a, y :: b, hl, h => by
    have hx := x.toNat_lt
    have hy := y.toNat_lt
    have h' : x.toNat + 256 * le a = y.toNat + 256 * le b := h
    have h1 : x = y := UInt8.toNat_inj.1 (by omega)
    have h2 := le_inj (a := a) (b := b) (by simpa using hl) (by omega)
    rw [h1, h2]
theorem low_next (b k : Nat) (h : b / 2 ^ k % 2 = 1) : b % 2 ^ (k + 1) = b % 2 ^ k ^^^ 2 ^ k := by
  have hm := Nat.mod_pow_succ (x := b) (b := 2) (k := k)
  rw [hm, h, add_xor k (Nat.mod_lt _ (Nat.pow_pos (by decide)))]
  rw [Nat.mul_one]
theorem low_same (b k : Nat) (h : b / 2 ^ k % 2 = 0) : b % 2 ^ (k + 1) = b % 2 ^ k := by
  have hm := Nat.mod_pow_succ (x := b) (b := 2) (k := k)
  rw [hm, h, Nat.mul_zero, Nat.add_zero]
theorem low_pos (b k : Nat) (h : b / 2 ^ k % 2 = 1) : b % 2 ^ (k + 1) ≠ 0 := by
  have hm := Nat.mod_pow_succ (x := b) (b := 2) (k := k)
  have hp : 0 < 2 ^ k := Nat.pow_pos (by decide)
  rw [hm, h, Nat.mul_one]
  omega
/-- l with the lowest k of the bits put on it, from one on. -/
def Turn (l l' : List UInt8) (first w : Nat) : Prop := l'.length = l.length ∧ le l' = le l ^^^ 2 ^ first * w
theorem Turn.start (l : List UInt8) (first b : Nat) : Turn l l first (b % 2 ^ 0) := by
  refine ⟨rfl, ?_⟩
  have : b % 2 ^ 0 = 0 := by rw [Nat.pow_zero]; omega
  rw [this, Nat.mul_zero, Nat.xor_zero]
theorem Turn.on {l l' : List UInt8} {first b k : Nat} (h : Turn l l' first (b % 2 ^ k)) (hb : b / 2 ^ k % 2 = 1) {x c : UInt8} (hx : l'[(first + k) / 8]? = some x) (hc : c.toNat = x.toNat ^^^ 2 ^ ((first + k) % 8)) :
    Turn l (l'.set ((first + k) / 8) c) first (b % 2 ^ (k + 1)) := by
  refine ⟨by rw [List.length_set]; exact h.1, ?_⟩
  rw [le_set l' _ _ _ _ hx hc, h.2, low_next b k hb, mul_xor, Nat.xor_assoc, ← Nat.pow_add, ← Nat.pow_add]
  congr 3
  omega
theorem Turn.off {l l' : List UInt8} {first b k : Nat} (h : Turn l l' first (b % 2 ^ k)) (hb : b / 2 ^ k % 2 = 0) : Turn l l' first (b % 2 ^ (k + 1)) := by
  rw [low_same b k hb]; exact h
theorem Turn.zero {l l' : List UInt8} {first : Nat} (h : Turn l l' first 0) : l' = l := by
  apply le_inj h.1
  rw [h.2, Nat.mul_zero, Nat.xor_zero]
/-- Of bytes that were closed by their sum, nothing that was turned leaves what they leave. -/
theorem Turn.apart {l l' : List UInt8} {first w : Nat} (h : Turn l l' first w) (hw : w < 4294967296) (hw0 : w ≠ 0) (hf : first ≤ 8 * l.length) (r : Nat) : reg r l' ≠ reg r l := by
  refine reg_apart h.1 hw hw0 (by rw [h.1]; exact hf) ?_
  rw [h.2, Nat.xor_comm (le l), Nat.xor_assoc, Nat.xor_self, Nat.xor_zero]
end CrcPlain
end Go.Proofs.YtdlomcgkpiejgaaGreatDoor
/- The contract of the document's own turning of bits: by a walk of its text. -/
namespace Go.Proofs.YtdlomcgkpiejgaaGreatDoor
open Go.RowKit CrcPlain
set_option linter.unusedVariables false
set_option linter.unusedSimpArgs false
set_option maxRecDepth 20000
/-- Block B holds the bytes l, and may be written. -/
def Row (B : Nat) (l : List UInt8) (w : World) : Prop := B < w.heap.size ∧ ∀ j x, l[j]? = some x → w.cell? ⟨B, j, none⟩ = some (.int .u8 (x.toNat : Int)) ∧ w.frozen? ⟨B, j, none⟩ = false
theorem row_start (w : World) (s : ByteArray) : Row w.heap.size s.data.toList (Lib.bytesWorld w 5 s) ∧ Gr w (Lib.bytesWorld w 5 s) := by
  refine ⟨⟨by rw [Lib.bytesWorld_size]; omega, ?_⟩, ⟨rfl, rfl, rfl, by rw [Lib.bytesWorld_size]; omega, fun k hk => Lib.bytesWorld_at_old w _ s k hk⟩⟩
  intro j x hx
  have hj : j < s.size := by
    have := (List.getElem?_eq_some_iff.1 hx).1
    simpa using this
  refine ⟨?_, ?_⟩
  · rw [Lib.bytesWorld_cell w _ s j hj]
    rw [List.getD_eq_getElem?_getD, hx]
    rfl
  · unfold World.frozen?
    rw [Lib.bytesWorld_at_new]
    have hz : s.size ≤ (Lib.bytesCells w 5 s).size := by
      unfold Lib.bytesCells
      simp
    simp
    omega
theorem bit_is (b k : Nat) (hb : b < 4294967296) (h : b / 2 ^ k % 2 = 1) : bits .and .u32 ((b : Int) / 2 ^ k) 1 = 1 := by
  have hd : b / 2 ^ k < 4294967296 := Nat.lt_of_le_of_lt (Nat.div_le_self _ _) hb
  have e := u32_and_nat (b / 2 ^ k) 1 hd (by decide)
  rw [Nat.and_two_pow_sub_one_eq_mod _ 1, Nat.pow_one, h, Int.natCast_ediv, Int.natCast_pow] at e
  exact e
theorem bit_not (b k : Nat) (hb : b < 4294967296) (h : b / 2 ^ k % 2 = 0) : bits .and .u32 ((b : Int) / 2 ^ k) 1 = 0 := by
  have hd : b / 2 ^ k < 4294967296 := Nat.lt_of_le_of_lt (Nat.div_le_self _ _) hb
  have e := u32_and_nat (b / 2 ^ k) 1 hd (by decide)
  rw [Nat.and_two_pow_sub_one_eq_mod _ 1, Nat.pow_one, h, Int.natCast_ediv, Int.natCast_pow] at e
  exact e
theorem idx_at {s : ByteArray} {B cap i : Nat} (h : i < s.size) (W : World) : (Instr.indexAt 83 (.slice (some ⟨B, 0, none⟩) s.size cap) (.int .i64 (i : Int))).run Tryz.prog W = .ok (.pointer (some ⟨B, i, none⟩)) W := by
  have ea : Addr.add ⟨B, 0, none⟩ i = ⟨B, i, none⟩ := by by_cases h : i = 0 <;> simp [Addr.add, h]
  rw [run_indexAt_slice (h := by kernel_rfl), if_pos (by omega)]
  have hz : Tryz.prog.elem 83 = 5 := by kernel_rfl
  simp [hz, ea]
theorem shl_at {j : Nat} (hj : j < 8) : IntKind.u8.wrap ((2 : Int) ^ j) = ((2 ^ j : Nat) : Int) := by
  have : j = 0 ∨ j = 1 ∨ j = 2 ∨ j = 3 ∨ j = 4 ∨ j = 5 ∨ j = 6 ∨ j = 7 := by omega
  rcases this with rfl | rfl | rfl | rfl | rfl | rfl | rfl | rfl <;> rfl
theorem row_set {B : Nat} {l : List UInt8} {w : World} {i : Nat} {x : UInt8} {y : Nat} (h : Row B l w) (hx : l[i]? = some x) (hy : y < 256) :
    Row B (l.set i (UInt8.ofNat y)) (w.setCell ⟨B, i, none⟩ (.int .u8 (y : Int))).drew := by
  refine ⟨by simpa using h.1, ?_⟩
  intro j z hz
  by_cases hij : i = j
  · subst hij
    have hl := (List.getElem?_eq_some_iff.1 hx).1
    rw [List.getElem?_set_self hl] at hz
    have hz' : z = UInt8.ofNat y := by simpa using hz.symm
    subst hz'
    refine ⟨?_, by simpa using (h.2 i x hx).2⟩
    rw [World.cell?_drew, World.cell?_setCell_same' _ _ _ (by rw [(h.2 i x hx).1]; rfl), UInt8.toNat_ofNat']
    congr 3
    omega
  · rw [List.getElem?_set_ne hij] at hz
    refine ⟨?_, by simpa using (h.2 j z hz).2⟩
    rw [World.cell?_drew, World.cell?_setCell_other _ _ _ _ (by intro e; apply hij; injection e)]
    exact (h.2 j z hz).1
theorem conv_row {B : Nat} {l : List UInt8} {w : World} (h : Row B l w) (n cap : Nat) (hn : l.length = n) :
    (convert 83 9 (.slice (some ⟨B, 0, none⟩) n cap)).run Tryz.prog w = .ok (.string (bs l)) w := by
  subst hn
  refine run_convert_bytes_back (P := Tryz.prog) w 83 9 5 ⟨B, 0, none⟩ cap l Tryz.underlying83 Tryz.underlying5 Tryz.underlying9 (fun j hj => ?_)
  have ea : Addr.add ⟨B, 0, none⟩ j = ⟨B, j, none⟩ := by by_cases h : j = 0 <;> simp [Addr.add, h]
  rw [ea]
  exact (h.2 j l[j] (List.getElem?_eq_getElem hj)).1
/-- What comes of it: bytes on which some of the bits were put, and whether any was. -/
def TurnedAs (s : ByteArray) (first : Nat) (w : World) (e : Ending) (w' : World) : Prop :=
  ∃ (l : List UInt8) (v : Nat) (c : Bool), v < 4294967296 ∧ Turn s.data.toList l first v ∧ c = decide (v ≠ 0) ∧ e = .returned (.tuple #[.string (bs l), .bool c]) ∧ Gr w w'
/-- .. of no more bits than were asked for. -/
def TurnedIn (s : ByteArray) (first b : Nat) (w : World) (e : Ending) (w' : World) : Prop :=
  ∃ (l : List UInt8) (v : Nat) (c : Bool), v ≤ b ∧ v < 4294967296 ∧ Turn s.data.toList l first v ∧ c = decide (v ≠ 0) ∧ e = .returned (.tuple #[.string (bs l), .bool c]) ∧ Gr w w'
def TurnAt (s : ByteArray) (first b B : Nat) (w0 : World) (some_ k : Value) (wr : World) : Prop :=
  ∃ (n : Nat) (l : List UInt8) (c : Bool), n ≤ 32 ∧ k = .int .i64 n ∧ some_ = .bool c ∧ c = decide (b % 2 ^ n ≠ 0) ∧ Turn s.data.toList l first (b % 2 ^ n) ∧ Row B l wr ∧ Below B w0 wr
end Go.Proofs.YtdlomcgkpiejgaaGreatDoor
/- Plain facts: what is closed is opened again; with bits turned nothing is opened. -/
namespace Go.Proofs.YtdlomcgkpiejgaaGreatDoor
open Go.RowKit CrcPlain
set_option linter.unusedVariables false
set_option linter.unusedSimpArgs false
set_option maxRecDepth 20000
theorem opB_reg {x : ByteArray} (h : opB x = true) : reg 4294967295 x.data.toList = sts 32 4294967295 := by
  have h4 : 4 ≤ x.size := by unfold opB at h; rw [decide_eq_true_iff] at h; exact h.1
  have hc := (cl_is x h4).2 h
  have e : x.data.toList = (ahead x).data.toList ++ tl (more 0 (ahead x).data.toList) := by
    have := congrArg (fun s => s.data.toList) hc
    rw [← this]
    simp [cl, bs, ByteArray.data_append]
  rw [e]
  exact reg_closed _
theorem ahead_cl (s : ByteArray) : ahead (cl s) = s := by
  unfold ahead
  rw [cl_size]
  unfold cl
  apply ByteArray.ext
  apply Array.toList_inj.1
  have : s.size + 4 - 4 = s.size := by omega
  rw [this]
  simp [ByteArray.data_append]
  exact List.take_of_length_le (by simp)
theorem op_cl (s : ByteArray) : opB (cl s) = true ∧ opS (cl s) = s := by
  have h : opB (cl s) = true := (cl_is (cl s) (by rw [cl_size]; omega)).1 (by rw [ahead_cl])
  exact ⟨h, by rw [opS_yes h, ahead_cl]⟩
theorem op_turned {s : ByteArray} {l : List UInt8} {first v : Nat} (h : Turn (cl s).data.toList l first v) (hf : first < 8 * (cl s).size) (hv : v < 4294967296) (h0 : v ≠ 0) : opB (bs l) = false := by
  cases hb : opB (bs l)
  · rfl
  · exfalso
    have h1 := opB_reg hb
    have h2 := opB_reg (op_cl s).1
    have hl : (cl s).data.toList.length = (cl s).size := by simp
    exact h.apart hv h0 (by rw [hl]; omega) 4294967295 (h1.trans h2.symm)
theorem op_same {s : ByteArray} {l : List UInt8} {first v : Nat} (h : Turn (cl s).data.toList l first v) (h0 : v = 0) : bs l = cl s := by
  subst h0
  rw [h.zero, bs_toList]
end Go.Proofs.YtdlomcgkpiejgaaGreatDoor
/- Plain facts on what the bytes of an end say. -/
namespace Go.Proofs.YtdlomcgkpiejgaaGreatDoor
open Go.RowKit CrcPlain OctPlain FramePlain
set_option linter.unusedVariables false
set_option linter.unusedSimpArgs false
set_option maxRecDepth 20000
namespace FramePlain
def eB (s : ByteArray) : Bool := decide (s.size = 17) && decide (cntN s = 0) && opB s && (getB s 1 8 && decide (getN s 1 8 ≤ 4611686018427387904))
def eC (s : ByteArray) : Int := if eB s = true then getN s 1 8 else 0
def eM (s : ByteArray) : Int := if eB s = true then getN s 9 4 else 0
theorem eC_no {s : ByteArray} (h : eB s = false) : eC s = 0 := by simp [eC, h]
theorem eM_no {s : ByteArray} (h : eB s = false) : eM s = 0 := by simp [eM, h]
theorem eC_yes {s : ByteArray} (h : eB s = true) : eC s = getN s 1 8 := by simp [eC, h]
theorem eM_yes {s : ByteArray} (h : eB s = true) : eM s = getN s 9 4 := by simp [eM, h]
theorem ahead_data (s : ByteArray) : (ahead s).data.toList = s.data.toList.take (s.size - 4) := by
  unfold ahead
  simp [ByteArray.data_extract]
theorem cutL_ahead (s : ByteArray) (a k : Nat) (h : a + k ≤ s.size - 4) : cutL (ahead s) a k = cutL s a k := by
  unfold cutL
  rw [ahead_data, List.drop_take, List.take_take, Nat.min_eq_left (by omega)]
theorem get_ahead (s : ByteArray) (a k : Nat) (h : a + k ≤ s.size - 4) (h4 : 4 ≤ s.size) : getB (ahead s) a k = getB s a k ∧ getN (ahead s) a k = getN s a k := by
  have hc := cutL_ahead s a k h
  have hz := ahead_size s h4
  have hb : getB (ahead s) a k = getB s a k := by
    unfold getB
    rw [Int.toNat_natCast, Int.toNat_natCast, hc, hz]
    apply decide_eq_decide.2
    constructor <;> intro hh <;> refine ⟨hh.1, hh.2.1, by omega, hh.2.2.2⟩
  refine ⟨hb, ?_⟩
  unfold getN
  rw [hb, Int.toNat_natCast, Int.toNat_natCast, hc]
theorem beL_num : ∀ l : List UInt8, beL l.length (num l) = l := by
  intro l
  generalize hk : l.length = k
  induction k generalizing l with
  | zero => rw [List.eq_nil_of_length_eq_zero hk]; rfl
  | succ k ih =>
    obtain ⟨a, b, rfl⟩ : ∃ a b, l = a ++ [b] := ⟨l.dropLast, l.getLast (by intro h; rw [h] at hk; simp at hk), (List.dropLast_concat_getLast _).symm⟩
    rw [List.length_append, List.length_singleton] at hk
    have hb := b.toNat_lt
    have h1 : num (a ++ [b]) / 256 = num a := by rw [num_snoc]; omega
    have h2 : num (a ++ [b]) % 256 = b.toNat := by rw [num_snoc]; omega
    rw [beL, h1, h2, ih a (by omega)]
    simp
theorem get4_lt (s : ByteArray) (h : 13 ≤ s.size) : ∃ m : Nat, m < 4294967296 ∧ getN s 9 4 = m ∧ m = num (cutL s 9 4) ∧ getB s 9 4 = true := by
  have hl := cutL_length s 9 4 (by omega)
  have hlt := num_lt (cutL s 9 4)
  rw [hl] at hlt
  have hb : getB s (9 : Nat) (4 : Nat) = true := getB_yes (by omega) (by omega) (by omega)
  exact ⟨_, hlt, getN_yes hb, rfl, hb⟩
theorem get8_yes {s : ByteArray} (h : getB s 1 8 = true) : ∃ n : Nat, getN s 1 8 = n ∧ n = num (cutL s 1 8) := ⟨_, getN_yes (p := 1) (k := 8) h, rfl⟩
/-- Ahead of its sum an end's bytes are those of its numbers. -/
theorem ahead_end (s : ByteArray) (hz : s.size = 17) (h0 : cntN s = 0) : endS (num (cutL s 1 8)) (num (cutL s 9 4)) = ahead s := by
  have l0 := cutL_length s 0 1 (by omega)
  have l1 := cutL_length s 1 8 (by omega)
  have l2 := cutL_length s 9 4 (by omega)
  have b0 := beL_num (cutL s 0 1)
  have b1 := beL_num (cutL s 1 8)
  have b2 := beL_num (cutL s 9 4)
  rw [l0] at b0; rw [l1] at b1; rw [l2] at b2
  have hd := ahead_data s
  have e0 : cutL s 0 1 = [0] := by
    rw [← b0]
    unfold cntN at h0
    rw [h0]; rfl
  have hcat : cutL s 0 1 ++ (cutL s 1 8 ++ cutL s 9 4) = s.data.toList.take 13 := by
    unfold cutL
    rw [List.drop_zero]
    have q1 : s.data.toList.take 13 = s.data.toList.take 1 ++ (s.data.toList.drop 1).take 12 := by rw [← List.take_add]
    have q2 : (s.data.toList.drop 1).take 12 = (s.data.toList.drop 1).take 8 ++ ((s.data.toList.drop 1).drop 8).take 4 := by rw [← List.take_add]
    rw [q1, q2, List.drop_drop]
  unfold endS
  rw [b1, b2]
  apply ByteArray.ext
  apply Array.toList_inj.1
  rw [hd, hz, ← hcat, e0]
  rfl
theorem get_end {c m : Nat} (hc : c < 9223372036854775808) (hm : m < 4294967296) : cntN (cl (endS c m)) = 0 ∧ getB (cl (endS c m)) 1 8 = true ∧ getN (cl (endS c m)) 1 8 = c ∧ getN (cl (endS c m)) 9 4 = m := by
  have hd : (cl (endS c m)).data.toList = 0 :: (beL 8 c ++ (beL 4 m ++ tl (more 0 (endS c m).data.toList))) := by
    unfold cl endS
    rw [bs_app]
    simp [bs]
  have hz : (cl (endS c m)).size = 17 := by rw [cl_size, endS_size]
  generalize cl (endS c m) = s at hd hz
  have l8 := beL_length 8 c
  have l4 := beL_length 4 m
  have c0 : cutL s 0 1 = [0] := by unfold cutL; rw [hd]; rfl
  have c8 : cutL s 1 8 = beL 8 c := by
    unfold cutL; rw [hd, List.drop_succ_cons, List.drop_zero, List.take_append_of_le_length (by omega), List.take_of_length_le (by omega)]
  have c4 : cutL s 9 4 = beL 4 m := by
    unfold cutL
    rw [hd, List.drop_succ_cons, List.drop_append_of_le_length (by omega), List.drop_of_length_le (by omega), List.nil_append, List.take_append_of_le_length (by omega), List.take_of_length_le (by omega)]
  have n8 : num (cutL s 1 8) = c := by rw [c8]; exact num_beL 8 c (by omega)
  have n4 : num (cutL s 9 4) = m := by rw [c4]; exact num_beL 4 m (by omega)
  have g8 : getB s (1 : Nat) (8 : Nat) = true := getB_yes (by omega) (by omega) (by omega)
  have g4 : getB s (9 : Nat) (4 : Nat) = true := getB_yes (by omega) (by omega) (by omega)
  refine ⟨by unfold cntN; rw [c0]; rfl, g8, ?_, ?_⟩
  · have := getN_yes g8; rw [n8] at this; exact this
  · have := getN_yes g4; rw [n4] at this; exact this
end FramePlain
end Go.Proofs.YtdlomcgkpiejgaaGreatDoor
