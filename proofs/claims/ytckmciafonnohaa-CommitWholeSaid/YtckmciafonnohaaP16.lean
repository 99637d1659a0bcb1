/- In one text: CrcTurnPlain, CrcTurned, CrcBack, MnFact. -/
import Derived.Test.YtckmciafonnohaaP14
import Derived.Test.YtckmciafonnohaaP15
import Derived.Deep.RegionHeld3
import Derived.BigRegion
import Derived.Lib.ConvBytes
import Derived.KernelRfl
/- Plain facts on bytes of which bits are turned, without the model. -/
namespace Go.Proofs.Ytckmciafonnohaa
namespace CrcPlain
theorem mul_xor (k a b : Nat) : 2 ^ k * (a ^^^ b) = 2 ^ k * a ^^^ 2 ^ k * b := by
  apply Nat.eq_of_testBit_eq
  intro i
  rw [Nat.testBit_xor, Nat.testBit_two_pow_mul, Nat.testBit_two_pow_mul, Nat.testBit_two_pow_mul, Nat.testBit_xor]
  cases decide (i ≥ k) <;> simp
theorem le_cons (b : UInt8) (l : List UInt8) : le (b :: l) = b.toNat ^^^ 2 ^ 8 * le l := by
  have := add_xor 8 (b := b.toNat) b.toNat_lt (le l)
  rw [← this]; rfl
/-- One byte turned. -/
theorem le_set : ∀ (l : List UInt8) (i : Nat) (x : Nat) (b c : UInt8), l[i]? = some b → c.toNat = b.toNat ^^^ x → le (l.set i c) = le l ^^^ 2 ^ (8 * i) * x
  | [], i, x, b, c, h, _ => by simp at h
  | a :: l, 0, x, b, c, h, hc => by
    simp at h
    subst h
    rw [List.set_cons_zero, le_cons, le_cons, hc]
    simp only [Nat.mul_zero, Nat.pow_zero, Nat.one_mul]
    rw [Nat.xor_assoc, Nat.xor_assoc, Nat.xor_comm x]
  | a :: l, i + 1, x, b, c, h, hc => by
    have ih := le_set l i x b c (by simpa using h) hc
    rw [List.set_cons_succ, le_cons, le_cons, ih, mul_xor, Nat.xor_assoc]
    congr 2
    rw [← Nat.mul_assoc, ← Nat.pow_add]
    congr 2
    omega
theorem le_lt : ∀ l : List UInt8, le l < 2 ^ (8 * l.length)
  | [] => by simp [le]
  | b :: l => by
    have ih := le_lt l
    have hb := b.toNat_lt
    have e : 8 * (b :: l).length = 8 * l.length + 8 := by rw [List.length_cons]; omega
    rw [e, Nat.pow_add]
    show b.toNat + 256 * le l < _
    omega
theorem le_inj : ∀ {a b : List UInt8}, a.length = b.length → le a = le b → a = b
  | [], [], _, _ => rfl
  | x :: a, y :: b, hl, h => by
    have hx := x.toNat_lt
    have hy := y.toNat_lt
    have h' : x.toNat + 256 * le a = y.toNat + 256 * le b := h
    have h1 : x = y := UInt8.toNat_inj.1 (by omega)
    have h2 := le_inj (a := a) (b := b) (by simpa using hl) (by omega)
    rw [h1, h2]
theorem low_next (b k : Nat) (h : b / 2 ^ k % 2 = 1) : b % 2 ^ (k + 1) = b % 2 ^ k ^^^ 2 ^ k := by
  have hm := Nat.mod_pow_succ (x := b) (b := 2) (k := k)
  rw [hm, h, add_xor k (Nat.mod_lt _ (Nat.pow_pos (by decide)))]
  rw [Nat.mul_one]
theorem low_same (b k : Nat) (h : b / 2 ^ k % 2 = 0) : b % 2 ^ (k + 1) = b % 2 ^ k := by
  have hm := Nat.mod_pow_succ (x := b) (b := 2) (k := k)
  rw [hm, h, Nat.mul_zero, Nat.add_zero]
theorem low_pos (b k : Nat) (h : b / 2 ^ k % 2 = 1) : b % 2 ^ (k + 1) ≠ 0 := by
  have hm := Nat.mod_pow_succ (x := b) (b := 2) (k := k)
  have hp : 0 < 2 ^ k := Nat.pow_pos (by decide)
  rw [hm, h, Nat.mul_one]
  omega
/-- l with the lowest k of the bits put on it, from one on. -/
def Turn (l l' : List UInt8) (first w : Nat) : Prop := l'.length = l.length ∧ le l' = le l ^^^ 2 ^ first * w
theorem Turn.start (l : List UInt8) (first b : Nat) : Turn l l first (b % 2 ^ 0) := by
  refine ⟨rfl, ?_⟩
  have : b % 2 ^ 0 = 0 := by rw [Nat.pow_zero]; omega
  rw [this, Nat.mul_zero, Nat.xor_zero]
theorem Turn.on {l l' : List UInt8} {first b k : Nat} (h : Turn l l' first (b % 2 ^ k)) (hb : b / 2 ^ k % 2 = 1) {x c : UInt8} (hx : l'[(first + k) / 8]? = some x) (hc : c.toNat = x.toNat ^^^ 2 ^ ((first + k) % 8)) :
    Turn l (l'.set ((first + k) / 8) c) first (b % 2 ^ (k + 1)) := by
  refine ⟨by rw [List.length_set]; exact h.1, ?_⟩
  rw [le_set l' _ _ _ _ hx hc, h.2, low_next b k hb, mul_xor, Nat.xor_assoc, ← Nat.pow_add, ← Nat.pow_add]
  congr 3
  omega
theorem Turn.off {l l' : List UInt8} {first b k : Nat} (h : Turn l l' first (b % 2 ^ k)) (hb : b / 2 ^ k % 2 = 0) : Turn l l' first (b % 2 ^ (k + 1)) := by
  rw [low_same b k hb]; exact h
theorem Turn.zero {l l' : List UInt8} {first : Nat} (h : Turn l l' first 0) : l' = l := by
  apply le_inj h.1
  rw [h.2, Nat.mul_zero, Nat.xor_zero]
/-- Of bytes that were closed by their sum, nothing that was turned leaves what they leave. -/
theorem Turn.apart {l l' : List UInt8} {first w : Nat} (h : Turn l l' first w) (hw : w < 4294967296) (hw0 : w ≠ 0) (hf : first ≤ 8 * l.length) (r : Nat) : reg r l' ≠ reg r l := by
  refine reg_apart h.1 hw hw0 (by rw [h.1]; exact hf) ?_
  rw [h.2, Nat.xor_comm (le l), Nat.xor_assoc, Nat.xor_self, Nat.xor_zero]
end CrcPlain
end Go.Proofs.Ytckmciafonnohaa
/- The contract of the document's own turning of bits: by a walk of its text. -/
namespace Go.Proofs.Ytckmciafonnohaa
open Go.RowKit CrcPlain
set_option linter.unusedVariables false
set_option linter.unusedSimpArgs false
set_option maxRecDepth 20000
/-- Block B holds the bytes l, and may be written. -/
def Row (B : Nat) (l : List UInt8) (w : World) : Prop := B < w.heap.size ∧ ∀ j x, l[j]? = some x → w.cell? ⟨B, j, none⟩ = some (.int .u8 (x.toNat : Int)) ∧ w.frozen? ⟨B, j, none⟩ = false
theorem row_start (w : World) (s : ByteArray) : Row w.heap.size s.data.toList (Lib.bytesWorld w 5 s) ∧ Gr w (Lib.bytesWorld w 5 s) := by
  refine ⟨⟨by rw [Lib.bytesWorld_size]; omega, ?_⟩, ⟨rfl, rfl, rfl, by rw [Lib.bytesWorld_size]; omega, fun k hk => Lib.bytesWorld_at_old w _ s k hk⟩⟩
  intro j x hx
  have hj : j < s.size := by
    have := (List.getElem?_eq_some_iff.1 hx).1
    simpa using this
  refine ⟨?_, ?_⟩
  · rw [Lib.bytesWorld_cell w _ s j hj]
    rw [List.getD_eq_getElem?_getD, hx]
    rfl
  · unfold World.frozen?
    rw [Lib.bytesWorld_at_new]
    have hz : s.size ≤ (Lib.bytesCells w 5 s).size := by
      unfold Lib.bytesCells
      simp
    simp
    omega
theorem bit_is (b k : Nat) (hb : b < 4294967296) (h : b / 2 ^ k % 2 = 1) : bits .and .u32 ((b : Int) / 2 ^ k) 1 = 1 := by
  have hd : b / 2 ^ k < 4294967296 := Nat.lt_of_le_of_lt (Nat.div_le_self _ _) hb
  have e := u32_and_nat (b / 2 ^ k) 1 hd (by decide)
  rw [Nat.and_two_pow_sub_one_eq_mod _ 1, Nat.pow_one, h, Int.natCast_ediv, Int.natCast_pow] at e
  exact e
theorem bit_not (b k : Nat) (hb : b < 4294967296) (h : b / 2 ^ k % 2 = 0) : bits .and .u32 ((b : Int) / 2 ^ k) 1 = 0 := by
  have hd : b / 2 ^ k < 4294967296 := Nat.lt_of_le_of_lt (Nat.div_le_self _ _) hb
  have e := u32_and_nat (b / 2 ^ k) 1 hd (by decide)
  rw [Nat.and_two_pow_sub_one_eq_mod _ 1, Nat.pow_one, h, Int.natCast_ediv, Int.natCast_pow] at e
  exact e
theorem idx_at {s : ByteArray} {B cap i : Nat} (h : i < s.size) (W : World) : (Instr.indexAt 72 (.slice (some ⟨B, 0, none⟩) s.size cap) (.int .i64 (i : Int))).run Try.prog W = .ok (.pointer (some ⟨B, i, none⟩)) W := by
  have ea : Addr.add ⟨B, 0, none⟩ i = ⟨B, i, none⟩ := by by_cases h : i = 0 <;> simp [Addr.add, h]
  rw [run_indexAt_slice (h := by kernel_rfl), if_pos (by omega)]
  have hz : Try.prog.elem 72 = 5 := by kernel_rfl
  simp [hz, ea]
theorem shl_at {j : Nat} (hj : j < 8) : IntKind.u8.wrap ((2 : Int) ^ j) = ((2 ^ j : Nat) : Int) := by
  have : j = 0 ∨ j = 1 ∨ j = 2 ∨ j = 3 ∨ j = 4 ∨ j = 5 ∨ j = 6 ∨ j = 7 := by omega
  rcases this with rfl | rfl | rfl | rfl | rfl | rfl | rfl | rfl <;> rfl
theorem row_set {B : Nat} {l : List UInt8} {w : World} {i : Nat} {x : UInt8} {y : Nat} (h : Row B l w) (hx : l[i]? = some x) (hy : y < 256) :
    Row B (l.set i (UInt8.ofNat y)) (w.setCell ⟨B, i, none⟩ (.int .u8 (y : Int))).drew := by
  refine ⟨by simpa using h.1, ?_⟩
  intro j z hz
  by_cases hij : i = j
  · subst hij
    have hl := (List.getElem?_eq_some_iff.1 hx).1
    rw [List.getElem?_set_self hl] at hz
    have hz' : z = UInt8.ofNat y := by simpa using hz.symm
    subst hz'
    refine ⟨?_, by simpa using (h.2 i x hx).2⟩
    rw [World.cell?_drew, World.cell?_setCell_same' _ _ _ (by rw [(h.2 i x hx).1]; rfl), UInt8.toNat_ofNat']
    congr 3
    omega
  · rw [List.getElem?_set_ne hij] at hz
    refine ⟨?_, by simpa using (h.2 j z hz).2⟩
    rw [World.cell?_drew, World.cell?_setCell_other _ _ _ _ (by intro e; apply hij; injection e)]
    exact (h.2 j z hz).1
theorem conv_row {B : Nat} {l : List UInt8} {w : World} (h : Row B l w) (n cap : Nat) (hn : l.length = n) :
    (convert 72 9 (.slice (some ⟨B, 0, none⟩) n cap)).run Try.prog w = .ok (.string (bs l)) w := by
  subst hn
  refine run_convert_bytes_back (P := Try.prog) w 72 9 5 ⟨B, 0, none⟩ cap l Try.underlying72 Try.underlying5 Try.underlying9 (fun j hj => ?_)
  have ea : Addr.add ⟨B, 0, none⟩ j = ⟨B, j, none⟩ := by by_cases h : j = 0 <;> simp [Addr.add, h]
  rw [ea]
  exact (h.2 j l[j] (List.getElem?_eq_getElem hj)).1
/-- What comes of it: bytes on which some of the bits were put, and whether any was. -/
def TurnedAs (s : ByteArray) (first : Nat) (w : World) (e : Ending) (w' : World) : Prop :=
  ∃ (l : List UInt8) (v : Nat) (c : Bool), v < 4294967296 ∧ Turn s.data.toList l first v ∧ c = decide (v ≠ 0) ∧ e = .returned (.tuple #[.string (bs l), .bool c]) ∧ Gr w w'
/-- .. of no more bits than were asked for. -/
def TurnedIn (s : ByteArray) (first b : Nat) (w : World) (e : Ending) (w' : World) : Prop :=
  ∃ (l : List UInt8) (v : Nat) (c : Bool), v ≤ b ∧ v < 4294967296 ∧ Turn s.data.toList l first v ∧ c = decide (v ≠ 0) ∧ e = .returned (.tuple #[.string (bs l), .bool c]) ∧ Gr w w'
def TurnAt (s : ByteArray) (first b B : Nat) (w0 : World) (some_ k : Value) (wr : World) : Prop :=
  ∃ (n : Nat) (l : List UInt8) (c : Bool), n ≤ 32 ∧ k = .int .i64 n ∧ some_ = .bool c ∧ c = decide (b % 2 ^ n ≠ 0) ∧ Turn s.data.toList l first (b % 2 ^ n) ∧ Row B l wr ∧ Below B w0 wr
end Go.Proofs.Ytckmciafonnohaa
/- Plain facts: what is closed is opened again; with bits turned nothing is opened. -/
namespace Go.Proofs.Ytckmciafonnohaa
open Go.RowKit CrcPlain
set_option linter.unusedVariables false
set_option linter.unusedSimpArgs false
set_option maxRecDepth 20000
theorem opB_reg {x : ByteArray} (h : opB x = true) : reg 4294967295 x.data.toList = sts 32 4294967295 := by
  have h4 : 4 ≤ x.size := by unfold opB at h; rw [decide_eq_true_iff] at h; exact h.1
  have hc := (cl_is x h4).2 h
  have e : x.data.toList = (ahead x).data.toList ++ tl (more 0 (ahead x).data.toList) := by
    have := congrArg (fun s => s.data.toList) hc
    rw [← this]
    simp [cl, bs, ByteArray.data_append]
  rw [e]
  exact reg_closed _
theorem ahead_cl (s : ByteArray) : ahead (cl s) = s := by
  unfold ahead
  rw [cl_size]
  unfold cl
  apply ByteArray.ext
  apply Array.toList_inj.1
  have : s.size + 4 - 4 = s.size := by omega
  rw [this]
  simp [ByteArray.data_append]
  exact List.take_of_length_le (by simp)
theorem op_cl (s : ByteArray) : opB (cl s) = true ∧ opS (cl s) = s := by
  have h : opB (cl s) = true := (cl_is (cl s) (by rw [cl_size]; omega)).1 (by rw [ahead_cl])
  exact ⟨h, by rw [opS_yes h, ahead_cl]⟩
theorem op_turned {s : ByteArray} {l : List UInt8} {first v : Nat} (h : Turn (cl s).data.toList l first v) (hf : first < 8 * (cl s).size) (hv : v < 4294967296) (h0 : v ≠ 0) : opB (bs l) = false := by
  cases hb : opB (bs l)
  · rfl
  · exfalso
    have h1 := opB_reg hb
    have h2 := opB_reg (op_cl s).1
    have hl : (cl s).data.toList.length = (cl s).size := by simp
    exact h.apart hv h0 (by rw [hl]; omega) 4294967295 (h1.trans h2.symm)
theorem op_same {s : ByteArray} {l : List UInt8} {first v : Nat} (h : Turn (cl s).data.toList l first v) (h0 : v = 0) : bs l = cl s := by
  subst h0
  rw [h.zero, bs_toList]
end Go.Proofs.Ytckmciafonnohaa
/- Plain facts of a manifest: a manifest comes back, a turned one does not; a file that was put is found. -/
namespace Go.Proofs.Ytckmciafonnohaa
open Go.RowKit FsPlain CrcPlain OctPlain
set_option linter.unusedVariables false
set_option linter.unusedSimpArgs false
namespace MnPlain
/-- The sums are of four bytes (as uint32 is). -/
def sumsB (l : List Fl) : Prop := ∀ f ∈ l, 0 ≤ f.sum ∧ f.sum < 4294967296
theorem flB_I {f : Fl} (h : flB f = true) (hs : 0 ≤ f.sum ∧ f.sum < 4294967296) : flI f := by
  unfold flB rightB at h
  simp only [Bool.and_eq_true, decide_eq_true_eq] at h
  obtain ⟨⟨_, _, h1⟩, ⟨h2, h3⟩, h4, h5⟩ := h
  have : f.name.data.toList.length = f.name.size := rfl
  exact ⟨by omega, ⟨by omega, by omega⟩, ⟨h4, by omega⟩, hs⟩
theorem newB_all : ∀ {l : List Fl} {a : List Fl}, newB a l = true → ∀ f ∈ l, flB f = true
  | [], _, _, f, hf => by simp at hf
  | g :: l, a, h, f, hf => by
    unfold newB at h
    simp only [Bool.and_eq_true] at h
    rcases List.mem_cons.1 hf with rfl | hf
    · exact h.1.1
    · exact newB_all h.2 f hf
/-- The bytes of a manifest. -/
def mnS (m : Mn) : ByteArray := cl (bs (mnL m))
theorem mnS_open (m : Mn) : opB (mnS m) = true := (op_cl _).1
theorem mnS_inj {a b : Mn} (ha : mnB a = true) (hb : mnB b = true) (sa : sumsB a.files) (sb : sumsB b.files) (h : mnS a = mnS b) : a = b := by
  have h1 : bs (mnL a) = bs (mnL b) := by
    have e1 := (op_cl (bs (mnL a))).2
    have e2 := (op_cl (bs (mnL b))).2
    unfold mnS at h
    rw [← e1, h, e2]
  have h2 : mnL a = mnL b := by
    have e := congrArg (fun s : ByteArray => s.data.toList) h1
    have k : ∀ l : List UInt8, (bs l).data.toList = l := fun l => by simp [bs]
    have e2 : (bs (mnL a)).data.toList = (bs (mnL b)).data.toList := e
    rw [k, k] at e2
    exact e2
  have na : newB [] a.files = true := by unfold mnB at ha; rw [Bool.and_eq_true] at ha; exact ha.2
  have nb : newB [] b.files = true := by unfold mnB at hb; rw [Bool.and_eq_true] at hb; exact hb.2
  exact mnL_inj ha hb (fun f hf => flB_I (newB_all na f hf) (sa f hf)) (fun f hf => flB_I (newB_all nb f hf) (sb f hf)) h2
/-- What Get tells of s: of one manifest at most. -/
def mnIs (s : ByteArray) (m : Mn) : Prop := mnB m = true ∧ sumsB m.files ∧ mnS m = s
theorem mnIs_one {s : ByteArray} {a b : Mn} (ha : mnIs s a) (hb : mnIs s b) : a = b := mnS_inj ha.1 hb.1 ha.2.1 hb.2.1 (ha.2.2.trans hb.2.2.symm)
theorem mnIs_shut {s : ByteArray} (h : opB s = false) (m : Mn) : ¬ mnIs s m := fun k => by
  have := mnS_open m
  rw [k.2.2, h] at this
  cases this
/-- Of turned bytes there is none. -/
theorem mn_turned {m : Mn} {l : List UInt8} {first v : Nat} (h : Turn (mnS m).data.toList l first v) (hf : first < 8 * (mnS m).size) (hv : v < 4294967296) (h0 : v ≠ 0) (o : Mn) : ¬ mnIs (bs l) o := mnIs_shut (op_turned h hf hv h0) o
def findF (n : ByteArray) : List Fl → Option Fl
  | [] => none
  | f :: t => if f.name = n then some f else findF n t
def withF (g : Fl) : List Fl → List Fl
  | [] => [g]
  | f :: t => if f.name = g.name then g :: t else f :: withF g t
theorem find_with (g : Fl) : ∀ l : List Fl, findF g.name (withF g l) = some g
  | [] => by unfold withF findF; rw [if_pos rfl]
  | f :: t => by
    unfold withF
    by_cases h : f.name = g.name
    · rw [if_pos h]; unfold findF; rw [if_pos rfl]
    · rw [if_neg h]; unfold findF; rw [if_neg h]; exact find_with g t
theorem find_ahead {n : ByteArray} : ∀ {l m : List Fl}, (∀ f ∈ l, f.name ≠ n) → findF n (l ++ m) = findF n m
  | [], _, _ => rfl
  | f :: t, m, h => by
    show (if f.name = n then some f else findF n (t ++ m)) = findF n m
    rw [if_neg (h f (by simp))]
    exact find_ahead (l := t) fun x hx => h x (by simp [hx])
theorem with_ahead {g : Fl} : ∀ {l m : List Fl}, (∀ f ∈ l, f.name ≠ g.name) → withF g (l ++ m) = l ++ withF g m
  | [], _, _ => rfl
  | f :: t, m, h => by
    have ih := with_ahead (g := g) (l := t) (m := m) fun x hx => h x (by simp [hx])
    show (if f.name = g.name then g :: (t ++ m) else f :: withF g (t ++ m)) = f :: (t ++ withF g m)
    rw [if_neg (h f (by simp)), ih]
/-- How long the bytes are. -/
theorem flL_length (f : Fl) : (flL f).length = 14 + f.name.size := by
  unfold flL
  simp only [List.length_append, beL_length]
  have : f.name.data.toList.length = f.name.size := rfl
  omega
theorem mnL_length (m : Mn) : (mnL m).length = 9 + (m.files.map fun f => 14 + f.name.size).sum := by
  unfold mnL
  simp only [List.length_append, beL_length, List.length_flatten, List.map_map, List.length_cons, List.length_nil]
  have e : (m.files.map (List.length ∘ flL)) = m.files.map fun f => 14 + f.name.size := List.map_congr_left fun f _ => flL_length f
  rw [e]; omega
theorem mnS_size (m : Mn) : (mnS m).size = 13 + (m.files.map fun f => 14 + f.name.size).sum := by
  unfold mnS
  rw [cl_size, bs_size, mnL_length]; omega
end MnPlain
end Go.Proofs.Ytckmciafonnohaa
