/- In one text: FramePlain2, OctBits, OctGet, OctRget, OctGets, FrameGet, FrameAwake, CrcTurnPlain, CrcTurned, CrcBack. -/
import Derived.Test.YtcpaaenjfljocaaGreatP06
import Derived.Test.YtcpaaenjfljocaaGreatP07
import Derived.Laws.Bits64
import Derived.IntWalk
import Derived.Lib.Hide
import Derived.Laws.CopyRow
import Derived.Lib.BufferWrite
import Derived.Deep.RegionLaw
import Derived.Test.YtcpaaenjfljocaaGreatP05
import Derived.Deep.RegionHeld3
import Derived.BigRegion
import Derived.Lib.ConvBytes
import Derived.KernelRfl
/- Plain facts on what the bytes of a block say. -/
namespace Go.Proofs.YtcpaaenjfljocaaGreat
open Go.RowKit CrcPlain OctPlain FramePlain
set_option linter.unusedVariables false
set_option linter.unusedSimpArgs false
namespace FramePlain
/-- How many records a block says to have: 0, where it has no byte. -/
def cntN (s : ByteArray) : Nat := num (cutL s 0 1)
def gLen (size : Int) (s : ByteArray) : Int := 5 + cntN s * size
def gB (size : Int) (s : ByteArray) : Bool := sizeB size && decide (1 ≤ cntN s ∧ cntN s ≤ 4) && decide (gLen size s ≤ s.size) && opB (s.extract 0 (gLen size s).toNat)
def gN (size : Int) (s : ByteArray) : Int := if gB size s = true then gLen size s else 0
/-- A block's records, one behind the other. -/
def gBody (size : Int) (s : ByteArray) : ByteArray := (opS (s.extract 0 (gLen size s).toNat)).extract 1 (opS (s.extract 0 (gLen size s).toNat)).size
def gL (size : Int) (s : ByteArray) : List ByteArray := if gB size s = true then splL (gBody size s) size else []
theorem gN_no {size : Int} {s : ByteArray} (h : gB size s = false) : gN size s = 0 := by simp [gN, h]
theorem gL_no {size : Int} {s : ByteArray} (h : gB size s = false) : gL size s = [] := by simp [gL, h]
theorem gN_yes {size : Int} {s : ByteArray} (h : gB size s = true) : gN size s = gLen size s := by simp [gN, h]
theorem gL_yes {size : Int} {s : ByteArray} (h : gB size s = true) : gL size s = splL (gBody size s) size := by simp [gL, h]
theorem cntN_lt (s : ByteArray) : cntN s < 256 := by
  have h := num_lt (cutL s 0 1)
  have hl : (cutL s 0 1).length ≤ 1 := by unfold cutL; rw [List.length_take]; omega
  have hp : 256 ^ (cutL s 0 1).length ≤ 256 ^ 1 := Nat.pow_le_pow_right (by omega) hl
  unfold cntN
  omega
theorem getN_cnt (s : ByteArray) : getN s 0 1 = (cntN s : Int) := by
  have hlt := cntN_lt s
  by_cases h : 1 ≤ s.size
  · have hb : getB s (0 : Nat) (1 : Nat) = true := getB_yes (by omega) (by omega) (by unfold cntN at hlt; omega)
    exact getN_yes hb
  · have hb : getB s 0 1 = false := getB_no (by omega)
    rw [getN_no hb]
    have hl : s.data.toList = [] := by
      apply List.eq_nil_of_length_eq_zero; rw [data_length]; omega
    unfold cntN cutL; rw [hl]; rfl
theorem cntN_at (s : ByteArray) (h : 0 < s.size) : s[0].toNat = cntN s := by
  have e := cutL_take s 0 1 0 (by omega) (by omega)
  have hl := cutL_length s 0 1 (by omega)
  rw [List.take_of_length_le (by omega)] at e
  unfold cntN
  rw [e]
  simp [num]
theorem cntN_none (s : ByteArray) (h : s.size = 0) : cntN s = 0 := by
  have hl : s.data.toList = [] := by
    apply List.eq_nil_of_length_eq_zero; rw [data_length]; exact h
  unfold cntN cutL; rw [hl]; rfl
end FramePlain
/-- A row that lies above a bound lies above a lesser one. -/
theorem owns_low {w : World} {A B : Nat} {e : TypeId} {k : Nat} {v : Value} {n : Nat} {xs : List Value} (hA : A ≤ B) (h : w.ownsRow B e k v n xs) : w.ownsRow A e k v n xs := by
  obtain ⟨h1, h2⟩ := h
  refine ⟨h1, h2.imp id ?_⟩
  rintro ⟨g, cap, cur, e1, e2, e3⟩
  exact ⟨g, cap, cur, e1, Nat.le_trans hA e2, e3⟩
/-- What Get hands out. -/
def FGot (size : Int) (s : ByteArray) (w : World) (e : Ending) (w' : World) : Prop :=
  ∃ v, e = .returned (.tuple #[v, .int .i64 (gN size s), .bool (gB size s)]) ∧ w'.ownsRow w.heap.size 9 1 v (gL size s).length (strs (gL size s)) ∧ Gr w w'
theorem fgot_no {size : Int} {s : ByteArray} {w w' : World} (h : gB size s = false) (g : Gr w w') : FGot size s w (.returned (.tuple #[.slice none 0 0, .int .i64 0, .bool false])) w' := by
  refine ⟨_, by rw [gN_no h, h], ?_, g⟩
  rw [gL_no h]
  exact World.ownsRow_nil _ _ _ _
theorem fgot_yes {size : Int} {s : ByteArray} {w w' : World} {v : Value} {n : Int} (h : gB size s = true) (hn : gN size s = n) (ho : ∃ B, w.heap.size ≤ B ∧ w'.ownsRow B 9 1 v (splL (gBody size s) size).length (strs (splL (gBody size s) size))) (g : Gr w w') :
    FGot size s w (.returned (.tuple #[v, .int .i64 n, .bool true])) w' := by
  obtain ⟨B, hB, ho⟩ := ho
  refine ⟨_, by rw [hn, h], ?_, g⟩
  rw [gL_yes h]
  exact owns_low hB ho
end Go.Proofs.YtcpaaenjfljocaaGreat
/- Plain facts: a byte laid behind a number whose lowest byte is none is added; numbers that wrap round. -/
namespace Go.Proofs.YtcpaaenjfljocaaGreat
open Go.RowKit OctPlain
set_option linter.unusedVariables false

theorem or_step (N y : Nat) (hN : N < 72057594037927936) (hy : y < 256) :
    bits .or .i64 (wrap64 (wrap64 (N : Int) * 256)) (wrap64 (y : Int)) = wrap64 ((N * 256 + y : Nat) : Int) := by
  have h1 : (BitVec.ofInt 64 (wrap64 (wrap64 (N : Int) * 256))).toNat = 2 ^ 8 * N := by
    rw [BitVec.toNat_ofInt]; unfold wrap64; omega
  have h2 : (BitVec.ofInt 64 (wrap64 (y : Int))).toNat = y := by
    rw [BitVec.toNat_ofInt]; unfold wrap64; omega
  show IntKind.i64.wrap ((BitVec.ofInt 64 (wrap64 (wrap64 (N : Int) * 256)) ||| BitVec.ofInt 64 (wrap64 (y : Int))).toNat : Int) = _
  rw [BitVec.toNat_or, h1, h2, ← Nat.two_pow_add_eq_or_of_lt hy]
  have e : 2 ^ 8 * N + y = N * 256 + y := by omega
  rw [e]
  simp only [IntKind.wrap_i64, wrap64]

theorem or_first (y : Nat) (hy : y < 256) : bits .or .i64 0 (wrap64 (y : Int)) = wrap64 (y : Int) := by
  have h := or_step 0 y (by omega) hy
  have e : wrap64 (wrap64 ((0 : Nat) : Int) * 256) = 0 := by simp [wrap64]
  rw [e] at h
  simpa using h

/-- Eight bytes, laid behind each other one by one. -/
theorem chain8 {y0 y1 y2 y3 y4 y5 y6 y7 : UInt8} {v1 v2 v3 v4 v5 v6 v7 v8 : Int}
    (o1 : bits .or .i64 0 (wrap64 (y0.toNat : Int)) = v1)
    (o2 : bits .or .i64 (wrap64 (v1 * 256)) (wrap64 (y1.toNat : Int)) = v2)
    (o3 : bits .or .i64 (wrap64 (v2 * 256)) (wrap64 (y2.toNat : Int)) = v3)
    (o4 : bits .or .i64 (wrap64 (v3 * 256)) (wrap64 (y3.toNat : Int)) = v4)
    (o5 : bits .or .i64 (wrap64 (v4 * 256)) (wrap64 (y4.toNat : Int)) = v5)
    (o6 : bits .or .i64 (wrap64 (v5 * 256)) (wrap64 (y5.toNat : Int)) = v6)
    (o7 : bits .or .i64 (wrap64 (v6 * 256)) (wrap64 (y6.toNat : Int)) = v7)
    (o8 : bits .or .i64 (wrap64 (v7 * 256)) (wrap64 (y7.toNat : Int)) = v8) :
    v8 = wrap64 (num [y0, y1, y2, y3, y4, y5, y6, y7] : Int) := by
  have b0 := y0.toNat_lt; have b1 := y1.toNat_lt; have b2 := y2.toNat_lt; have b3 := y3.toNat_lt
  have b4 := y4.toNat_lt; have b5 := y5.toNat_lt; have b6 := y6.toNat_lt; have b7 := y7.toNat_lt
  rw [or_first _ (by omega)] at o1; subst o1
  rw [or_step _ _ (by omega) (by omega)] at o2; subst o2
  rw [or_step _ _ (by omega) (by omega)] at o3; subst o3
  rw [or_step _ _ (by omega) (by omega)] at o4; subst o4
  rw [or_step _ _ (by omega) (by omega)] at o5; subst o5
  rw [or_step _ _ (by omega) (by omega)] at o6; subst o6
  rw [or_step _ _ (by omega) (by omega)] at o7; subst o7
  rw [or_step _ _ (by omega) (by omega)] at o8; subst o8
  simp only [num, List.foldl, Nat.zero_mul, Nat.zero_add]

theorem num_zeros (l : List UInt8) : ∀ k, num (List.replicate k 0 ++ l) = num l := by
  intro k
  induction k with
  | zero => simp
  | succ k ih => rw [List.replicate_succ, List.cons_append, num_cons, ih]; simp

/-- Eight bytes that begin with none. -/
theorem pad8 (xs : List UInt8) (k : Nat) (hk : k ≤ 8) (hl : xs.length = k) :
    ∃ y0 y1 y2 y3 y4 y5 y6 y7 : UInt8, List.replicate (8 - k) 0 ++ xs = [y0, y1, y2, y3, y4, y5, y6, y7] ∧ num [y0, y1, y2, y3, y4, y5, y6, y7] = num xs := by
  have h8 : (List.replicate (8 - k) (0 : UInt8) ++ xs).length = 8 := by simp; omega
  have hn := num_zeros xs (8 - k)
  match h : List.replicate (8 - k) (0 : UInt8) ++ xs, h8 with
  | [a, b, c, d, e, f, g, i], _ => exact ⟨a, b, c, d, e, f, g, i, rfl, by rw [← h]; exact hn⟩
end Go.Proofs.YtcpaaenjfljocaaGreat
/- Contracts of Get and GetCoord, and of the document's answers to them. -/
namespace Go.Proofs.YtcpaaenjfljocaaGreat
open Go.RowKit OctPlain
set_option linter.unusedVariables false
set_option linter.unusedSimpArgs false

/-- A copy from a string that is longer than the room: as much goes over as there is room for. -/
theorem copy_cut {P : Program} (w : World) (dT sT ty elem : TypeId) (g o dLen dCap : Nat) (s : ByteArray) (xs : List UInt8) (cur : Array Value) (t : TypeId)
    (hu : P.underlying dT = some (.slice elem)) (hs : (P.info? elem).map (·.size) = some 1) (hg : w.heap[g]? = some (.cells cur t (0, 0))) (hx : s.data.toList.take dLen = xs) (hl : xs.length = dLen) (hfit : o + dLen ≤ cur.size) :
    (Builtin.copy_ #[dT, sT] ty #[.slice (some ⟨g, o, none⟩) dLen dCap, .string s]).run P w =
      .ok (goInt dLen) (w.setRow g (cur.toList.take o ++ Lib.byteCells xs ++ cur.toList.drop (o + dLen)).toArray) := by
  have hsz : dLen ≤ s.size := by
    have h1 := congrArg List.length hx
    rw [List.length_take, hl, Array.length_toList] at h1
    show dLen ≤ s.data.size
    omega
  have hlen : (Lib.byteCells xs).length = dLen := by rw [Lib.byteCells_length, hl]
  have hst := run_storeCells_at P g o t (Lib.byteCells xs) 0 cur w hg (by rw [hlen]; simpa using hfit) (Lib.byteCells_one _)
  have hmin : Nat.min s.size dLen = dLen := Nat.min_eq_right hsz
  have htk : List.take dLen (List.map (fun b : UInt8 => Value.int IntKind.u8 (b.toNat : Int)) s.data.toList) = Lib.byteCells xs := by
    rw [← List.map_take, hx]
    rfl
  rw [hlen] at hst
  simp only [Nat.add_zero] at hst
  cases hq : P.info? elem with
  | none => simp [hq] at hs
  | some i =>
    simp [Builtin.copy_, run_underlying hu, Builtin.lenOf, Builtin.firstCells, sizeOf, typeInfo, hq, hmin]
    rw [htk, hst]
    simp [Result.andThen]

theorem setRow_alloc (w : World) (cur Y : Array Value) (t : TypeId) : (w.alloc (.cells cur t)).setRow w.heap.size Y = w.alloc (.cells Y t) := by
  cases w with
  | mk heap tape drawn os output =>
    unfold World.setRow World.alloc
    congr 1
    apply Array.ext
    · simp
    · intro k h1 h2
      simp only [Array.getElem_modify, Array.getElem_push]
      simp at h1
      by_cases hk : k < heap.size
      · have : ¬ heap.size = k := by omega
        simp [hk, this]
      · have : heap.size = k := by omega
        simp [this]

theorem copy8 (w : World) (s : ByteArray) (p k : Nat) (hk : 1 ≤ k ∧ k ≤ 8) (hp : p + k ≤ s.size) (xs : List UInt8) (hx : cutL s p k = xs) :
    (Builtin.copy_ #[88, 9] 3 #[.slice (some ⟨w.heap.size, 8 - k, none⟩) k k, .string (s.extract p s.size)]).run Tryz.prog (w.alloc (.cells #[Value.int IntKind.u8 0, Value.int IntKind.u8 0, Value.int IntKind.u8 0, Value.int IntKind.u8 0,
          Value.int IntKind.u8 0, Value.int IntKind.u8 0, Value.int IntKind.u8 0, Value.int IntKind.u8 0] 123)) =
      .ok (goInt k) (w.alloc (.cells (List.replicate (8 - k) (Value.int IntKind.u8 0) ++ Lib.byteCells xs).toArray 123)) := by
  have hl : xs.length = k := by rw [← hx]; exact cutL_length _ _ _ hp
  have hg : (w.alloc (.cells #[Value.int IntKind.u8 0, Value.int IntKind.u8 0, Value.int IntKind.u8 0, Value.int IntKind.u8 0,
          Value.int IntKind.u8 0, Value.int IntKind.u8 0, Value.int IntKind.u8 0, Value.int IntKind.u8 0] 123)).heap[w.heap.size]? = some (.cells #[Value.int IntKind.u8 0, Value.int IntKind.u8 0, Value.int IntKind.u8 0, Value.int IntKind.u8 0,
          Value.int IntKind.u8 0, Value.int IntKind.u8 0, Value.int IntKind.u8 0, Value.int IntKind.u8 0] 123 (0, 0)) := heap_alloc_new w _
  rw [copy_cut (P := Tryz.prog) _ 88 9 3 5 w.heap.size (8 - k) k k (s.extract p s.size) xs _ 123 Tryz.underlying88 (by kernel_rfl) hg ?_ hl (by simp; omega)]
  · rw [setRow_alloc]
    congr 4
    have hk8 : k = 1 ∨ k = 2 ∨ k = 3 ∨ k = 4 ∨ k = 5 ∨ k = 6 ∨ k = 7 ∨ k = 8 := by omega
    rcases hk8 with rfl | rfl | rfl | rfl | rfl | rfl | rfl | rfl <;> simp
  · rw [Lib.extract_data, ← hx]
    unfold cutL
    rw [List.take_take]
    congr 1
    omega

theorem copy8d (w : World) (s : ByteArray) (p k : Nat) (hk : 1 ≤ k ∧ k ≤ 8) (hp : p + k ≤ s.size) (xs : List UInt8) (hx : cutL s p k = xs) :
    (Builtin.copy_ #[88, 9] 3 #[.slice (some ⟨w.heap.size, 8 - k, none⟩) k k, .string (s.extract p s.size)]).run Tryz.prog ((w.alloc (.cells #[Value.int IntKind.u8 0, Value.int IntKind.u8 0, Value.int IntKind.u8 0, Value.int IntKind.u8 0,
          Value.int IntKind.u8 0, Value.int IntKind.u8 0, Value.int IntKind.u8 0, Value.int IntKind.u8 0] 123)).drew) =
      .ok (goInt k) (w.alloc (.cells (List.replicate (8 - k) (Value.int IntKind.u8 0) ++ Lib.byteCells xs).toArray 123)).drew := copy8 w.drew s p k hk hp xs hx

theorem ret_ib {a b : Int} {p q : Bool} (h : a = b) (k : p = q) : Ending.returned (.tuple #[.int .i64 a, .bool p]) = .returned (.tuple #[.int .i64 b, .bool q]) := by rw [h, k]
theorem idx0 (y0 y1 y2 y3 y4 y5 y6 y7 : UInt8) (w : World) : (Instr.index 123 (.agg #[.int .u8 (y0.toNat : Int), .int .u8 (y1.toNat : Int), .int .u8 (y2.toNat : Int), .int .u8 (y3.toNat : Int), .int .u8 (y4.toNat : Int), .int .u8 (y5.toNat : Int), .int .u8 (y6.toNat : Int), .int .u8 (y7.toNat : Int)]) (.int .i64 0)).run Tryz.prog w = .ok (.int .u8 (y0.toNat : Int)) w := by kernel_rfl
theorem idx1 (y0 y1 y2 y3 y4 y5 y6 y7 : UInt8) (w : World) : (Instr.index 123 (.agg #[.int .u8 (y0.toNat : Int), .int .u8 (y1.toNat : Int), .int .u8 (y2.toNat : Int), .int .u8 (y3.toNat : Int), .int .u8 (y4.toNat : Int), .int .u8 (y5.toNat : Int), .int .u8 (y6.toNat : Int), .int .u8 (y7.toNat : Int)]) (.int .i64 1)).run Tryz.prog w = .ok (.int .u8 (y1.toNat : Int)) w := by kernel_rfl
theorem idx2 (y0 y1 y2 y3 y4 y5 y6 y7 : UInt8) (w : World) : (Instr.index 123 (.agg #[.int .u8 (y0.toNat : Int), .int .u8 (y1.toNat : Int), .int .u8 (y2.toNat : Int), .int .u8 (y3.toNat : Int), .int .u8 (y4.toNat : Int), .int .u8 (y5.toNat : Int), .int .u8 (y6.toNat : Int), .int .u8 (y7.toNat : Int)]) (.int .i64 2)).run Tryz.prog w = .ok (.int .u8 (y2.toNat : Int)) w := by kernel_rfl
theorem idx3 (y0 y1 y2 y3 y4 y5 y6 y7 : UInt8) (w : World) : (Instr.index 123 (.agg #[.int .u8 (y0.toNat : Int), .int .u8 (y1.toNat : Int), .int .u8 (y2.toNat : Int), .int .u8 (y3.toNat : Int), .int .u8 (y4.toNat : Int), .int .u8 (y5.toNat : Int), .int .u8 (y6.toNat : Int), .int .u8 (y7.toNat : Int)]) (.int .i64 3)).run Tryz.prog w = .ok (.int .u8 (y3.toNat : Int)) w := by kernel_rfl
theorem idx4 (y0 y1 y2 y3 y4 y5 y6 y7 : UInt8) (w : World) : (Instr.index 123 (.agg #[.int .u8 (y0.toNat : Int), .int .u8 (y1.toNat : Int), .int .u8 (y2.toNat : Int), .int .u8 (y3.toNat : Int), .int .u8 (y4.toNat : Int), .int .u8 (y5.toNat : Int), .int .u8 (y6.toNat : Int), .int .u8 (y7.toNat : Int)]) (.int .i64 4)).run Tryz.prog w = .ok (.int .u8 (y4.toNat : Int)) w := by kernel_rfl
theorem idx5 (y0 y1 y2 y3 y4 y5 y6 y7 : UInt8) (w : World) : (Instr.index 123 (.agg #[.int .u8 (y0.toNat : Int), .int .u8 (y1.toNat : Int), .int .u8 (y2.toNat : Int), .int .u8 (y3.toNat : Int), .int .u8 (y4.toNat : Int), .int .u8 (y5.toNat : Int), .int .u8 (y6.toNat : Int), .int .u8 (y7.toNat : Int)]) (.int .i64 5)).run Tryz.prog w = .ok (.int .u8 (y5.toNat : Int)) w := by kernel_rfl
theorem idx6 (y0 y1 y2 y3 y4 y5 y6 y7 : UInt8) (w : World) : (Instr.index 123 (.agg #[.int .u8 (y0.toNat : Int), .int .u8 (y1.toNat : Int), .int .u8 (y2.toNat : Int), .int .u8 (y3.toNat : Int), .int .u8 (y4.toNat : Int), .int .u8 (y5.toNat : Int), .int .u8 (y6.toNat : Int), .int .u8 (y7.toNat : Int)]) (.int .i64 6)).run Tryz.prog w = .ok (.int .u8 (y6.toNat : Int)) w := by kernel_rfl
theorem idx7 (y0 y1 y2 y3 y4 y5 y6 y7 : UInt8) (w : World) : (Instr.index 123 (.agg #[.int .u8 (y0.toNat : Int), .int .u8 (y1.toNat : Int), .int .u8 (y2.toNat : Int), .int .u8 (y3.toNat : Int), .int .u8 (y4.toNat : Int), .int .u8 (y5.toNat : Int), .int .u8 (y6.toNat : Int), .int .u8 (y7.toNat : Int)]) (.int .i64 7)).run Tryz.prog w = .ok (.int .u8 (y7.toNat : Int)) w := by kernel_rfl
theorem copy8y (w : World) (s : ByteArray) (p k : Nat) (hk : 1 ≤ k ∧ k ≤ 8) (hp : p + k ≤ s.size) {y0 y1 y2 y3 y4 y5 y6 y7 : UInt8} (hy : List.replicate (8 - k) 0 ++ cutL s p k = [y0, y1, y2, y3, y4, y5, y6, y7]) :
    (Builtin.copy_ #[88, 9] 3 #[.slice (some ⟨w.heap.size, 8 - k, none⟩) k k, .string (s.extract p s.size)]).run Tryz.prog ((w.alloc (.cells #[Value.int IntKind.u8 0, Value.int IntKind.u8 0, Value.int IntKind.u8 0, Value.int IntKind.u8 0,
          Value.int IntKind.u8 0, Value.int IntKind.u8 0, Value.int IntKind.u8 0, Value.int IntKind.u8 0] 123)).drew) =
      .ok (.int .i64 k) (w.alloc (.cells #[.int .u8 (y0.toNat : Int), .int .u8 (y1.toNat : Int), .int .u8 (y2.toNat : Int), .int .u8 (y3.toNat : Int), .int .u8 (y4.toNat : Int), .int .u8 (y5.toNat : Int), .int .u8 (y6.toNat : Int), .int .u8 (y7.toNat : Int)] 123)).drew := by
  rw [copy8d w s p k hk hp _ rfl]
  have e : (List.replicate (8 - k) (Value.int IntKind.u8 0) ++ Lib.byteCells (cutL s p k)).toArray = #[.int .u8 (y0.toNat : Int), .int .u8 (y1.toNat : Int), .int .u8 (y2.toNat : Int), .int .u8 (y3.toNat : Int), .int .u8 (y4.toNat : Int), .int .u8 (y5.toNat : Int), .int .u8 (y6.toNat : Int), .int .u8 (y7.toNat : Int)] := by
    have h := congrArg Lib.byteCells hy
    unfold Lib.byteCells at h ⊢
    rw [List.map_append, List.map_replicate] at h
    have h0 : ((0 : UInt8).toNat : Int) = 0 := rfl
    rw [h0] at h
    rw [h]
    rfl
  rw [e]
  rfl

end Go.Proofs.YtcpaaenjfljocaaGreat
/- Contracts of the document's Get. -/
namespace Go.Proofs.YtcpaaenjfljocaaGreat
open Go.RowKit OctPlain
set_option linter.unusedVariables false
set_option linter.unusedSimpArgs false

def GetAt (s : ByteArray) (p k : Nat) (w : World) (n i : Value) (wr : World) : Prop :=
  ∃ j : Nat, wr = w ∧ j ≤ k ∧ i = .int .i64 j ∧ n = .int .i64 (num ((cutL s p k).take j) : Int) ∧ num ((cutL s p k).take j) < 9223372036854775808

theorem ret_ibr {a b : Int} {p q : Bool} (h : a = b) (k : p = q) : Ending.returned (.tuple #[.int .i64 a, .bool p]) = .returned (.tuple #[.int .i64 b, .bool q]) := by rw [h, k]
end Go.Proofs.YtcpaaenjfljocaaGreat
/- Contracts of Get in every case, and of GetCoord on both sides. -/
namespace Go.Proofs.YtcpaaenjfljocaaGreat
open Go.RowKit OctPlain
set_option linter.unusedVariables false
set_option linter.unusedSimpArgs false
def gcN (s : ByteArray) (a : Int) : Int := if getB s a 4 = true then wrap64 (getN s a 4 - 2147483648) else 0
end Go.Proofs.YtcpaaenjfljocaaGreat
/- The contracts of what cuts bytes into records, and of Get. -/
namespace Go.Proofs.YtcpaaenjfljocaaGreat
open Go.RowKit CrcPlain OctPlain FramePlain
set_option linter.unusedVariables false
set_option linter.unusedSimpArgs false
theorem slice_to (s : ByteArray) (n : Nat) (h : n ≤ s.size) (w : World) :
    (Instr.slice 9 (.string s) none (some (.int .i64 (n : Int))) none).run Tryz.prog w = .ok (.string (s.extract 0 n)) w := by
  rw [run_slice_string_to_if w 9 s .i64 (n : Int) Tryz.underlying9, if_pos ⟨by omega, by omega⟩, Int.toNat_natCast]
theorem slice_1 (s : ByteArray) (h : 1 ≤ s.size) (w : World) :
    (Instr.slice 9 (.string s) (some (.int .i64 1)) none none).run Tryz.prog w = .ok (.string (s.extract 1 s.size)) w := by
  rw [run_slice_string_from_if w 9 s .i64 1 Tryz.underlying9, if_pos ⟨by omega, by omega⟩]
  rfl

theorem gLen_nat {size : Int} {s : ByteArray} (hs : 1 ≤ size ∧ size ≤ 64) (hc : 1 ≤ cntN s ∧ cntN s ≤ 4) : ∃ n : Nat, gLen size s = n ∧ 6 ≤ n ∧ n ≤ 261 := by
  obtain ⟨m, rfl⟩ : ∃ m : Nat, size = m := ⟨size.toNat, by omega⟩
  unfold gLen
  refine ⟨5 + cntN s * m, by rw [Int.natCast_add, Int.natCast_mul]; rfl, ?_⟩
  generalize cntN s = c at hc
  have h1 : c = 1 ∨ c = 2 ∨ c = 3 ∨ c = 4 := by omega
  rcases h1 with rfl | rfl | rfl | rfl <;> omega

end Go.Proofs.YtcpaaenjfljocaaGreat
/- Put of whatever slice; the law's 'few'; the chapter's example. -/
namespace Go.Proofs.YtcpaaenjfljocaaGreat
open Go.RowKit CrcPlain OctPlain FramePlain
set_option linter.unusedVariables false
set_option linter.unusedSimpArgs false
theorem fput_c {w : World} {v : Value} {l : List ByteArray} (h : Lies w v l) (size : Int) (hk : I64 size) (hl : l.length ≤ 1000000) (hz : ∀ s ∈ l, s.size ≤ 1000) :
    Calls Tryz.prog 73 #[.int .i64 size, v] w fun e w' => e = .returned (.tuple #[.string (blkS size l), .bool (blkB size l)]) ∧ Gr w w' := by
  obtain ⟨a, c, rfl, hc, h⟩ := h
  by_cases hs : sizeB size = true ∧ 1 ≤ l.length ∧ l.length ≤ 4
  · rcases h with rfl | ⟨b, off, rfl, hr⟩
    · simp at hs
    · exact fput_some b off c l.length l rfl size hk w hr hs.1 hs.2 hc hz
  · refine (fput_no a c l.length l rfl size hk (by unfold I64; omega) w ?_).mono fun e w' ⟨h1, h2⟩ => ⟨h1, h2 ▸ Gr.refl _⟩
    cases hb : sizeB size
    · exact .inl rfl
    · exact .inr fun h4 => hs ⟨hb, h4⟩
theorem rfput_c {w : World} {v : Value} {l : List ByteArray} (h : Lies w v l) (size : Int) (hk : I64 size) (hl : l.length ≤ 1000000) :
    Calls Tryz.prog 48 #[.int .i64 size, v] w fun e w' => e = .returned (.tuple #[.string (blkS size l), .bool (blkB size l)]) ∧ Gr w w' := by
  obtain ⟨a, c, rfl, hc, h⟩ := h
  by_cases hs : sizeB size = true ∧ 1 ≤ l.length ∧ l.length ≤ 4
  · rcases h with rfl | ⟨b, off, rfl, hr⟩
    · simp at hs
    · cases ha : allB size l
      · exact (rfput_mid b off c l.length l rfl size hk w hr hs.1 hs.2 ha).mono fun e w' ⟨h1, h2⟩ => ⟨h1, h2 ▸ Gr.refl _⟩
      · exact rfput_yes b off c l.length l rfl size hk w hr hs.1 hs.2 ha
  · refine (rfput_no a c l.length l rfl size hk w ?_).mono fun e w' ⟨h1, h2⟩ => ⟨h1, h2 ▸ Gr.refl _⟩
    cases hb : sizeB size
    · exact .inl rfl
    · exact .inr fun h4 => hs ⟨hb, h4⟩

def fewB (l : List ByteArray) : Bool := decide (l.length ≤ 10) && (l.take 10).all (fun s => decide (s.size ≤ 80))
theorem few_yes {l : List ByteArray} (h : fewB l = true) : l.length ≤ 10 ∧ ∀ s ∈ l, s.size ≤ 80 := by
  unfold fewB at h
  simp only [Bool.and_eq_true, decide_eq_true_eq, List.all_eq_true] at h
  refine ⟨h.1, fun s hs => h.2 s ?_⟩
  rw [List.take_of_length_le h.1]; exact hs
def FewAt (l : List ByteArray) (w : World) (i : Value) (wr : World) : Prop := ∃ j : Nat, j ≤ 10 ∧ j ≤ l.length ∧ i = .int .i64 j ∧ wr = w ∧ (l.take j).all (fun s => decide (s.size ≤ 80)) = true
end Go.Proofs.YtcpaaenjfljocaaGreat
/- Plain facts on bytes of which bits are turned, without the model. -/
namespace Go.Proofs.YtcpaaenjfljocaaGreat
namespace CrcPlain
theorem mul_xor (k a b : Nat) : 2 ^ k * (a ^^^ b) = 2 ^ k * a ^^^ 2 ^ k * b := by
  apply Nat.eq_of_testBit_eq
  intro i
  rw [Nat.testBit_xor, Nat.testBit_two_pow_mul, Nat.testBit_two_pow_mul, Nat.testBit_two_pow_mul, Nat.testBit_xor]
  cases decide (i ≥ k) <;> simp
theorem le_cons (b : UInt8) (l : List UInt8) : le (b :: l) = b.toNat ^^^ 2 ^ 8 * le l := by
  have := add_xor 8 (b := b.toNat) b.toNat_lt (le l)
  rw [← this]; rfl
/-- One byte turned. -/
theorem le_set : ∀ (l : List UInt8) (i : Nat) (x : Nat) (b c : UInt8), l[i]? = some b → c.toNat = b.toNat ^^^ x → le (l.set i c) = le l ^^^ 2 ^ (8 * i) * x
  | [], i, x, b, c, h, _ => by simp at h
  | a :: l, 0, x, b, c, h, hc => by
    simp at h
    subst h
    rw [List.set_cons_zero, le_cons, le_cons, hc]
    simp only [Nat.mul_zero, Nat.pow_zero, Nat.one_mul]
    rw [Nat.xor_assoc, Nat.xor_assoc, Nat.xor_comm x]
  | a :: l, i + 1, x, b, c, h, hc => by
    have ih := le_set l i x b c (by simpa using h) hc
    rw [List.set_cons_succ, le_cons, le_cons, ih, mul_xor, Nat.xor_assoc]
    congr 2
    rw [← Nat.mul_assoc, ← Nat.pow_add]
    congr 2
    omega
theorem le_lt : ∀ l : List UInt8, le l < 2 ^ (8 * l.length)
  | [] => by simp [le]
  | b :: l => by
    have ih := le_lt l
    have hb := b.toNat_lt
    have e : 8 * (b :: l).length = 8 * l.length + 8 := by rw [List.length_cons]; omega
    rw [e, Nat.pow_add]
    show b.toNat + 256 * le l < _
    omega
theorem le_inj : ∀ {a b : List UInt8}, a.length = b.length → le a = le b → a = b
  | [], [], _, _ => rfl
  | x :: a, y :: b, hl, h => by
    have hx := x.toNat_lt
    have hy := y.toNat_lt
    have h' : x.toNat + 256 * le a = y.toNat + 256 * le b := h
    have h1 : x = y := UInt8.toNat_inj.1 (by omega)
    have h2 := le_inj (a := a) (b := b) (by simpa using hl) (by omega)
    rw [h1, h2]
theorem low_next (b k : Nat) (h : b / 2 ^ k % 2 = 1) : b % 2 ^ (k + 1) = b % 2 ^ k ^^^ 2 ^ k := by
  have hm := Nat.mod_pow_succ (x := b) (b := 2) (k := k)
  rw [hm, h, add_xor k (Nat.mod_lt _ (Nat.pow_pos (by decide)))]
  rw [Nat.mul_one]
theorem low_same (b k : Nat) (h : b / 2 ^ k % 2 = 0) : b % 2 ^ (k + 1) = b % 2 ^ k := by
  have hm := Nat.mod_pow_succ (x := b) (b := 2) (k := k)
  rw [hm, h, Nat.mul_zero, Nat.add_zero]
theorem low_pos (b k : Nat) (h : b / 2 ^ k % 2 = 1) : b % 2 ^ (k + 1) ≠ 0 := by
  have hm := Nat.mod_pow_succ (x := b) (b := 2) (k := k)
  have hp : 0 < 2 ^ k := Nat.pow_pos (by decide)
  rw [hm, h, Nat.mul_one]
  omega
/-- l with the lowest k of the bits put on it, from one on. -/
def Turn (l l' : List UInt8) (first w : Nat) : Prop := l'.length = l.length ∧ le l' = le l ^^^ 2 ^ first * w
theorem Turn.start (l : List UInt8) (first b : Nat) : Turn l l first (b % 2 ^ 0) := by
  refine ⟨rfl, ?_⟩
  have : b % 2 ^ 0 = 0 := by rw [Nat.pow_zero]; omega
  rw [this, Nat.mul_zero, Nat.xor_zero]
theorem Turn.on {l l' : List UInt8} {first b k : Nat} (h : Turn l l' first (b % 2 ^ k)) (hb : b / 2 ^ k % 2 = 1) {x c : UInt8} (hx : l'[(first + k) / 8]? = some x) (hc : c.toNat = x.toNat ^^^ 2 ^ ((first + k) % 8)) :
    Turn l (l'.set ((first + k) / 8) c) first (b % 2 ^ (k + 1)) := by
  refine ⟨by rw [List.length_set]; exact h.1, ?_⟩
  rw [le_set l' _ _ _ _ hx hc, h.2, low_next b k hb, mul_xor, Nat.xor_assoc, ← Nat.pow_add, ← Nat.pow_add]
  congr 3
  omega
theorem Turn.off {l l' : List UInt8} {first b k : Nat} (h : Turn l l' first (b % 2 ^ k)) (hb : b / 2 ^ k % 2 = 0) : Turn l l' first (b % 2 ^ (k + 1)) := by
  rw [low_same b k hb]; exact h
theorem Turn.zero {l l' : List UInt8} {first : Nat} (h : Turn l l' first 0) : l' = l := by
  apply le_inj h.1
  rw [h.2, Nat.mul_zero, Nat.xor_zero]
/-- Of bytes that were closed by their sum, nothing that was turned leaves what they leave. -/
theorem Turn.apart {l l' : List UInt8} {first w : Nat} (h : Turn l l' first w) (hw : w < 4294967296) (hw0 : w ≠ 0) (hf : first ≤ 8 * l.length) (r : Nat) : reg r l' ≠ reg r l := by
  refine reg_apart h.1 hw hw0 (by rw [h.1]; exact hf) ?_
  rw [h.2, Nat.xor_comm (le l), Nat.xor_assoc, Nat.xor_self, Nat.xor_zero]
end CrcPlain
end Go.Proofs.YtcpaaenjfljocaaGreat
/- The contract of the document's own turning of bits: by a walk of its text. -/
namespace Go.Proofs.YtcpaaenjfljocaaGreat
open Go.RowKit CrcPlain
set_option linter.unusedVariables false
set_option linter.unusedSimpArgs false
/-- Block B holds the bytes l, and may be written. -/
def Row (B : Nat) (l : List UInt8) (w : World) : Prop := B < w.heap.size ∧ ∀ j x, l[j]? = some x → w.cell? ⟨B, j, none⟩ = some (.int .u8 (x.toNat : Int)) ∧ w.frozen? ⟨B, j, none⟩ = false
theorem row_start (w : World) (s : ByteArray) : Row w.heap.size s.data.toList (Lib.bytesWorld w 5 s) ∧ Gr w (Lib.bytesWorld w 5 s) := by
  refine ⟨⟨by rw [Lib.bytesWorld_size]; omega, ?_⟩, ⟨rfl, rfl, rfl, by rw [Lib.bytesWorld_size]; omega, fun k hk => Lib.bytesWorld_at_old w _ s k hk⟩⟩
  intro j x hx
  have hj : j < s.size := by
    have := (List.getElem?_eq_some_iff.1 hx).1
    simpa using this
  refine ⟨?_, ?_⟩
  · rw [Lib.bytesWorld_cell w _ s j hj]
    rw [List.getD_eq_getElem?_getD, hx]
    rfl
  · unfold World.frozen?
    rw [Lib.bytesWorld_at_new]
    have hz : s.size ≤ (Lib.bytesCells w 5 s).size := by
      unfold Lib.bytesCells
      simp
    simp
    omega
theorem bit_is (b k : Nat) (hb : b < 4294967296) (h : b / 2 ^ k % 2 = 1) : bits .and .u32 ((b : Int) / 2 ^ k) 1 = 1 := by
  have hd : b / 2 ^ k < 4294967296 := Nat.lt_of_le_of_lt (Nat.div_le_self _ _) hb
  have e := u32_and_nat (b / 2 ^ k) 1 hd (by decide)
  rw [Nat.and_two_pow_sub_one_eq_mod _ 1, Nat.pow_one, h, Int.natCast_ediv, Int.natCast_pow] at e
  exact e
theorem bit_not (b k : Nat) (hb : b < 4294967296) (h : b / 2 ^ k % 2 = 0) : bits .and .u32 ((b : Int) / 2 ^ k) 1 = 0 := by
  have hd : b / 2 ^ k < 4294967296 := Nat.lt_of_le_of_lt (Nat.div_le_self _ _) hb
  have e := u32_and_nat (b / 2 ^ k) 1 hd (by decide)
  rw [Nat.and_two_pow_sub_one_eq_mod _ 1, Nat.pow_one, h, Int.natCast_ediv, Int.natCast_pow] at e
  exact e
theorem idx_at {s : ByteArray} {B cap i : Nat} (h : i < s.size) (W : World) : (Instr.indexAt 88 (.slice (some ⟨B, 0, none⟩) s.size cap) (.int .i64 (i : Int))).run Tryz.prog W = .ok (.pointer (some ⟨B, i, none⟩)) W := by
  have ea : Addr.add ⟨B, 0, none⟩ i = ⟨B, i, none⟩ := by by_cases h : i = 0 <;> simp [Addr.add, h]
  rw [run_indexAt_slice (h := by kernel_rfl), if_pos (by omega)]
  have hz : Tryz.prog.elem 88 = 5 := by kernel_rfl
  simp [hz, ea]
theorem shl_at {j : Nat} (hj : j < 8) : IntKind.u8.wrap ((2 : Int) ^ j) = ((2 ^ j : Nat) : Int) := by
  have : j = 0 ∨ j = 1 ∨ j = 2 ∨ j = 3 ∨ j = 4 ∨ j = 5 ∨ j = 6 ∨ j = 7 := by omega
  rcases this with rfl | rfl | rfl | rfl | rfl | rfl | rfl | rfl <;> rfl
theorem row_set {B : Nat} {l : List UInt8} {w : World} {i : Nat} {x : UInt8} {y : Nat} (h : Row B l w) (hx : l[i]? = some x) (hy : y < 256) :
    Row B (l.set i (UInt8.ofNat y)) (w.setCell ⟨B, i, none⟩ (.int .u8 (y : Int))).drew := by
  refine ⟨by simpa using h.1, ?_⟩
  intro j z hz
  by_cases hij : i = j
  · subst hij
    have hl := (List.getElem?_eq_some_iff.1 hx).1
    rw [List.getElem?_set_self hl] at hz
    have hz' : z = UInt8.ofNat y := by simpa using hz.symm
    subst hz'
    refine ⟨?_, by simpa using (h.2 i x hx).2⟩
    rw [World.cell?_drew, World.cell?_setCell_same' _ _ _ (by rw [(h.2 i x hx).1]; rfl), UInt8.toNat_ofNat']
    congr 3
    omega
  · rw [List.getElem?_set_ne hij] at hz
    refine ⟨?_, by simpa using (h.2 j z hz).2⟩
    rw [World.cell?_drew, World.cell?_setCell_other _ _ _ _ (by intro e; apply hij; injection e)]
    exact (h.2 j z hz).1
theorem conv_row {B : Nat} {l : List UInt8} {w : World} (h : Row B l w) (n cap : Nat) (hn : l.length = n) :
    (convert 88 9 (.slice (some ⟨B, 0, none⟩) n cap)).run Tryz.prog w = .ok (.string (bs l)) w := by
  subst hn
  refine run_convert_bytes_back (P := Tryz.prog) w 88 9 5 ⟨B, 0, none⟩ cap l Tryz.underlying88 Tryz.underlying5 Tryz.underlying9 (fun j hj => ?_)
  have ea : Addr.add ⟨B, 0, none⟩ j = ⟨B, j, none⟩ := by by_cases h : j = 0 <;> simp [Addr.add, h]
  rw [ea]
  exact (h.2 j l[j] (List.getElem?_eq_getElem hj)).1
/-- What comes of it: bytes on which some of the bits were put, and whether any was. -/
def TurnedAs (s : ByteArray) (first : Nat) (w : World) (e : Ending) (w' : World) : Prop :=
  ∃ (l : List UInt8) (v : Nat) (c : Bool), v < 4294967296 ∧ Turn s.data.toList l first v ∧ c = decide (v ≠ 0) ∧ e = .returned (.tuple #[.string (bs l), .bool c]) ∧ Gr w w'
/-- .. of no more bits than were asked for. -/
def TurnedIn (s : ByteArray) (first b : Nat) (w : World) (e : Ending) (w' : World) : Prop :=
  ∃ (l : List UInt8) (v : Nat) (c : Bool), v ≤ b ∧ v < 4294967296 ∧ Turn s.data.toList l first v ∧ c = decide (v ≠ 0) ∧ e = .returned (.tuple #[.string (bs l), .bool c]) ∧ Gr w w'
def TurnAt (s : ByteArray) (first b B : Nat) (w0 : World) (some_ k : Value) (wr : World) : Prop :=
  ∃ (n : Nat) (l : List UInt8) (c : Bool), n ≤ 32 ∧ k = .int .i64 n ∧ some_ = .bool c ∧ c = decide (b % 2 ^ n ≠ 0) ∧ Turn s.data.toList l first (b % 2 ^ n) ∧ Row B l wr ∧ Below B w0 wr
end Go.Proofs.YtcpaaenjfljocaaGreat
/- Plain facts: what is closed is opened again; with bits turned nothing is opened. -/
namespace Go.Proofs.YtcpaaenjfljocaaGreat
open Go.RowKit CrcPlain
set_option linter.unusedVariables false
set_option linter.unusedSimpArgs false
theorem opB_reg {x : ByteArray} (h : opB x = true) : reg 4294967295 x.data.toList = sts 32 4294967295 := by
  have h4 : 4 ≤ x.size := by unfold opB at h; rw [decide_eq_true_iff] at h; exact h.1
  have hc := (cl_is x h4).2 h
  have e : x.data.toList = (ahead x).data.toList ++ tl (more 0 (ahead x).data.toList) := by
    have := congrArg (fun s => s.data.toList) hc
    rw [← this]
    simp [cl, bs, ByteArray.data_append]
  rw [e]
  exact reg_closed _
theorem ahead_cl (s : ByteArray) : ahead (cl s) = s := by
  unfold ahead
  rw [cl_size]
  unfold cl
  apply ByteArray.ext
  apply Array.toList_inj.1
  have : s.size + 4 - 4 = s.size := by omega
  rw [this]
  simp [ByteArray.data_append]
  exact List.take_of_length_le (by simp)
theorem op_cl (s : ByteArray) : opB (cl s) = true ∧ opS (cl s) = s := by
  have h : opB (cl s) = true := (cl_is (cl s) (by rw [cl_size]; omega)).1 (by rw [ahead_cl])
  exact ⟨h, by rw [opS_yes h, ahead_cl]⟩
theorem op_turned {s : ByteArray} {l : List UInt8} {first v : Nat} (h : Turn (cl s).data.toList l first v) (hf : first < 8 * (cl s).size) (hv : v < 4294967296) (h0 : v ≠ 0) : opB (bs l) = false := by
  cases hb : opB (bs l)
  · rfl
  · exfalso
    have h1 := opB_reg hb
    have h2 := opB_reg (op_cl s).1
    have hl : (cl s).data.toList.length = (cl s).size := by simp
    exact h.apart hv h0 (by rw [hl]; omega) 4294967295 (h1.trans h2.symm)
theorem op_same {s : ByteArray} {l : List UInt8} {first v : Nat} (h : Turn (cl s).data.toList l first v) (h0 : v = 0) : bs l = cl s := by
  subst h0
  rw [h.zero, bs_toList]
end Go.Proofs.YtcpaaenjfljocaaGreat
