/- In one text: OctBits, OctGet, OctGets. -/
import Derived.Test.YtignfbdgpgidpaaGreatDoorK10
import Derived.Laws.Bits64
import Derived.IntWalk
import Derived.Test.YtignfbdgpgidpaaGreatDoorK14
import Derived.Lib.Hide
import Derived.Laws.CopyRow
import Derived.Lib.BufferWrite
import Derived.Deep.RegionLaw
/- Plain facts: a byte laid behind a number whose lowest byte is none is added; numbers that wrap round. -/
namespace Go.Proofs.YtignfbdgpgidpaaGreatDoor
open Go.RowKit OctPlain
set_option linter.unusedVariables false
theorem or_step (N y : Nat) (hN : N < 72057594037927936) (hy : y < 256) :
    bits .or .i64 (wrap64 (wrap64 (N : Int) * 256)) (wrap64 (y : Int)) = wrap64 ((N * 256 + y : Nat) : Int) := by
  have h1 : (BitVec.ofInt 64 (wrap64 (wrap64 (N : Int) * 256))).toNat = 2 ^ 8 * N := by
    rw [BitVec.toNat_ofInt]; unfold wrap64; omega
  have h2 : (BitVec.ofInt 64 (wrap64 (y : Int))).toNat = y := by
    rw [BitVec.toNat_ofInt]; unfold wrap64; omega
  show IntKind.i64.wrap ((BitVec.ofInt 64 (wrap64 (wrap64 (N : Int) * 256)) ||| BitVec.ofInt 64 (wrap64 (y : Int))).toNat : Int) = _
  rw [BitVec.toNat_or, h1, h2, ← Nat.two_pow_add_eq_or_of_lt hy]
  have e : 2 ^ 8 * N + y = N * 256 + y := by omega
  rw [e]
  simp only [IntKind.wrap_i64, wrap64]
theorem or_first (y : Nat) (hy : y < 256) : bits .or .i64 0 (wrap64 (y : Int)) = wrap64 (y : Int) := by
  have h := or_step 0 y (by omega) hy
  have e : wrap64 (wrap64 ((0 : Nat) : Int) * 256) = 0 := by simp [wrap64]
  rw [e] at h
  simpa using h
theorem chain8 {y0 y1 y2 y3 y4 y5 y6 y7 : UInt8} {v1 v2 v3 v4 v5 v6 v7 v8 : Int}
    (o1 : bits .or .i64 0 (wrap64 (y0.toNat : Int)) = v1)
    (o2 : bits .or .i64 (wrap64 (v1 * 256)) (wrap64 (y1.toNat : Int)) = v2)
    (o3 : bits .or .i64 (wrap64 (v2 * 256)) (wrap64 (y2.toNat : Int)) = v3)
    (o4 : bits .or .i64 (wrap64 (v3 * 256)) (wrap64 (y3.toNat : Int)) = v4)
    (o5 : bits .or .i64 (wrap64 (v4 * 256)) (wrap64 (y4.toNat : Int)) = v5)
    (o6 : bits .or .i64 (wrap64 (v5 * 256)) (wrap64 (y5.toNat : Int)) = v6)
    (o7 : bits .or .i64 (wrap64 (v6 * 256)) (wrap64 (y6.toNat : Int)) = v7)
    (o8 : bits .or .i64 (wrap64 (v7 * 256)) (wrap64 (y7.toNat : Int)) = v8) :
    v8 = wrap64 (num [y0, y1, y2, y3, y4, y5, y6, y7] : Int) := by
  have b0 := y0.toNat_lt; have b1 := y1.toNat_lt; have b2 := y2.toNat_lt; have b3 := y3.toNat_lt
  have b4 := y4.toNat_lt; have b5 := y5.toNat_lt; have b6 := y6.toNat_lt; have b7 := y7.toNat_lt
  rw [or_first _ (by omega)] at o1; subst o1
  rw [or_step _ _ (by omega) (by omega)] at o2; subst o2
  rw [or_step _ _ (by omega) (by omega)] at o3; subst o3
  rw [or_step _ _ (by omega) (by omega)] at o4; subst o4
  rw [or_step _ _ (by omega) (by omega)] at o5; subst o5
  rw [or_step _ _ (by omega) (by omega)] at o6; subst o6
  rw [or_step _ _ (by omega) (by omega)] at o7; subst o7
  rw [or_step _ _ (by omega) (by omega)] at o8; subst o8
  simp only [num, List.foldl, Nat.zero_mul, Nat.zero_add]
theorem num_zeros (l : List UInt8) : ∀ k, num (List.replicate k 0 ++ l) = num l := by
  intro k
  induction k with
  | zero => simp
  | succ k ih => rw [List.replicate_succ, List.cons_append, num_cons, ih]; simp
theorem pad8 (xs : List UInt8) (k : Nat) (hk : k ≤ 8) (hl : xs.length = k) :
    ∃ y0 y1 y2 y3 y4 y5 y6 y7 : UInt8, List.replicate (8 - k) 0 ++ xs = [y0, y1, y2, y3, y4, y5, y6, y7] ∧ num [y0, y1, y2, y3, y4, y5, y6, y7] = num xs := by
  have h8 : (List.replicate (8 - k) (0 : UInt8) ++ xs).length = 8 := by simp; omega
  have hn := num_zeros xs (8 - k)
  match h : List.replicate (8 - k) (0 : UInt8) ++ xs, h8 with
  | [a, b, c, d, e, f, g, i], _ => exact ⟨a, b, c, d, e, f, g, i, rfl, by rw [← h]; exact hn⟩
end Go.Proofs.YtignfbdgpgidpaaGreatDoor
/- Contracts of Get and GetCoord, and of the document's answers to them. -/
namespace Go.Proofs.YtignfbdgpgidpaaGreatDoor
open Go.RowKit OctPlain
set_option linter.unusedVariables false
set_option linter.unusedSimpArgs false
set_option maxRecDepth 20000
theorem copy_cut {P : Program} (w : World) (dT sT ty elem : TypeId) (g o dLen dCap : Nat) (s : ByteArray) (xs : List UInt8) (cur : Array Value) (t : TypeId)
    (hu : P.underlying dT = some (.slice elem)) (hs : (P.info? elem).map (·.size) = some 1) (hg : w.heap[g]? = some (.cells cur t (0, 0))) (hx : s.data.toList.take dLen = xs) (hl : xs.length = dLen) (hfit : o + dLen ≤ cur.size) :
    (Builtin.copy_ #[dT, sT] ty #[.slice (some ⟨g, o, none⟩) dLen dCap, .string s]).run P w =
      .ok (goInt dLen) (w.setRow g (cur.toList.take o ++ Lib.byteCells xs ++ cur.toList.drop (o + dLen)).toArray) := by
  have hsz : dLen ≤ s.size := by
    have h1 := congrArg List.length hx
    rw [List.length_take, hl, Array.length_toList] at h1
    show dLen ≤ s.data.size
    omega
  have hlen : (Lib.byteCells xs).length = dLen := by rw [Lib.byteCells_length, hl]
  have hst := run_storeCells_at P g o t (Lib.byteCells xs) 0 cur w hg (by rw [hlen]; simpa using hfit) (Lib.byteCells_one _)
  have hmin : Nat.min s.size dLen = dLen := Nat.min_eq_right hsz
  have htk : List.take dLen (List.map (fun b : UInt8 => Value.int IntKind.u8 (b.toNat : Int)) s.data.toList) = Lib.byteCells xs := by
    rw [← List.map_take, hx]
    rfl
  rw [hlen] at hst
  simp only [Nat.add_zero] at hst
  cases hq : P.info? elem with
  | none => simp [hq] at hs
  | some i =>
    simp [Builtin.copy_, run_underlying hu, Builtin.lenOf, Builtin.firstCells, sizeOf, typeInfo, hq, hmin]
    rw [htk, hst]
    simp [Result.andThen]
theorem setRow_alloc (w : World) (cur Y : Array Value) (t : TypeId) : (w.alloc (.cells cur t)).setRow w.heap.size Y = w.alloc (.cells Y t) := by
  cases w with
  | mk heap tape drawn os output =>
    unfold World.setRow World.alloc
    congr 1
    apply Array.ext
    · simp
    · intro k h1 h2
      simp only [Array.getElem_modify, Array.getElem_push]
      simp at h1
      by_cases hk : k < heap.size
      · have : ¬ heap.size = k := by omega
        simp [hk, this]
      · have : heap.size = k := by omega
        simp [this]
theorem copy8 (w : World) (s : ByteArray) (p k : Nat) (hk : 1 ≤ k ∧ k ≤ 8) (hp : p + k ≤ s.size) (xs : List UInt8) (hx : cutL s p k = xs) :
    (Builtin.copy_ #[94, 9] 3 #[.slice (some ⟨w.heap.size, 8 - k, none⟩) k k, .string (s.extract p s.size)]).run Tryz.prog (w.alloc (.cells #[Value.int IntKind.u8 0, Value.int IntKind.u8 0, Value.int IntKind.u8 0, Value.int IntKind.u8 0,
          Value.int IntKind.u8 0, Value.int IntKind.u8 0, Value.int IntKind.u8 0, Value.int IntKind.u8 0] 202)) =
      .ok (goInt k) (w.alloc (.cells (List.replicate (8 - k) (Value.int IntKind.u8 0) ++ Lib.byteCells xs).toArray 202)) := by
  have hl : xs.length = k := by rw [← hx]; exact cutL_length _ _ _ hp
  have hg : (w.alloc (.cells #[Value.int IntKind.u8 0, Value.int IntKind.u8 0, Value.int IntKind.u8 0, Value.int IntKind.u8 0,
          Value.int IntKind.u8 0, Value.int IntKind.u8 0, Value.int IntKind.u8 0, Value.int IntKind.u8 0] 202)).heap[w.heap.size]? = some (.cells #[Value.int IntKind.u8 0, Value.int IntKind.u8 0, Value.int IntKind.u8 0, Value.int IntKind.u8 0,
          Value.int IntKind.u8 0, Value.int IntKind.u8 0, Value.int IntKind.u8 0, Value.int IntKind.u8 0] 202 (0, 0)) := heap_alloc_new w _
  rw [copy_cut (P := Tryz.prog) _ 94 9 3 5 w.heap.size (8 - k) k k (s.extract p s.size) xs _ 202 Tryz.underlying94 (by kernel_rfl) hg ?_ hl (by simp; omega)]
  · rw [setRow_alloc]
    congr 4
    have hk8 : k = 1 ∨ k = 2 ∨ k = 3 ∨ k = 4 ∨ k = 5 ∨ k = 6 ∨ k = 7 ∨ k = 8 := by omega
    rcases hk8 with rfl | rfl | rfl | rfl | rfl | rfl | rfl | rfl <;> simp
  · rw [Lib.extract_data, ← hx]
    unfold cutL
    rw [List.take_take]
    congr 1
    omega
theorem copy8d (w : World) (s : ByteArray) (p k : Nat) (hk : 1 ≤ k ∧ k ≤ 8) (hp : p + k ≤ s.size) (xs : List UInt8) (hx : cutL s p k = xs) :
    (Builtin.copy_ #[94, 9] 3 #[.slice (some ⟨w.heap.size, 8 - k, none⟩) k k, .string (s.extract p s.size)]).run Tryz.prog ((w.alloc (.cells #[Value.int IntKind.u8 0, Value.int IntKind.u8 0, Value.int IntKind.u8 0, Value.int IntKind.u8 0,
          Value.int IntKind.u8 0, Value.int IntKind.u8 0, Value.int IntKind.u8 0, Value.int IntKind.u8 0] 202)).drew) =
      .ok (goInt k) (w.alloc (.cells (List.replicate (8 - k) (Value.int IntKind.u8 0) ++ Lib.byteCells xs).toArray 202)).drew := copy8 w.drew s p k hk hp xs hx
theorem ret_ib {a b : Int} {p q : Bool} (h : a = b) (k : p = q) : Ending.returned (.tuple #[.int .i64 a, .bool p]) = .returned (.tuple #[.int .i64 b, .bool q]) := by rw [h, k]
theorem idx0 (y0 y1 y2 y3 y4 y5 y6 y7 : UInt8) (w : World) : (Instr.index 202 (.agg #[.int .u8 (y0.toNat : Int), .int .u8 (y1.toNat : Int), .int .u8 (y2.toNat : Int), .int .u8 (y3.toNat : Int), .int .u8 (y4.toNat : Int), .int .u8 (y5.toNat : Int), .int .u8 (y6.toNat : Int), .int .u8 (y7.toNat : Int)]) (.int .i64 0)).run Tryz.prog w = .ok (.int .u8 (y0.toNat : Int)) w := by kernel_rfl
theorem idx1 (y0 y1 y2 y3 y4 y5 y6 y7 : UInt8) (w : World) : (Instr.index 202 (.agg #[.int .u8 (y0.toNat : Int), .int .u8 (y1.toNat : Int), .int .u8 (y2.toNat : Int), .int .u8 (y3.toNat : Int), .int .u8 (y4.toNat : Int), .int .u8 (y5.toNat : Int), .int .u8 (y6.toNat : Int), .int .u8 (y7.toNat : Int)]) (.int .i64 1)).run Tryz.prog w = .ok (.int .u8 (y1.toNat : Int)) w := by kernel_rfl
theorem idx2 (y0 y1 y2 y3 y4 y5 y6 y7 : UInt8) (w : World) : (Instr.index 202 (.agg #[.int .u8 (y0.toNat : Int), .int .u8 (y1.toNat : Int), .int .u8 (y2.toNat : Int), .int .u8 (y3.toNat : Int), .int .u8 (y4.toNat : Int), .int .u8 (y5.toNat : Int), .int .u8 (y6.toNat : Int), .int .u8 (y7.toNat : Int)]) (.int .i64 2)).run Tryz.prog w = .ok (.int .u8 (y2.toNat : Int)) w := by kernel_rfl
theorem idx3 (y0 y1 y2 y3 y4 y5 y6 y7 : UInt8) (w : World) : (Instr.index 202 (.agg #[.int .u8 (y0.toNat : Int), .int .u8 (y1.toNat : Int), .int .u8 (y2.toNat : Int), .int .u8 (y3.toNat : Int), .int .u8 (y4.toNat : Int), .int .u8 (y5.toNat : Int), .int .u8 (y6.toNat : Int), .int .u8 (y7.toNat : Int)]) (.int .i64 3)).run Tryz.prog w = .ok (.int .u8 (y3.toNat : Int)) w := by kernel_rfl
theorem idx4 (y0 y1 y2 y3 y4 y5 y6 y7 : UInt8) (w : World) : (Instr.index 202 (.agg #[.int .u8 (y0.toNat : Int), .int .u8 (y1.toNat : Int), .int .u8 (y2.toNat : Int), .int .u8 (y3.toNat : Int), .int .u8 (y4.toNat : Int), .int .u8 (y5.toNat : Int), .int .u8 (y6.toNat : Int), .int .u8 (y7.toNat : Int)]) (.int .i64 4)).run Tryz.prog w = .ok (.int .u8 (y4.toNat : Int)) w := by kernel_rfl
theorem idx5 (y0 y1 y2 y3 y4 y5 y6 y7 : UInt8) (w : World) : (Instr.index 202 (.agg #[.int .u8 (y0.toNat : Int), .int .u8 (y1.toNat : Int), .int .u8 (y2.toNat : Int), .int .u8 (y3.toNat : Int), .int .u8 (y4.toNat : Int), .int .u8 (y5.toNat : Int), .int .u8 (y6.toNat : Int), .int .u8 (y7.toNat : Int)]) (.int .i64 5)).run Tryz.prog w = .ok (.int .u8 (y5.toNat : Int)) w := by kernel_rfl
theorem idx6 (y0 y1 y2 y3 y4 y5 y6 y7 : UInt8) (w : World) : (Instr.index 202 (.agg #[.int .u8 (y0.toNat : Int), .int .u8 (y1.toNat : Int), .int .u8 (y2.toNat : Int), .int .u8 (y3.toNat : Int), .int .u8 (y4.toNat : Int), .int .u8 (y5.toNat : Int), .int .u8 (y6.toNat : Int), .int .u8 (y7.toNat : Int)]) (.int .i64 6)).run Tryz.prog w = .ok (.int .u8 (y6.toNat : Int)) w := by kernel_rfl
theorem idx7 (y0 y1 y2 y3 y4 y5 y6 y7 : UInt8) (w : World) : (Instr.index 202 (.agg #[.int .u8 (y0.toNat : Int), .int .u8 (y1.toNat : Int), .int .u8 (y2.toNat : Int), .int .u8 (y3.toNat : Int), .int .u8 (y4.toNat : Int), .int .u8 (y5.toNat : Int), .int .u8 (y6.toNat : Int), .int .u8 (y7.toNat : Int)]) (.int .i64 7)).run Tryz.prog w = .ok (.int .u8 (y7.toNat : Int)) w := by kernel_rfl
theorem copy8y (w : World) (s : ByteArray) (p k : Nat) (hk : 1 ≤ k ∧ k ≤ 8) (hp : p + k ≤ s.size) {y0 y1 y2 y3 y4 y5 y6 y7 : UInt8} (hy : List.replicate (8 - k) 0 ++ cutL s p k = [y0, y1, y2, y3, y4, y5, y6, y7]) :
    (Builtin.copy_ #[94, 9] 3 #[.slice (some ⟨w.heap.size, 8 - k, none⟩) k k, .string (s.extract p s.size)]).run Tryz.prog ((w.alloc (.cells #[Value.int IntKind.u8 0, Value.int IntKind.u8 0, Value.int IntKind.u8 0, Value.int IntKind.u8 0,
          Value.int IntKind.u8 0, Value.int IntKind.u8 0, Value.int IntKind.u8 0, Value.int IntKind.u8 0] 202)).drew) =
      .ok (.int .i64 k) (w.alloc (.cells #[.int .u8 (y0.toNat : Int), .int .u8 (y1.toNat : Int), .int .u8 (y2.toNat : Int), .int .u8 (y3.toNat : Int), .int .u8 (y4.toNat : Int), .int .u8 (y5.toNat : Int), .int .u8 (y6.toNat : Int), .int .u8 (y7.toNat : Int)] 202)).drew := by
  rw [copy8d w s p k hk hp _ rfl]
  have e : (List.replicate (8 - k) (Value.int IntKind.u8 0) ++ Lib.byteCells (cutL s p k)).toArray = #[.int .u8 (y0.toNat : Int), .int .u8 (y1.toNat : Int), .int .u8 (y2.toNat : Int), .int .u8 (y3.toNat : Int), .int .u8 (y4.toNat : Int), .int .u8 (y5.toNat : Int), .int .u8 (y6.toNat : Int), .int .u8 (y7.toNat : Int)] := by
    have h := congrArg Lib.byteCells hy
    unfold Lib.byteCells at h ⊢
    rw [List.map_append, List.map_replicate] at h
    have h0 : ((0 : UInt8).toNat : Int) = 0 := rfl
    rw [h0] at h
    rw [h]
    rfl
  rw [e]
  rfl
set_option maxRecDepth 20000 in
set_option maxHeartbeats 4000000 in
theorem get_yes (s : ByteArray) (p k : Nat) (ha : I64 p) (hk8 : 1 ≤ k ∧ k ≤ 8) (hp : p + k ≤ s.size) (w : World) (hs : s.size ≤ 100000) :
    Calls Tryz.prog 155 #[.string s, .int .i64 p, .int .i64 k] w fun e w' => e = .returned (.tuple #[.int .i64 (getN s p k), .bool (getB s p k)]) ∧ Gr w w' := by
  obtain ⟨y0, y1, y2, y3, y4, y5, y6, y7, hy, hnum⟩ := pad8 (cutL s p k) k hk8.2 (cutL_length s p k hp)
  have hcp := copy8y w s p k hk8 hp hy
  have i0 := idx0 y0 y1 y2 y3 y4 y5 y6 y7
  have i1 := idx1 y0 y1 y2 y3 y4 y5 y6 y7
  have i2 := idx2 y0 y1 y2 y3 y4 y5 y6 y7
  have i3 := idx3 y0 y1 y2 y3 y4 y5 y6 y7
  have i4 := idx4 y0 y1 y2 y3 y4 y5 y6 y7
  have i5 := idx5 y0 y1 y2 y3 y4 y5 y6 y7
  have i6 := idx6 y0 y1 y2 y3 y4 y5 y6 y7
  have i7 := idx7 y0 y1 y2 y3 y4 y5 y6 y7
  obtain ⟨v1, o1⟩ : ∃ v, bits .or .i64 0 (wrap64 (y0.toNat : Int)) = v := ⟨_, rfl⟩
  obtain ⟨v2, o2⟩ : ∃ v, bits .or .i64 (wrap64 (v1 * 256)) (wrap64 (y1.toNat : Int)) = v := ⟨_, rfl⟩
  obtain ⟨v3, o3⟩ : ∃ v, bits .or .i64 (wrap64 (v2 * 256)) (wrap64 (y2.toNat : Int)) = v := ⟨_, rfl⟩
  obtain ⟨v4, o4⟩ : ∃ v, bits .or .i64 (wrap64 (v3 * 256)) (wrap64 (y3.toNat : Int)) = v := ⟨_, rfl⟩
  obtain ⟨v5, o5⟩ : ∃ v, bits .or .i64 (wrap64 (v4 * 256)) (wrap64 (y4.toNat : Int)) = v := ⟨_, rfl⟩
  obtain ⟨v6, o6⟩ : ∃ v, bits .or .i64 (wrap64 (v5 * 256)) (wrap64 (y5.toNat : Int)) = v := ⟨_, rfl⟩
  obtain ⟨v7, o7⟩ : ∃ v, bits .or .i64 (wrap64 (v6 * 256)) (wrap64 (y6.toNat : Int)) = v := ⟨_, rfl⟩
  obtain ⟨v8, o8⟩ : ∃ v, bits .or .i64 (wrap64 (v7 * 256)) (wrap64 (y7.toNat : Int)) = v := ⟨_, rfl⟩
  have hv := chain8 o1 o2 o3 o4 o5 o6 o7 o8
  rw [hnum] at hv
  have hlt := num_lt (cutL s p k)
  rw [cutL_length s p k hp] at hlt
  have hlt8 : num (cutL s p k) < 18446744073709551616 := Nat.lt_of_lt_of_le hlt (Nat.pow_le_pow_right (n := 256) (by omega) hk8.2)
  have hgB : getB s p k = decide (0 ≤ v8) := by
    rw [hv]
    unfold getB wrap64
    apply decide_eq_decide.2
    rw [Int.toNat_natCast, Int.toNat_natCast]
    omega
  have hgN : 0 ≤ v8 → getN s p k = v8 := by
    intro h0
    have : getB s p k = true := by rw [hgB]; simpa using h0
    unfold getN
    rw [if_pos this, Int.toNat_natCast, Int.toNat_natCast, hv]
    rw [hv] at h0
    unfold wrap64 at h0 ⊢
    omega
  have hgN0 : v8 < 0 → getN s p k = 0 := by
    intro h0
    have : getB s p k = false := by rw [hgB]; simp; omega
    unfold getN
    rw [this]; rfl
  have hh := Lib.hid (And.intro hgB (And.intro hgN hgN0))
  clear hv hlt hlt8 hgB hgN hgN0 hy hnum
  have hs' : (s.size : Int) ≤ 100000 := by omega
  clear hs
  have hm : k = 1 ∨ k = 2 ∨ k = 3 ∨ k = 4 ∨ k = 5 ∨ k = 6 ∨ k = 7 ∨ k = 8 := by omega
  by_cases hneg : v8 < 0
  · rcases hm with rfl | rfl | rfl | rfl | rfl | rfl | rfl | rfl
    all_goals
      go_enter Tryz.func155, Tryz.ntmps155
      go_wp2_with fail
      refine (sized_c _ (by unfold I64; omega) _).mono ?_
      rintro e u ⟨rfl, rfl⟩
      go_wp2
      go_region
      go_wp2_with fail
      go_rounds 9
      go_ret2
      exact ⟨ret_ib (hh.out.2.2 hneg).symm (by rw [hh.out.1]; simp; omega), Gr.of (by go_grown)⟩
  · rcases hm with rfl | rfl | rfl | rfl | rfl | rfl | rfl | rfl
    all_goals
      go_enter Tryz.func155, Tryz.ntmps155
      go_wp2_with fail
      refine (sized_c _ (by unfold I64; omega) _).mono ?_
      rintro e u ⟨rfl, rfl⟩
      go_wp2
      go_region
      go_wp2_with fail
      go_rounds 9
      go_ret2
      exact ⟨ret_ib (hh.out.2.1 (by omega)).symm (by rw [hh.out.1]; simp; omega), Gr.of (by go_grown)⟩
end Go.Proofs.YtignfbdgpgidpaaGreatDoor
/- Contracts of Get in every case, and of GetCoord on both sides. -/
namespace Go.Proofs.YtignfbdgpgidpaaGreatDoor
open Go.RowKit OctPlain
set_option linter.unusedVariables false
set_option linter.unusedSimpArgs false
set_option maxRecDepth 20000
set_option maxHeartbeats 1000000 in
theorem get_no (s : ByteArray) (a k : Int) (ha : I64 a) (hk : I64 k) (w : World) (hs : s.size ≤ 100000) (h : ¬ ((1 ≤ k ∧ k ≤ 8) ∧ 0 ≤ a ∧ a + k ≤ s.size)) :
    Calls Tryz.prog 155 #[.string s, .int .i64 a, .int .i64 k] w fun e w' => e = .returned (.tuple #[.int .i64 (getN s a k), .bool (getB s a k)]) ∧ w = w' := by
  have hk' := hk
  unfold I64 at ha hk'
  have hb : getB s a k = false := getB_no h
  have hn : getN s a k = 0 := getN_no hb
  by_cases k1 : 1 ≤ k ∧ k ≤ 8
  · have hd : decide (1 ≤ k ∧ k ≤ 8) = true := by simpa using k1
    by_cases k3 : a < 0
    · go_enter Tryz.func155, Tryz.ntmps155
      go_wp2_with fail
      refine (sized_c _ hk _).mono ?_
      rintro e u ⟨rfl, rfl⟩
      go_wp2_with fail
      go_ret2
      first | exact ⟨rfl, rfl⟩ | exact ⟨ret_ib hn.symm hb.symm, rfl⟩
    · have k5 : (s.size : Int) - k < a := by omega
      go_enter Tryz.func155, Tryz.ntmps155
      go_wp2_with fail
      refine (sized_c _ hk _).mono ?_
      rintro e u ⟨rfl, rfl⟩
      go_wp2_with fail
      go_ret2
      first | exact ⟨rfl, rfl⟩ | exact ⟨ret_ib hn.symm hb.symm, rfl⟩
  · have hd : decide (1 ≤ k ∧ k ≤ 8) = false := by simpa using k1
    go_enter Tryz.func155, Tryz.ntmps155
    go_wp2_with fail
    refine (sized_c _ hk _).mono ?_
    rintro e u ⟨rfl, rfl⟩
    go_wp2_with fail
    go_ret2
    first | exact ⟨rfl, rfl⟩ | exact ⟨ret_ib hn.symm hb.symm, rfl⟩
theorem get_c (s : ByteArray) (a k : Int) (ha : I64 a) (hk : I64 k) (w : World) (hs : s.size ≤ 100000) :
    Calls Tryz.prog 155 #[.string s, .int .i64 a, .int .i64 k] w fun e w' => e = .returned (.tuple #[.int .i64 (getN s a k), .bool (getB s a k)]) ∧ Gr w w' := by
  by_cases h : (1 ≤ k ∧ k ≤ 8) ∧ 0 ≤ a ∧ a + k ≤ s.size
  · obtain ⟨p, rfl⟩ : ∃ p : Nat, a = p := ⟨a.toNat, by omega⟩
    obtain ⟨q, rfl⟩ : ∃ q : Nat, k = q := ⟨k.toNat, by omega⟩
    exact get_yes s p q ha (by omega) (by omega) w hs
  · exact (get_no s a k ha hk w hs h).mono (fun e w' hh => ⟨hh.1, hh.2 ▸ Gr.refl _⟩)
end Go.Proofs.YtignfbdgpgidpaaGreatDoor
