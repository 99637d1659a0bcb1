/- In one text: OctGet, OctRget, OctGets, FrameGet, FrameAwake. -/
import Derived.Test.YtpmglnghnelenaaGreatP02
import Derived.Test.YtpmglnghnelenaaGreatP04
import Derived.Lib.Hide
import Derived.Laws.CopyRow
import Derived.Lib.BufferWrite
import Derived.Deep.RegionLaw
import Derived.Test.YtpmglnghnelenaaGreatP03
/- Contracts of Get and GetCoord, and of the document's answers to them. -/
namespace Go.Proofs.YtpmglnghnelenaaGreat
open Go.RowKit OctPlain
set_option linter.unusedVariables false
set_option linter.unusedSimpArgs false
set_option maxRecDepth 20000

/-- A copy from a string that is longer than the room: as much goes over as there is room for. -/
theorem copy_cut {P : Program} (w : World) (dT sT ty elem : TypeId) (g o dLen dCap : Nat) (s : ByteArray) (xs : List UInt8) (cur : Array Value) (t : TypeId)
    (hu : P.underlying dT = some (.slice elem)) (hs : (P.info? elem).map (·.size) = some 1) (hg : w.heap[g]? = some (.cells cur t (0, 0))) (hx : s.data.toList.take dLen = xs) (hl : xs.length = dLen) (hfit : o + dLen ≤ cur.size) :
    (Builtin.copy_ #[dT, sT] ty #[.slice (some ⟨g, o, none⟩) dLen dCap, .string s]).run P w =
      .ok (goInt dLen) (w.setRow g (cur.toList.take o ++ Lib.byteCells xs ++ cur.toList.drop (o + dLen)).toArray) := by
  have hsz : dLen ≤ s.size := by
    have h1 := congrArg List.length hx
    rw [List.length_take, hl, Array.length_toList] at h1
    show dLen ≤ s.data.size
    omega
  have hlen : (Lib.byteCells xs).length = dLen := by rw [Lib.byteCells_length, hl]
  have hst := run_storeCells_at P g o t (Lib.byteCells xs) 0 cur w hg (by rw [hlen]; simpa using hfit) (Lib.byteCells_one _)
  have hmin : Nat.min s.size dLen = dLen := Nat.min_eq_right hsz
  have htk : List.take dLen (List.map (fun b : UInt8 => Value.int IntKind.u8 (b.toNat : Int)) s.data.toList) = Lib.byteCells xs := by
    rw [← List.map_take, hx]
    rfl
  rw [hlen] at hst
  simp only [Nat.add_zero] at hst
  cases hq : P.info? elem with
  | none => simp [hq] at hs
  | some i =>
    simp [Builtin.copy_, run_underlying hu, Builtin.lenOf, Builtin.firstCells, sizeOf, typeInfo, hq, hmin]
    rw [htk, hst]
    simp [Result.andThen]

theorem setRow_alloc (w : World) (cur Y : Array Value) (t : TypeId) : (w.alloc (.cells cur t)).setRow w.heap.size Y = w.alloc (.cells Y t) := by
  cases w with
  | mk heap tape drawn os output =>
    unfold World.setRow World.alloc
    congr 1
    apply Array.ext
    · simp
    · intro k h1 h2
      simp only [Array.getElem_modify, Array.getElem_push]
      simp at h1
      by_cases hk : k < heap.size
      · have : ¬ heap.size = k := by omega
        simp [hk, this]
      · have : heap.size = k := by omega
        simp [this]

theorem copy8 (w : World) (s : ByteArray) (p k : Nat) (hk : 1 ≤ k ∧ k ≤ 8) (hp : p + k ≤ s.size) (xs : List UInt8) (hx : cutL s p k = xs) :
    (Builtin.copy_ #[82, 9] 3 #[.slice (some ⟨w.heap.size, 8 - k, none⟩) k k, .string (s.extract p s.size)]).run Tryz.prog (w.alloc (.cells #[Value.int IntKind.u8 0, Value.int IntKind.u8 0, Value.int IntKind.u8 0, Value.int IntKind.u8 0,
          Value.int IntKind.u8 0, Value.int IntKind.u8 0, Value.int IntKind.u8 0, Value.int IntKind.u8 0] 159)) =
      .ok (goInt k) (w.alloc (.cells (List.replicate (8 - k) (Value.int IntKind.u8 0) ++ Lib.byteCells xs).toArray 159)) := by
  have hl : xs.length = k := by rw [← hx]; exact cutL_length _ _ _ hp
  have hg : (w.alloc (.cells #[Value.int IntKind.u8 0, Value.int IntKind.u8 0, Value.int IntKind.u8 0, Value.int IntKind.u8 0,
          Value.int IntKind.u8 0, Value.int IntKind.u8 0, Value.int IntKind.u8 0, Value.int IntKind.u8 0] 159)).heap[w.heap.size]? = some (.cells #[Value.int IntKind.u8 0, Value.int IntKind.u8 0, Value.int IntKind.u8 0, Value.int IntKind.u8 0,
          Value.int IntKind.u8 0, Value.int IntKind.u8 0, Value.int IntKind.u8 0, Value.int IntKind.u8 0] 159 (0, 0)) := heap_alloc_new w _
  rw [copy_cut (P := Tryz.prog) _ 82 9 3 5 w.heap.size (8 - k) k k (s.extract p s.size) xs _ 159 Tryz.underlying82 (by kernel_rfl) hg ?_ hl (by simp; omega)]
  · rw [setRow_alloc]
    congr 4
    have hk8 : k = 1 ∨ k = 2 ∨ k = 3 ∨ k = 4 ∨ k = 5 ∨ k = 6 ∨ k = 7 ∨ k = 8 := by omega
    rcases hk8 with rfl | rfl | rfl | rfl | rfl | rfl | rfl | rfl <;> simp
  · rw [Lib.extract_data, ← hx]
    unfold cutL
    rw [List.take_take]
    congr 1
    omega

theorem copy8d (w : World) (s : ByteArray) (p k : Nat) (hk : 1 ≤ k ∧ k ≤ 8) (hp : p + k ≤ s.size) (xs : List UInt8) (hx : cutL s p k = xs) :
    (Builtin.copy_ #[82, 9] 3 #[.slice (some ⟨w.heap.size, 8 - k, none⟩) k k, .string (s.extract p s.size)]).run Tryz.prog ((w.alloc (.cells #[Value.int IntKind.u8 0, Value.int IntKind.u8 0, Value.int IntKind.u8 0, Value.int IntKind.u8 0,
          Value.int IntKind.u8 0, Value.int IntKind.u8 0, Value.int IntKind.u8 0, Value.int IntKind.u8 0] 159)).drew) =
      .ok (goInt k) (w.alloc (.cells (List.replicate (8 - k) (Value.int IntKind.u8 0) ++ Lib.byteCells xs).toArray 159)).drew := copy8 w.drew s p k hk hp xs hx

theorem ret_ib {a b : Int} {p q : Bool} (h : a = b) (k : p = q) : Ending.returned (.tuple #[.int .i64 a, .bool p]) = .returned (.tuple #[.int .i64 b, .bool q]) := by rw [h, k]
theorem idx0 (y0 y1 y2 y3 y4 y5 y6 y7 : UInt8) (w : World) : (Instr.index 159 (.agg #[.int .u8 (y0.toNat : Int), .int .u8 (y1.toNat : Int), .int .u8 (y2.toNat : Int), .int .u8 (y3.toNat : Int), .int .u8 (y4.toNat : Int), .int .u8 (y5.toNat : Int), .int .u8 (y6.toNat : Int), .int .u8 (y7.toNat : Int)]) (.int .i64 0)).run Tryz.prog w = .ok (.int .u8 (y0.toNat : Int)) w := by kernel_rfl
theorem idx1 (y0 y1 y2 y3 y4 y5 y6 y7 : UInt8) (w : World) : (Instr.index 159 (.agg #[.int .u8 (y0.toNat : Int), .int .u8 (y1.toNat : Int), .int .u8 (y2.toNat : Int), .int .u8 (y3.toNat : Int), .int .u8 (y4.toNat : Int), .int .u8 (y5.toNat : Int), .int .u8 (y6.toNat : Int), .int .u8 (y7.toNat : Int)]) (.int .i64 1)).run Tryz.prog w = .ok (.int .u8 (y1.toNat : Int)) w := by kernel_rfl
theorem idx2 (y0 y1 y2 y3 y4 y5 y6 y7 : UInt8) (w : World) : (Instr.index 159 (.agg #[.int .u8 (y0.toNat : Int), .int .u8 (y1.toNat : Int), .int .u8 (y2.toNat : Int), .int .u8 (y3.toNat : Int), .int .u8 (y4.toNat : Int), .int .u8 (y5.toNat : Int), .int .u8 (y6.toNat : Int), .int .u8 (y7.toNat : Int)]) (.int .i64 2)).run Tryz.prog w = .ok (.int .u8 (y2.toNat : Int)) w := by kernel_rfl
theorem idx3 (y0 y1 y2 y3 y4 y5 y6 y7 : UInt8) (w : World) : (Instr.index 159 (.agg #[.int .u8 (y0.toNat : Int), .int .u8 (y1.toNat : Int), .int .u8 (y2.toNat : Int), .int .u8 (y3.toNat : Int), .int .u8 (y4.toNat : Int), .int .u8 (y5.toNat : Int), .int .u8 (y6.toNat : Int), .int .u8 (y7.toNat : Int)]) (.int .i64 3)).run Tryz.prog w = .ok (.int .u8 (y3.toNat : Int)) w := by kernel_rfl
theorem idx4 (y0 y1 y2 y3 y4 y5 y6 y7 : UInt8) (w : World) : (Instr.index 159 (.agg #[.int .u8 (y0.toNat : Int), .int .u8 (y1.toNat : Int), .int .u8 (y2.toNat : Int), .int .u8 (y3.toNat : Int), .int .u8 (y4.toNat : Int), .int .u8 (y5.toNat : Int), .int .u8 (y6.toNat : Int), .int .u8 (y7.toNat : Int)]) (.int .i64 4)).run Tryz.prog w = .ok (.int .u8 (y4.toNat : Int)) w := by kernel_rfl
theorem idx5 (y0 y1 y2 y3 y4 y5 y6 y7 : UInt8) (w : World) : (Instr.index 159 (.agg #[.int .u8 (y0.toNat : Int), .int .u8 (y1.toNat : Int), .int .u8 (y2.toNat : Int), .int .u8 (y3.toNat : Int), .int .u8 (y4.toNat : Int), .int .u8 (y5.toNat : Int), .int .u8 (y6.toNat : Int), .int .u8 (y7.toNat : Int)]) (.int .i64 5)).run Tryz.prog w = .ok (.int .u8 (y5.toNat : Int)) w := by kernel_rfl
theorem idx6 (y0 y1 y2 y3 y4 y5 y6 y7 : UInt8) (w : World) : (Instr.index 159 (.agg #[.int .u8 (y0.toNat : Int), .int .u8 (y1.toNat : Int), .int .u8 (y2.toNat : Int), .int .u8 (y3.toNat : Int), .int .u8 (y4.toNat : Int), .int .u8 (y5.toNat : Int), .int .u8 (y6.toNat : Int), .int .u8 (y7.toNat : Int)]) (.int .i64 6)).run Tryz.prog w = .ok (.int .u8 (y6.toNat : Int)) w := by kernel_rfl
theorem idx7 (y0 y1 y2 y3 y4 y5 y6 y7 : UInt8) (w : World) : (Instr.index 159 (.agg #[.int .u8 (y0.toNat : Int), .int .u8 (y1.toNat : Int), .int .u8 (y2.toNat : Int), .int .u8 (y3.toNat : Int), .int .u8 (y4.toNat : Int), .int .u8 (y5.toNat : Int), .int .u8 (y6.toNat : Int), .int .u8 (y7.toNat : Int)]) (.int .i64 7)).run Tryz.prog w = .ok (.int .u8 (y7.toNat : Int)) w := by kernel_rfl
theorem copy8y (w : World) (s : ByteArray) (p k : Nat) (hk : 1 ≤ k ∧ k ≤ 8) (hp : p + k ≤ s.size) {y0 y1 y2 y3 y4 y5 y6 y7 : UInt8} (hy : List.replicate (8 - k) 0 ++ cutL s p k = [y0, y1, y2, y3, y4, y5, y6, y7]) :
    (Builtin.copy_ #[82, 9] 3 #[.slice (some ⟨w.heap.size, 8 - k, none⟩) k k, .string (s.extract p s.size)]).run Tryz.prog ((w.alloc (.cells #[Value.int IntKind.u8 0, Value.int IntKind.u8 0, Value.int IntKind.u8 0, Value.int IntKind.u8 0,
          Value.int IntKind.u8 0, Value.int IntKind.u8 0, Value.int IntKind.u8 0, Value.int IntKind.u8 0] 159)).drew) =
      .ok (.int .i64 k) (w.alloc (.cells #[.int .u8 (y0.toNat : Int), .int .u8 (y1.toNat : Int), .int .u8 (y2.toNat : Int), .int .u8 (y3.toNat : Int), .int .u8 (y4.toNat : Int), .int .u8 (y5.toNat : Int), .int .u8 (y6.toNat : Int), .int .u8 (y7.toNat : Int)] 159)).drew := by
  rw [copy8d w s p k hk hp _ rfl]
  have e : (List.replicate (8 - k) (Value.int IntKind.u8 0) ++ Lib.byteCells (cutL s p k)).toArray = #[.int .u8 (y0.toNat : Int), .int .u8 (y1.toNat : Int), .int .u8 (y2.toNat : Int), .int .u8 (y3.toNat : Int), .int .u8 (y4.toNat : Int), .int .u8 (y5.toNat : Int), .int .u8 (y6.toNat : Int), .int .u8 (y7.toNat : Int)] := by
    have h := congrArg Lib.byteCells hy
    unfold Lib.byteCells at h ⊢
    rw [List.map_append, List.map_replicate] at h
    have h0 : ((0 : UInt8).toNat : Int) = 0 := rfl
    rw [h0] at h
    rw [h]
    rfl
  rw [e]
  rfl

set_option maxRecDepth 20000 in
set_option maxHeartbeats 4000000 in
theorem get_yes (s : ByteArray) (p k : Nat) (ha : I64 p) (hk8 : 1 ≤ k ∧ k ≤ 8) (hp : p + k ≤ s.size) (w : World) (hs : s.size ≤ 100000) :
    Calls Tryz.prog 135 #[.string s, .int .i64 p, .int .i64 k] w fun e w' => e = .returned (.tuple #[.int .i64 (getN s p k), .bool (getB s p k)]) ∧ Gr w w' := by
  obtain ⟨y0, y1, y2, y3, y4, y5, y6, y7, hy, hnum⟩ := pad8 (cutL s p k) k hk8.2 (cutL_length s p k hp)
  have hcp := copy8y w s p k hk8 hp hy
  have i0 := idx0 y0 y1 y2 y3 y4 y5 y6 y7
  have i1 := idx1 y0 y1 y2 y3 y4 y5 y6 y7
  have i2 := idx2 y0 y1 y2 y3 y4 y5 y6 y7
  have i3 := idx3 y0 y1 y2 y3 y4 y5 y6 y7
  have i4 := idx4 y0 y1 y2 y3 y4 y5 y6 y7
  have i5 := idx5 y0 y1 y2 y3 y4 y5 y6 y7
  have i6 := idx6 y0 y1 y2 y3 y4 y5 y6 y7
  have i7 := idx7 y0 y1 y2 y3 y4 y5 y6 y7
  obtain ⟨v1, o1⟩ : ∃ v, bits .or .i64 0 (wrap64 (y0.toNat : Int)) = v := ⟨_, rfl⟩
  obtain ⟨v2, o2⟩ : ∃ v, bits .or .i64 (wrap64 (v1 * 256)) (wrap64 (y1.toNat : Int)) = v := ⟨_, rfl⟩
  obtain ⟨v3, o3⟩ : ∃ v, bits .or .i64 (wrap64 (v2 * 256)) (wrap64 (y2.toNat : Int)) = v := ⟨_, rfl⟩
  obtain ⟨v4, o4⟩ : ∃ v, bits .or .i64 (wrap64 (v3 * 256)) (wrap64 (y3.toNat : Int)) = v := ⟨_, rfl⟩
  obtain ⟨v5, o5⟩ : ∃ v, bits .or .i64 (wrap64 (v4 * 256)) (wrap64 (y4.toNat : Int)) = v := ⟨_, rfl⟩
  obtain ⟨v6, o6⟩ : ∃ v, bits .or .i64 (wrap64 (v5 * 256)) (wrap64 (y5.toNat : Int)) = v := ⟨_, rfl⟩
  obtain ⟨v7, o7⟩ : ∃ v, bits .or .i64 (wrap64 (v6 * 256)) (wrap64 (y6.toNat : Int)) = v := ⟨_, rfl⟩
  obtain ⟨v8, o8⟩ : ∃ v, bits .or .i64 (wrap64 (v7 * 256)) (wrap64 (y7.toNat : Int)) = v := ⟨_, rfl⟩
  have hv := chain8 o1 o2 o3 o4 o5 o6 o7 o8
  rw [hnum] at hv
  have hlt := num_lt (cutL s p k)
  rw [cutL_length s p k hp] at hlt
  have hlt8 : num (cutL s p k) < 18446744073709551616 := Nat.lt_of_lt_of_le hlt (Nat.pow_le_pow_right (n := 256) (by omega) hk8.2)
  have hgB : getB s p k = decide (0 ≤ v8) := by
    rw [hv]
    unfold getB wrap64
    apply decide_eq_decide.2
    rw [Int.toNat_natCast, Int.toNat_natCast]
    omega
  have hgN : 0 ≤ v8 → getN s p k = v8 := by
    intro h0
    have : getB s p k = true := by rw [hgB]; simpa using h0
    unfold getN
    rw [if_pos this, Int.toNat_natCast, Int.toNat_natCast, hv]
    rw [hv] at h0
    unfold wrap64 at h0 ⊢
    omega
  have hgN0 : v8 < 0 → getN s p k = 0 := by
    intro h0
    have : getB s p k = false := by rw [hgB]; simp; omega
    unfold getN
    rw [this]; rfl
  have hh := Lib.hid (And.intro hgB (And.intro hgN hgN0))
  clear hv hlt hlt8 hgB hgN hgN0 hy hnum
  have hs' : (s.size : Int) ≤ 100000 := by omega
  clear hs
  have hm : k = 1 ∨ k = 2 ∨ k = 3 ∨ k = 4 ∨ k = 5 ∨ k = 6 ∨ k = 7 ∨ k = 8 := by omega
  by_cases hneg : v8 < 0
  · rcases hm with rfl | rfl | rfl | rfl | rfl | rfl | rfl | rfl
    all_goals
      go_enter Tryz.func135, Tryz.ntmps135
      go_wp2_with fail
      refine (sized_c _ (by unfold I64; omega) _).mono ?_
      rintro e u ⟨rfl, rfl⟩
      go_wp2
      go_region
      go_wp2_with fail
      go_rounds 9
      go_ret2
      exact ⟨ret_ib (hh.out.2.2 hneg).symm (by rw [hh.out.1]; simp; omega), Gr.of (by go_grown)⟩
  · rcases hm with rfl | rfl | rfl | rfl | rfl | rfl | rfl | rfl
    all_goals
      go_enter Tryz.func135, Tryz.ntmps135
      go_wp2_with fail
      refine (sized_c _ (by unfold I64; omega) _).mono ?_
      rintro e u ⟨rfl, rfl⟩
      go_wp2
      go_region
      go_wp2_with fail
      go_rounds 9
      go_ret2
      exact ⟨ret_ib (hh.out.2.1 (by omega)).symm (by rw [hh.out.1]; simp; omega), Gr.of (by go_grown)⟩
end Go.Proofs.YtpmglnghnelenaaGreat
/- Contracts of the document's Get. -/
namespace Go.Proofs.YtpmglnghnelenaaGreat
open Go.RowKit OctPlain
set_option linter.unusedVariables false
set_option linter.unusedSimpArgs false
set_option maxRecDepth 20000

def GetAt (s : ByteArray) (p k : Nat) (w : World) (n i : Value) (wr : World) : Prop :=
  ∃ j : Nat, wr = w ∧ j ≤ k ∧ i = .int .i64 j ∧ n = .int .i64 (num ((cutL s p k).take j) : Int) ∧ num ((cutL s p k).take j) < 9223372036854775808

theorem ret_ibr {a b : Int} {p q : Bool} (h : a = b) (k : p = q) : Ending.returned (.tuple #[.int .i64 a, .bool p]) = .returned (.tuple #[.int .i64 b, .bool q]) := by rw [h, k]
end Go.Proofs.YtpmglnghnelenaaGreat
/- Contracts of Get in every case, and of GetCoord on both sides. -/
namespace Go.Proofs.YtpmglnghnelenaaGreat
open Go.RowKit OctPlain
set_option linter.unusedVariables false
set_option linter.unusedSimpArgs false
set_option maxRecDepth 20000
set_option maxHeartbeats 1000000 in
theorem get_no (s : ByteArray) (a k : Int) (ha : I64 a) (hk : I64 k) (w : World) (hs : s.size ≤ 100000) (h : ¬ ((1 ≤ k ∧ k ≤ 8) ∧ 0 ≤ a ∧ a + k ≤ s.size)) :
    Calls Tryz.prog 135 #[.string s, .int .i64 a, .int .i64 k] w fun e w' => e = .returned (.tuple #[.int .i64 (getN s a k), .bool (getB s a k)]) ∧ w = w' := by
  have hk' := hk
  unfold I64 at ha hk'
  have hb : getB s a k = false := getB_no h
  have hn : getN s a k = 0 := getN_no hb
  by_cases k1 : 1 ≤ k ∧ k ≤ 8
  · have hd : decide (1 ≤ k ∧ k ≤ 8) = true := by simpa using k1
    by_cases k3 : a < 0
    · go_enter Tryz.func135, Tryz.ntmps135
      go_wp2_with fail
      refine (sized_c _ hk _).mono ?_
      rintro e u ⟨rfl, rfl⟩
      go_wp2_with fail
      go_ret2
      first | exact ⟨rfl, rfl⟩ | exact ⟨ret_ib hn.symm hb.symm, rfl⟩
    · have k5 : (s.size : Int) - k < a := by omega
      go_enter Tryz.func135, Tryz.ntmps135
      go_wp2_with fail
      refine (sized_c _ hk _).mono ?_
      rintro e u ⟨rfl, rfl⟩
      go_wp2_with fail
      go_ret2
      first | exact ⟨rfl, rfl⟩ | exact ⟨ret_ib hn.symm hb.symm, rfl⟩
  · have hd : decide (1 ≤ k ∧ k ≤ 8) = false := by simpa using k1
    go_enter Tryz.func135, Tryz.ntmps135
    go_wp2_with fail
    refine (sized_c _ hk _).mono ?_
    rintro e u ⟨rfl, rfl⟩
    go_wp2_with fail
    go_ret2
    first | exact ⟨rfl, rfl⟩ | exact ⟨ret_ib hn.symm hb.symm, rfl⟩
theorem get_c (s : ByteArray) (a k : Int) (ha : I64 a) (hk : I64 k) (w : World) (hs : s.size ≤ 100000) :
    Calls Tryz.prog 135 #[.string s, .int .i64 a, .int .i64 k] w fun e w' => e = .returned (.tuple #[.int .i64 (getN s a k), .bool (getB s a k)]) ∧ Gr w w' := by
  by_cases h : (1 ≤ k ∧ k ≤ 8) ∧ 0 ≤ a ∧ a + k ≤ s.size
  · obtain ⟨p, rfl⟩ : ∃ p : Nat, a = p := ⟨a.toNat, by omega⟩
    obtain ⟨q, rfl⟩ : ∃ q : Nat, k = q := ⟨k.toNat, by omega⟩
    exact get_yes s p q ha (by omega) (by omega) w hs
  · exact (get_no s a k ha hk w hs h).mono (fun e w' hh => ⟨hh.1, hh.2 ▸ Gr.refl _⟩)

def gcN (s : ByteArray) (a : Int) : Int := if getB s a 4 = true then wrap64 (getN s a 4 - 2147483648) else 0
end Go.Proofs.YtpmglnghnelenaaGreat
/- The contracts of what cuts bytes into records, and of Get. -/
namespace Go.Proofs.YtpmglnghnelenaaGreat
open Go.RowKit CrcPlain OctPlain FramePlain
set_option linter.unusedVariables false
set_option linter.unusedSimpArgs false
set_option maxRecDepth 20000
theorem cutter_c (size : Int) (w : World) :
    Calls Tryz.prog 137 #[.int .i64 size] w fun e w' => e = .returned (.func (.func 152) #[] #[.pointer (some ⟨w.heap.size, 0, none⟩)]) ∧ w' = w.alloc (.cells #[.int .i64 size] 3) := by
  have hmf : ∀ (fn : Fn) (first cap : Array Value) (w : World), (Instr.makeFunc fn first cap).run Tryz.prog w = .ok (.func fn first cap) w := fun _ _ _ _ => rfl
  go_enter Tryz.func137, Tryz.ntmps137
  go_wp2
  go_ret
  exact ⟨rfl, rfl⟩
theorem cut1_c (s : ByteArray) (k : Int) (hk : I64 k) (B : Nat) (w : World) (hs : s.size ≤ 1000) (hp : w.cell? ⟨B, 0, none⟩ = some (.int .i64 k)) :
    Calls Tryz.prog 152 #[.string s, .pointer (some ⟨B, 0, none⟩)] w fun e w' => ∃ v, e = .returned (.tuple #[v, .bool (splB s k)]) ∧ w'.ownsRow w.heap.size 9 1 v (splL s k).length (strs (splL s k)) ∧ Gr w w' := by
  go_enter Tryz.func152, Tryz.ntmps152
  go_wp2_with fail
  refine (split_c s k hk _ hs).mono ?_; rintro e u ⟨v, rfl, o, g⟩
  have O := Lib.hid o
  clear o
  go_wp2_with fail
  go_ret2
  exact ⟨v, rfl, O.out, g⟩

theorem fget_none (s : ByteArray) (size : Int) (hk : I64 size) (w : World) (hs : s.size ≤ 100000) (h : sizeB size = false ∨ ¬ (1 ≤ cntN s ∧ cntN s ≤ 4)) :
    Calls Tryz.prog 114 #[.int .i64 size, .string s] w (FGot size s w) := by
  have hno : gB size s = false := by
    unfold gB
    rcases h with h | h
    · rw [h]; rfl
    · rw [decide_eq_false h, Bool.and_false, Bool.false_and, Bool.false_and]
  have HP := Lib.hid hno
  have G := fun w => get_c s 0 1 (by unfold I64; omega) (by unfold I64; omega) w hs
  rw [getN_cnt] at G
  have hlt := cntN_lt s
  generalize getB s 0 1 = bb at G
  generalize cntN s = c at G h hlt
  clear hno
  cases hsz : sizeB size
  · clear h
    go_enter Tryz.func114, Tryz.ntmps114
    go_wp2_with fail
    refine (G _).mono ?_; rintro e u ⟨rfl, g⟩
    go_wp2_with fail
    refine (fsized_c size hk _).mono ?_; rintro e u ⟨rfl, rfl⟩
    go_wp2_with fail
    go_ret3
    exact fgot_no HP.out g
  · rw [hsz] at h
    have h4 : decide (1 ≤ (c : Int) ∧ (c : Int) ≤ 4) = false := by rw [decide_eq_false_iff_not]; rcases h with h | h; cases h; omega
    clear h
    go_enter Tryz.func114, Tryz.ntmps114
    go_wp2_with fail
    refine (G _).mono ?_; rintro e u ⟨rfl, g⟩
    go_wp2_with fail
    refine (fsized_c size hk _).mono ?_; rintro e u ⟨rfl, rfl⟩
    go_wp2_with fail
    refine (fblock_c c (by unfold I64; omega) _).mono ?_; rintro e u ⟨rfl, rfl⟩
    go_wp2_with fail
    go_ret3
    exact fgot_no HP.out g

theorem slice_to (s : ByteArray) (n : Nat) (h : n ≤ s.size) (w : World) :
    (Instr.slice 9 (.string s) none (some (.int .i64 (n : Int))) none).run Tryz.prog w = .ok (.string (s.extract 0 n)) w := by
  rw [run_slice_string_to_if w 9 s .i64 (n : Int) Tryz.underlying9, if_pos ⟨by omega, by omega⟩, Int.toNat_natCast]
theorem slice_1 (s : ByteArray) (h : 1 ≤ s.size) (w : World) :
    (Instr.slice 9 (.string s) (some (.int .i64 1)) none none).run Tryz.prog w = .ok (.string (s.extract 1 s.size)) w := by
  rw [run_slice_string_from_if w 9 s .i64 1 Tryz.underlying9, if_pos ⟨by omega, by omega⟩]
  rfl

theorem gLen_nat {size : Int} {s : ByteArray} (hs : 1 ≤ size ∧ size ≤ 64) (hc : 1 ≤ cntN s ∧ cntN s ≤ 4) : ∃ n : Nat, gLen size s = n ∧ 6 ≤ n ∧ n ≤ 261 := by
  obtain ⟨m, rfl⟩ : ∃ m : Nat, size = m := ⟨size.toNat, by omega⟩
  unfold gLen
  refine ⟨5 + cntN s * m, by rw [Int.natCast_add, Int.natCast_mul]; rfl, ?_⟩
  generalize cntN s = c at hc
  have h1 : c = 1 ∨ c = 2 ∨ c = 3 ∨ c = 4 := by omega
  rcases h1 with rfl | rfl | rfl | rfl <;> omega

set_option maxHeartbeats 1000000 in
theorem fget_some (s : ByteArray) (size : Int) (hk : I64 size) (w : World) (hs : s.size ≤ 100000) (h1 : sizeB size = true) (h2 : 1 ≤ cntN s ∧ cntN s ≤ 4) :
    Calls Tryz.prog 114 #[.int .i64 size, .string s] w (FGot size s w) := by
  have h1' := h1
  simp only [sizeB, decide_eq_true_eq] at h1'
  obtain ⟨n, hn, hn6, hn261⟩ := gLen_nat h1' h2
  have G := fun w => get_c s 0 1 (by unfold I64; omega) (by unfold I64; omega) w hs
  rw [getN_cnt] at G
  have hgB : gB size s = (decide ((n : Int) ≤ s.size) && opB (s.extract 0 n)) := by
    unfold gB
    rw [h1, hn, decide_eq_true h2, Int.toNat_natCast]
    rfl
  have h4 : decide (1 ≤ (cntN s : Int) ∧ (cntN s : Int) ≤ 4) = true := by rw [decide_eq_true_iff]; omega
  have R := fun w => fsroom_c size (cntN s) (cntN s * size) h1' (by omega) rfl w
  have e5 : 5 + (cntN s : Int) * size = n := hn
  rw [e5] at R
  generalize getB s 0 1 = bb at G
  by_cases hlen : (s.size : Int) < n
  · have hno : gB size s = false := by rw [hgB]; rw [decide_eq_false (by omega)]; rfl
    have HP := Lib.hid hno
    generalize cntN s = c at G R h2 h4
    clear hno hgB hn e5 h1'
    go_enter Tryz.func114, Tryz.ntmps114
    go_wp2_with fail
    refine (G _).mono ?_; rintro e u ⟨rfl, g⟩
    go_wp2_with fail
    refine (fsized_c size hk _).mono ?_; rintro e u ⟨rfl, rfl⟩
    go_wp2_with fail
    refine (fblock_c c (by unfold I64; omega) _).mono ?_; rintro e u ⟨rfl, rfl⟩
    go_wp2_with fail
    refine (R _).mono ?_; rintro e u ⟨rfl, rfl⟩
    go_wp2_with fail
    go_ret3
    exact fgot_no HP.out g
  · have hle : n ≤ s.size := by omega
    have hxs : (s.extract 0 n).size = n := by rw [ByteArray.size_extract]; omega
    have hsl := slice_to s n hle
    have O := fun w => open_c (s.extract 0 n) (by omega) w
    cases hop : opB (s.extract 0 n)
    · have hno : gB size s = false := by rw [hgB, hop, Bool.and_false]
      have HP := Lib.hid hno
      rw [hop, opS_no hop] at O
      generalize cntN s = c at G R h2 h4
      clear hno hgB hn e5 h1' hop
      go_enter Tryz.func114, Tryz.ntmps114
      go_wp2_with fail
      refine (G _).mono ?_; rintro e u ⟨rfl, g⟩
      go_wp2_with fail
      refine (fsized_c size hk _).mono ?_; rintro e u ⟨rfl, rfl⟩
      go_wp2_with fail
      refine (fblock_c c (by unfold I64; omega) _).mono ?_; rintro e u ⟨rfl, rfl⟩
      go_wp2_with fail
      refine (R _).mono ?_; rintro e u ⟨rfl, rfl⟩
      go_wp2_with fail
      refine (O _).mono ?_; rintro e u2 ⟨rfl, g2⟩
      go_wp2_with fail
      go_ret3
      exact fgot_no HP.out (g.trans g2)
    · have hyes : gB size s = true := by rw [hgB, hop, decide_eq_true (by omega)]; rfl
      have hN := gN_yes hyes
      rw [hn] at hN
      have hbody : gBody size s = (opS (s.extract 0 n)).extract 1 (opS (s.extract 0 n)).size := by unfold gBody; rw [hn, Int.toNat_natCast]
      have hos : (opS (s.extract 0 n)).size = n - 4 := by rw [opS_yes hop, ahead_size _ (by omega), hxs]
      rw [hop] at O
      generalize opS (s.extract 0 n) = t at O hbody hos
      have hbz : (gBody size s).size ≤ 1000 := by rw [hbody, ByteArray.size_extract]; omega
      have C := fun B w hp => cut1_c (gBody size s) size hk B w hbz hp
      rw [hbody] at C
      have hs1 := slice_1 t (by omega)
      have HP := Lib.hid hyes
      have HN := Lib.hid hN
      have HB := Lib.hid hbody
      generalize cntN s = c at G R h2 h4
      clear hyes hgB hn e5 h1' hop hN hbody hos hbz hxs
      go_enter Tryz.func114, Tryz.ntmps114
      go_wp2_with fail
      refine (G _).mono ?_; rintro e u ⟨rfl, g⟩
      go_wp2_with fail
      refine (fsized_c size hk _).mono ?_; rintro e u ⟨rfl, rfl⟩
      go_wp2_with fail
      refine (fblock_c c (by unfold I64; omega) _).mono ?_; rintro e u ⟨rfl, rfl⟩
      go_wp2_with fail
      refine (R _).mono ?_; rintro e u ⟨rfl, rfl⟩
      go_wp2_with fail
      refine (O _).mono ?_; rintro e u2 ⟨rfl, g2⟩
      go_wp2_with fail
      refine (cutter_c size _).mono ?_; rintro e u3 ⟨rfl, rfl⟩
      obtain ⟨W, hW⟩ : ∃ W, W = u2.alloc (.cells #[.int .i64 size] 3) := ⟨_, rfl⟩
      have hg : Gr u2 W := by rw [hW]; exact Below.alloc (Below.refl _ _) (Nat.le_refl _) _
      have hcell : W.cell? ⟨u2.heap.size, 0, none⟩ = some (.int .i64 size) := by rw [hW, World.cell?_alloc_mark]; rfl
      rw [← hW]
      have CC := C _ W hcell
      clear hW hcell C
      go_wp2_with fail
      refine CC.mono ?_; rintro e u4 ⟨v, rfl, o, g4⟩
      have OO := Lib.hid o
      clear o
      go_wp2_with fail
      go_ret3
      have ow := OO.out
      rw [← HB.out] at ow
      have g3 := (g.trans g2).trans hg
      exact fgot_yes HP.out HN.out ⟨_, g3.size, ow⟩ (g3.trans g4)
theorem fget_c (s : ByteArray) (size : Int) (hk : I64 size) (w : World) (hs : s.size ≤ 100000) :
    Calls Tryz.prog 114 #[.int .i64 size, .string s] w (FGot size s w) := by
  by_cases h : sizeB size = true ∧ 1 ≤ cntN s ∧ cntN s ≤ 4
  · exact fget_some s size hk w hs h.1 h.2
  · refine fget_none s size hk w hs ?_
    cases hb : sizeB size
    · exact .inl rfl
    · exact .inr fun hc => h ⟨hb, hc⟩
end Go.Proofs.YtpmglnghnelenaaGreat
/- Put of whatever slice; the law's 'few'; the chapter's example. -/
namespace Go.Proofs.YtpmglnghnelenaaGreat
open Go.RowKit CrcPlain OctPlain FramePlain
set_option linter.unusedVariables false
set_option linter.unusedSimpArgs false
set_option maxRecDepth 20000
theorem fput_c {w : World} {v : Value} {l : List ByteArray} (h : Lies w v l) (size : Int) (hk : I64 size) (hl : l.length ≤ 1000000) (hz : ∀ s ∈ l, s.size ≤ 1000) :
    Calls Tryz.prog 101 #[.int .i64 size, v] w fun e w' => e = .returned (.tuple #[.string (blkS size l), .bool (blkB size l)]) ∧ Gr w w' := by
  obtain ⟨a, c, rfl, hc, h⟩ := h
  by_cases hs : sizeB size = true ∧ 1 ≤ l.length ∧ l.length ≤ 4
  · rcases h with rfl | ⟨b, off, rfl, hr⟩
    · simp at hs
    · exact fput_some b off c l.length l rfl size hk w hr hs.1 hs.2 hc hz
  · refine (fput_no a c l.length l rfl size hk (by unfold I64; omega) w ?_).mono fun e w' ⟨h1, h2⟩ => ⟨h1, h2 ▸ Gr.refl _⟩
    cases hb : sizeB size
    · exact .inl rfl
    · exact .inr fun h4 => hs ⟨hb, h4⟩
theorem rfput_c {w : World} {v : Value} {l : List ByteArray} (h : Lies w v l) (size : Int) (hk : I64 size) (hl : l.length ≤ 1000000) :
    Calls Tryz.prog 44 #[.int .i64 size, v] w fun e w' => e = .returned (.tuple #[.string (blkS size l), .bool (blkB size l)]) ∧ Gr w w' := by
  obtain ⟨a, c, rfl, hc, h⟩ := h
  by_cases hs : sizeB size = true ∧ 1 ≤ l.length ∧ l.length ≤ 4
  · rcases h with rfl | ⟨b, off, rfl, hr⟩
    · simp at hs
    · cases ha : allB size l
      · exact (rfput_mid b off c l.length l rfl size hk w hr hs.1 hs.2 ha).mono fun e w' ⟨h1, h2⟩ => ⟨h1, h2 ▸ Gr.refl _⟩
      · exact rfput_yes b off c l.length l rfl size hk w hr hs.1 hs.2 ha
  · refine (rfput_no a c l.length l rfl size hk w ?_).mono fun e w' ⟨h1, h2⟩ => ⟨h1, h2 ▸ Gr.refl _⟩
    cases hb : sizeB size
    · exact .inl rfl
    · exact .inr fun h4 => hs ⟨hb, h4⟩

def fewB (l : List ByteArray) : Bool := decide (l.length ≤ 10) && (l.take 10).all (fun s => decide (s.size ≤ 80))
theorem few_yes {l : List ByteArray} (h : fewB l = true) : l.length ≤ 10 ∧ ∀ s ∈ l, s.size ≤ 80 := by
  unfold fewB at h
  simp only [Bool.and_eq_true, decide_eq_true_eq, List.all_eq_true] at h
  refine ⟨h.1, fun s hs => h.2 s ?_⟩
  rw [List.take_of_length_le h.1]; exact hs
def FewAt (l : List ByteArray) (w : World) (i : Value) (wr : World) : Prop := ∃ j : Nat, j ≤ 10 ∧ j ≤ l.length ∧ i = .int .i64 j ∧ wr = w ∧ (l.take j).all (fun s => decide (s.size ≤ 80)) = true
end Go.Proofs.YtpmglnghnelenaaGreat
