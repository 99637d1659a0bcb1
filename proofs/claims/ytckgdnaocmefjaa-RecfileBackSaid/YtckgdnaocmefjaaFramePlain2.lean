/- Plain facts on what the bytes of a block say. -/
import Derived.Test.YtckgdnaocmefjaaFramePlain
import Derived.Test.YtckgdnaocmefjaaCrcOpen
import Derived.Test.YtckgdnaocmefjaaOctSplit
import Derived.Test.YtckgdnaocmefjaaOctPlain2
namespace Go.Proofs.Ytckgdnaocmefjaa
open Go.RowKit CrcPlain OctPlain FramePlain
set_option linter.unusedVariables false
set_option linter.unusedSimpArgs false
namespace FramePlain
/-- How many records a block says to have: 0, where it has no byte. -/
def cntN (s : ByteArray) : Nat := num (cutL s 0 1)
def gLen (size : Int) (s : ByteArray) : Int := 5 + cntN s * size
def gB (size : Int) (s : ByteArray) : Bool := sizeB size && decide (1 ≤ cntN s ∧ cntN s ≤ 4) && decide (gLen size s ≤ s.size) && opB (s.extract 0 (gLen size s).toNat)
def gN (size : Int) (s : ByteArray) : Int := if gB size s = true then gLen size s else 0
/-- A block's records, one behind the other. -/
def gBody (size : Int) (s : ByteArray) : ByteArray := (opS (s.extract 0 (gLen size s).toNat)).extract 1 (opS (s.extract 0 (gLen size s).toNat)).size
def gL (size : Int) (s : ByteArray) : List ByteArray := if gB size s = true then splL (gBody size s) size else []
theorem gN_no {size : Int} {s : ByteArray} (h : gB size s = false) : gN size s = 0 := by simp [gN, h]
theorem gL_no {size : Int} {s : ByteArray} (h : gB size s = false) : gL size s = [] := by simp [gL, h]
theorem gN_yes {size : Int} {s : ByteArray} (h : gB size s = true) : gN size s = gLen size s := by simp [gN, h]
theorem gL_yes {size : Int} {s : ByteArray} (h : gB size s = true) : gL size s = splL (gBody size s) size := by simp [gL, h]
theorem cntN_lt (s : ByteArray) : cntN s < 256 := by
  have h := num_lt (cutL s 0 1)
  have hl : (cutL s 0 1).length ≤ 1 := by unfold cutL; rw [List.length_take]; omega
  have hp : 256 ^ (cutL s 0 1).length ≤ 256 ^ 1 := Nat.pow_le_pow_right (by omega) hl
  unfold cntN
  omega
theorem getN_cnt (s : ByteArray) : getN s 0 1 = (cntN s : Int) := by
  have hlt := cntN_lt s
  by_cases h : 1 ≤ s.size
  · have hb : getB s (0 : Nat) (1 : Nat) = true := getB_yes (by omega) (by omega) (by unfold cntN at hlt; omega)
    exact getN_yes hb
  · have hb : getB s 0 1 = false := getB_no (by omega)
    rw [getN_no hb]
    have hl : s.data.toList = [] := by
      apply List.eq_nil_of_length_eq_zero; rw [data_length]; omega
    unfold cntN cutL; rw [hl]; rfl
theorem cntN_at (s : ByteArray) (h : 0 < s.size) : s[0].toNat = cntN s := by
  have e := cutL_take s 0 1 0 (by omega) (by omega)
  have hl := cutL_length s 0 1 (by omega)
  rw [List.take_of_length_le (by omega)] at e
  unfold cntN
  rw [e]
  simp [num]
theorem cntN_none (s : ByteArray) (h : s.size = 0) : cntN s = 0 := by
  have hl : s.data.toList = [] := by
    apply List.eq_nil_of_length_eq_zero; rw [data_length]; exact h
  unfold cntN cutL; rw [hl]; rfl
end FramePlain
/-- A row that lies above a bound lies above a lesser one. -/
theorem owns_low {w : World} {A B : Nat} {e : TypeId} {k : Nat} {v : Value} {n : Nat} {xs : List Value} (hA : A ≤ B) (h : w.ownsRow B e k v n xs) : w.ownsRow A e k v n xs := by
  obtain ⟨h1, h2⟩ := h
  refine ⟨h1, h2.imp id ?_⟩
  rintro ⟨g, cap, cur, e1, e2, e3⟩
  exact ⟨g, cap, cur, e1, Nat.le_trans hA e2, e3⟩
/-- What Get hands out. -/
def FGot (size : Int) (s : ByteArray) (w : World) (e : Ending) (w' : World) : Prop :=
  ∃ v, e = .returned (.tuple #[v, .int .i64 (gN size s), .bool (gB size s)]) ∧ w'.ownsRow w.heap.size 9 1 v (gL size s).length (strs (gL size s)) ∧ Gr w w'
theorem fgot_no {size : Int} {s : ByteArray} {w w' : World} (h : gB size s = false) (g : Gr w w') : FGot size s w (.returned (.tuple #[.slice none 0 0, .int .i64 0, .bool false])) w' := by
  refine ⟨_, by rw [gN_no h, h], ?_, g⟩
  rw [gL_no h]
  exact World.ownsRow_nil _ _ _ _
theorem fgot_yes {size : Int} {s : ByteArray} {w w' : World} {v : Value} {n : Int} (h : gB size s = true) (hn : gN size s = n) (ho : ∃ B, w.heap.size ≤ B ∧ w'.ownsRow B 9 1 v (splL (gBody size s) size).length (strs (splL (gBody size s) size))) (g : Gr w w') :
    FGot size s w (.returned (.tuple #[v, .int .i64 n, .bool true])) w' := by
  obtain ⟨B, hB, ho⟩ := ho
  refine ⟨_, by rw [hn, h], ?_, g⟩
  rw [gL_yes h]
  exact owns_low hB ho
end Go.Proofs.Ytckgdnaocmefjaa
