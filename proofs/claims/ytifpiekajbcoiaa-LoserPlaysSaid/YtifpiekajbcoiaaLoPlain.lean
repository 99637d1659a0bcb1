/- Heads of sources, and which is the least; plain. -/
import Derived.Test.YtifpiekajbcoiaaBase
namespace Go.Proofs.Ytifpiekajbcoiaa
open Go.RowKit
set_option linter.unusedVariables false
set_option linter.unusedSimpArgs false
set_option maxRecDepth 20000
namespace LoPlain
/-- A source's head, and whether it is over. -/
structure Hd where
  s : ByteArray
  o : Bool
def ltS (a b : ByteArray) : Bool := Op.bytesLess a.toList b.toList
def sAt (l : List Hd) (i : Nat) : ByteArray := ((l[i]?).map Hd.s).getD ⟨#[]⟩
def oAt (l : List Hd) (i : Nat) : Bool := ((l[i]?).map Hd.o).getD true
/-- The least of the first ones, -1 if there is none. -/
def bestN (l : List Hd) : Nat → Int
  | 0 => -1
  | j + 1 => if (!oAt l j && (decide (bestN l j < 0) || ltS (sAt l j) (sAt l (bestN l j).toNat))) = true then (j : Int) else bestN l j
def leastN (l : List Hd) : Int := bestN l l.length
def leastI (l : List Hd) : Int := max 0 (leastN l)
def leastB (l : List Hd) : Bool := decide (0 ≤ leastN l)
def headS (l : List Hd) : ByteArray := if leastB l = true then sAt l (leastN l).toNat else ⟨#[]⟩
def nextL (l : List Hd) (s : ByteArray) (o : Bool) : List Hd := if leastB l = true then l.set (leastN l).toNat ⟨s, o⟩ else l
def leftN (l : List Hd) : Nat := l.countP (fun x => !x.o)
def mkL : List ByteArray → List Bool → List Hd
  | [], _ => []
  | h :: r, [] => ⟨h, false⟩ :: mkL r []
  | h :: r, o :: os => ⟨h, o⟩ :: mkL r os
theorem bestN_range (l : List Hd) : ∀ j, -1 ≤ bestN l j ∧ bestN l j < (j : Int)
  | 0 => by simp [bestN]
  | j + 1 => by
    have h := bestN_range l j
    rw [bestN]
    split <;> omega
theorem leastN_range (l : List Hd) : -1 ≤ leastN l ∧ leastN l < (l.length : Int) := bestN_range l _
theorem oAt_none {l : List Hd} {i : Nat} (h : l.length ≤ i) : oAt l i = true := by
  unfold oAt; rw [List.getElem?_eq_none h]; rfl
theorem oAt_at {l : List Hd} {i : Nat} {x : Hd} (h : l[i]? = some x) : oAt l i = x.o := by unfold oAt; rw [h]; rfl
theorem sAt_at {l : List Hd} {i : Nat} {x : Hd} (h : l[i]? = some x) : sAt l i = x.s := by unfold sAt; rw [h]; rfl
theorem bestN_on (l : List Hd) : ∀ j, 0 ≤ bestN l j → oAt l (bestN l j).toNat = false
  | 0, h => by simp [bestN] at h
  | j + 1, h => by
    rw [bestN] at h ⊢
    split at h
    · rename_i hc
      rw [if_pos hc]
      simp only [Bool.and_eq_true, Bool.not_eq_true'] at hc
      exact hc.1
    · rename_i hc
      rw [if_neg hc]
      exact bestN_on l j h
theorem mkL_length : ∀ (h : List ByteArray) (o : List Bool), (mkL h o).length = h.length
  | [], _ => by simp [mkL]
  | h :: r, [] => by simp [mkL, mkL_length r []]
  | h :: r, o :: os => by simp [mkL, mkL_length r os]
theorem mkL_at : ∀ (h : List ByteArray) (o : List Bool) (i : Nat) (s : ByteArray), h[i]? = some s → (mkL h o)[i]? = some ⟨s, (o[i]?).getD false⟩
  | [], _, i, s, e => by simp at e
  | h :: r, [], 0, s, e => by simp at e; simp [mkL, e]
  | h :: r, [], i + 1, s, e => by
    have := mkL_at r [] i s (by simpa using e)
    simpa [mkL] using this
  | h :: r, o :: os, 0, s, e => by simp at e; simp [mkL, e]
  | h :: r, o :: os, i + 1, s, e => by
    have := mkL_at r os i s (by simpa using e)
    simpa [mkL] using this
theorem nextL_length (l : List Hd) (s : ByteArray) (o : Bool) : (nextL l s o).length = l.length := by unfold nextL; split <;> simp
theorem leftN_snoc (l : List Hd) (x : Hd) : leftN (l ++ [x]) = leftN l + (if x.o = true then 0 else 1) := by
  unfold leftN
  rw [List.countP_append]
  cases x with | mk s o => cases o <;> simp
theorem leftN_le (l : List Hd) : leftN l ≤ l.length := List.countP_le_length
end LoPlain
end Go.Proofs.Ytifpiekajbcoiaa
