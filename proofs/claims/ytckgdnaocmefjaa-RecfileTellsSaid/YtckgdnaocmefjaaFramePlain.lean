/- Plain facts on rows of strings and on blocks, without the model; a row of strings in memory. -/
import Derived.Test.YtckgdnaocmefjaaArgs
import Derived.Test.YtckgdnaocmefjaaCrcClose
import Derived.Test.YtckgdnaocmefjaaOctPlain
namespace Go.Proofs.Ytckgdnaocmefjaa
open Go.RowKit CrcPlain OctPlain
set_option linter.unusedVariables false
set_option linter.unusedSimpArgs false
namespace FramePlain
/-- A record's size that may be. -/
def sizeB (size : Int) : Bool := decide (1 ≤ size ∧ size ≤ 64)
def roomN (size : Int) : Int := if sizeB size = true then 5 + 4 * size else 0
/-- Strings, one behind the other. -/
def cat (l : List ByteArray) : List UInt8 := (l.map (·.data.toList)).flatten
def allB (size : Int) (l : List ByteArray) : Bool := l.all (fun s => decide ((s.size : Int) = size))
def blkB (size : Int) (l : List ByteArray) : Bool := sizeB size && decide (1 ≤ l.length ∧ l.length ≤ 4) && allB size l
/-- A block ahead of its sum. -/
def blk (l : List ByteArray) : ByteArray := bs (UInt8.ofNat l.length :: cat l)
def blkS (size : Int) (l : List ByteArray) : ByteArray := if blkB size l = true then cl (blk l) else ⟨#[]⟩
theorem blkS_no {size : Int} {l : List ByteArray} (h : blkB size l = false) : blkS size l = ⟨#[]⟩ := by simp [blkS, h]
theorem blkS_yes {size : Int} {l : List ByteArray} (h : blkB size l = true) : blkS size l = cl (blk l) := by simp [blkS, h]
theorem cat_snoc (l : List ByteArray) (x : ByteArray) : cat (l ++ [x]) = cat l ++ x.data.toList := by simp [cat]
theorem allB_iff {size : Int} {l : List ByteArray} : allB size l = true ↔ ∀ s ∈ l, (s.size : Int) = size := by simp [allB]
theorem data_length (s : ByteArray) : s.data.toList.length = s.size := Array.length_toList
theorem cat_length {size : Nat} : ∀ {l : List ByteArray}, (∀ s ∈ l, s.size = size) → (cat l).length = l.length * size
  | [], _ => by simp [cat]
  | x :: r, h => by
    have ih := cat_length (l := r) fun s hs => h s (by simp [hs])
    have e : cat (x :: r) = x.data.toList ++ cat r := rfl
    rw [e, List.length_append, ih, data_length, h x (by simp), List.length_cons, Nat.add_mul, Nat.one_mul, Nat.add_comm]
theorem cat_le {l : List ByteArray} (h : ∀ s ∈ l, s.size ≤ 64) : (cat l).length ≤ l.length * 64 := by
  induction l with
  | nil => simp [cat]
  | cons x r ih =>
    have e : cat (x :: r) = x.data.toList ++ cat r := rfl
    have := ih fun s hs => h s (by simp [hs])
    have hx := h x (by simp)
    rw [e, List.length_append, data_length, List.length_cons]
    omega
theorem cat_le1000 {l : List ByteArray} (h : ∀ s ∈ l, s.size ≤ 1000) : (cat l).length ≤ l.length * 1000 := by
  induction l with
  | nil => simp [cat]
  | cons x r ih =>
    have e : cat (x :: r) = x.data.toList ++ cat r := rfl
    have := ih fun s hs => h s (by simp [hs])
    have hx := h x (by simp)
    rw [e, List.length_append, data_length, List.length_cons]
    omega
theorem blk_size (l : List ByteArray) : (blk l).size = 1 + (cat l).length := by unfold blk; rw [bs_size, List.length_cons]; omega
end FramePlain
open FramePlain

/-- A row of strings lies at b, from off on. -/
def SRow (w : World) (b off : Nat) (l : List ByteArray) : Prop := b < w.heap.size ∧ ∀ j x, l[j]? = some x → w.cell? ⟨b, off + j, none⟩ = some (.string x)
theorem SRow.gr {w w' : World} {b off : Nat} {l : List ByteArray} (h : SRow w b off l) (g : Gr w w') : SRow w' b off l := by
  refine ⟨Nat.lt_of_lt_of_le h.1 g.size, fun j x hj => ?_⟩
  rw [Below.cell g (p := ⟨b, off + j, none⟩) h.1]
  exact h.2 j x hj
theorem srow_of {w : World} {a : Option Addr} {l : List ByteArray} (h : RowIn w a (l.map .string)) (hne : 1 ≤ l.length) : ∃ b off, a = some ⟨b, off, none⟩ ∧ SRow w b off l := by
  rcases h with h | ⟨b, off, rfl, hb, hc⟩
  · cases l with
    | nil => simp at hne
    | cons x r => simp at h
  · exact ⟨b, off, rfl, hb, fun j x hj => hc j _ (by rw [List.getElem?_map, hj]; rfl)⟩
theorem take_at {l : List ByteArray} {j : Nat} (hj : j < l.length) : ∃ x, l[j]? = some x ∧ l.take (j + 1) = l.take j ++ [x] ∧ x ∈ l :=
  ⟨l[j], List.getElem?_eq_getElem hj, List.take_succ_eq_append_getElem hj, List.getElem_mem hj⟩
end Go.Proofs.Ytckgdnaocmefjaa
