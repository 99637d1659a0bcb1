/- In one text: MnRef7. -/
import Derived.Test.YtckmciafonnohaaP25
import Derived.Test.YtckmciafonnohaaP26
import Derived.Test.YtckmciafonnohaaP15
import Derived.BigQuiet
import Derived.Deep.DeepCutAuto
/- The document's answers of layer 19: Get. -/
namespace Go.Proofs.Ytckmciafonnohaa
open Go.RowKit FsPlain CrcPlain OctPlain MnPlain
set_option linter.unusedVariables false
set_option linter.unusedSimpArgs false
set_option maxRecDepth 20000
theorem wrap_in {x : Int} (h0 : 0 ≤ x) (h1 : x ≤ 1000000) : wrap64 x = x := by unfold wrap64; omega
theorem get_sums {p n z i : Nat} (h : p + 1 + n + 13 ≤ z) (hz : z ≤ 700) (hi : i ≤ 17) : ¬ (z : Int) < (p : Int) + 1 + (n : Int) + 13 ∧ ((0 : Int) ≤ (p : Int) + 1 ∧ (p : Int) + 1 ≤ (p : Int) + 1 + (n : Int) ∧ (p : Int) + 1 + (n : Int) ≤ (z : Int) ∧ ((p : Int) + 1).toNat = p + 1 ∧ ((p : Int) + 1 + (n : Int)).toNat = p + 1 + n) ∧
    (wrap64 ((p : Int) + 1) = (p : Int) + 1 ∧ wrap64 ((p : Int) + 1 + (n : Int)) = (p : Int) + 1 + (n : Int) ∧ wrap64 ((p : Int) + 1 + (n : Int) + 13) = (p : Int) + 1 + (n : Int) + 13 ∧ wrap64 ((p : Int) + 1 + (n : Int) + 1) = (p : Int) + 1 + (n : Int) + 1 ∧ wrap64 ((p : Int) + 1 + (n : Int) + 9) = (p : Int) + 1 + (n : Int) + 9 ∧ wrap64 ((i : Int) + 1) = (i : Int) + 1) ∧
    (I64 ((p : Int) + 1 + (n : Int)) ∧ I64 ((p : Int) + 1 + (n : Int) + 1) ∧ I64 ((p : Int) + 1 + (n : Int) + 9)) :=
  ⟨by omega, ⟨by omega, by omega, by omega, by omega, by omega⟩, ⟨wrap_in (by omega) (by omega), wrap_in (by omega) (by omega), wrap_in (by omega) (by omega), wrap_in (by omega) (by omega), wrap_in (by omega) (by omega), wrap_in (by omega) (by omega)⟩, by unfold I64; omega, by unfold I64; omega, by unfold I64; omega⟩
/-- At the head of a file: what the loop knows. -/
def GfAt (s : ByteArray) (B : Nat) (w1 : World) (vp vi : Value) (wr : World) : Prop :=
  ∃ (i p : Nat) (L : List Fl) (v2 : Value), GtAt s i p L ∧ vi = .int .i64 (i : Int) ∧ vp = .int .i64 (p : Int) ∧ wr.heap[B]? = some (.cells #[.int .i64 (getN s 4 2), .int .i64 (getN s 6 2), v2] 31 (0, 0)) ∧ wr.ownsRow (B + 1) 61 4 v2 L.length (fls L) ∧ Only (fun b => b = B) w1 wr
theorem wt_zero {w u : World} {q : Nat} (hw : w.heap.size ≤ q) (g : Gr w u) {c : Array Value} {T : TypeId} (hc : u.heap[q]? = some (.cells c T (0, 0))) (x y z : Value) :
    (((u.setCell ⟨q, 0, none⟩ x).setCell ⟨q, 1, none⟩ y).setCell ⟨q, 2, none⟩ z).heap[q]? = some (.cells (((c.setIfInBounds 0 x).setIfInBounds 1 y).setIfInBounds 2 z) T (0, 0)) ∧ Gr w (((u.setCell ⟨q, 0, none⟩ x).setCell ⟨q, 1, none⟩ y).setCell ⟨q, 2, none⟩ z) := by
  have o := ((Only.cell1 u q 0 x).trans (Only.cell1 _ q 1 y)).trans (Only.cell1 _ q 2 z)
  obtain ⟨_, b1, _⟩ := blk_next (i := 0) (show Blk q c T u (fun b => b = q) from ⟨hc, fun b => Iff.rfl⟩) x
  obtain ⟨_, b2, _⟩ := blk_next (i := 1) b1 y
  obtain ⟨_, b3, _⟩ := blk_next (i := 2) b2 z
  exact ⟨b3.1, Below.trans g (o.toBelow (n := w.heap.size) g.size fun b e => by omega)⟩
end Go.Proofs.Ytckmciafonnohaa
