/- In one text: OctRput, MnRef5. -/
import Derived.Test.YtgopodgjnblgkaaDoorP25
import Derived.Lib.Hide
import Derived.Test.YtgopodgjnblgkaaDoorP13
/- Contracts of the document's Put, and of PutCoord on both sides. -/
namespace Go.Proofs.YtgopodgjnblgkaaDoor
open Go.RowKit OctPlain
set_option linter.unusedVariables false
set_option linter.unusedSimpArgs false
set_option maxRecDepth 20000

def PutAt (n k : Int) (B : Nat) (w : World) (v s i : Value) (wr : World) : Prop :=
  ∃ j : Nat, (j : Int) ≤ k ∧ i = .int .i64 j ∧ v = .int .i64 (n / 256 ^ j) ∧ s = .string (bs (beL j n.toNat)) ∧ Below B w wr

theorem tup_sb {a b : ByteArray} {p q : Bool} (h : a = b) (k : p = q) : (Value.tuple #[.string a, .bool p]) = .tuple #[.string b, .bool q] := by rw [h, k]

def coordS (x : Int) : ByteArray := putS (wrap64 (x + 2147483648)) 4
def coordB (x : Int) : Bool := fitsB (wrap64 (x + 2147483648)) 4
theorem coordB_no {x : Int} (hx : I64 x) (h : x < -2147483648 ∨ 2147483648 ≤ x) : coordB x = false := by
  unfold I64 at hx
  unfold coordB fitsB wrap64
  simp only [decide_eq_false_iff_not]
  have e : (256 : Int) ^ (4 : Int).toNat = 4294967296 := rfl
  rw [e]
  omega
theorem coordS_no {x : Int} (hx : I64 x) (h : x < -2147483648 ∨ 2147483648 ≤ x) : coordS x = ⟨#[]⟩ := put_no (coordB_no hx h)
theorem coordB_yes {x : Int} (h1 : -2147483648 ≤ x) (h2 : x < 2147483648) : coordB x = fitsB (x + 2147483648) 4 := by
  unfold coordB
  have : wrap64 (x + 2147483648) = x + 2147483648 := by unfold wrap64; omega
  rw [this]
theorem coordS_yes {x : Int} (h1 : -2147483648 ≤ x) (h2 : x < 2147483648) : coordS x = putS (x + 2147483648) 4 := by
  unfold coordS
  have : wrap64 (x + 2147483648) = x + 2147483648 := by unfold wrap64; omega
  rw [this]
end Go.Proofs.YtgopodgjnblgkaaDoor
/- The document's answers of layer 19: Put. -/
namespace Go.Proofs.YtgopodgjnblgkaaDoor
open Go.RowKit FsPlain CrcPlain OctPlain MnPlain
set_option linter.unusedVariables false
set_option linter.unusedSimpArgs false
set_option maxRecDepth 20000
namespace MnPlain
/-- The head of a manifest's bytes. -/
def hdL (m : Mn) : List UInt8 := [77, 65, 78, 49] ++ (beL 2 m.stage.toNat ++ (beL 2 m.pass.toNat ++ beL 1 m.files.length))
theorem hd_all (m : Mn) : mnL m = hdL m ++ (m.files.map flL).flatten := by
  unfold mnL hdL
  simp only [List.append_assoc]
theorem hd_length (m : Mn) : (hdL m).length = 9 := by
  unfold hdL
  simp only [List.length_append, beL_length, List.length_cons, List.length_nil]
theorem put_be {n k : Nat} (hk : 1 ≤ k ∧ k ≤ 8) (hn : n < 256 ^ k) : putS (n : Int) (k : Int) = bs (beL k n) := by
  have : fitsB (n : Int) (k : Int) = true := by
    unfold fitsB
    rw [decide_eq_true_iff, Int.toNat_natCast]
    refine ⟨by omega, by omega, ?_⟩
    exact_mod_cast hn
  unfold putS
  rw [if_pos this, Int.toNat_natCast, Int.toNat_natCast]
theorem put_is {n : Int} {k : Nat} (hk : 1 ≤ k ∧ k ≤ 8) (h0 : 0 ≤ n) (hn : n.toNat < 256 ^ k) : putS n (k : Int) = bs (beL k n.toNat) := by
  have := put_be hk hn
  rwa [Int.toNat_of_nonneg h0] at this
end MnPlain
/-- At the head of a file. -/
def PtAt (m : Mn) (w1 : World) (vs vi : Value) (wr : World) : Prop := ∃ i : Nat, i ≤ m.files.length ∧ vi = .int .i64 (i : Int) ∧ vs = .string (bs (hdL m ++ ((m.files.take i).map flL).flatten)) ∧ Gr w1 wr
theorem flatl_le {l : List Fl} (h : ∀ f ∈ l, f.name.size ≤ 24) : ((l.map flL).flatten).length ≤ 38 * l.length := by
  induction l with
  | nil => simp
  | cons f t ih =>
    have h1 := h f (by simp)
    have h2 := ih fun g hg => h g (by simp [hg])
    simp only [List.map_cons, List.flatten_cons, List.length_append, List.length_cons, flL_length]
    omega
end Go.Proofs.YtgopodgjnblgkaaDoor
