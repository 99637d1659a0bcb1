/- Plain facts on records of numbers, each in its bytes: their order, what is read of them; without the model. -/
import Derived.Test.YtnmddnhllfojeaaOctOrd
namespace Go.Proofs.Ytnmddnhllfojeaa
open Go.RowKit OctPlain
set_option linter.unusedVariables false
set_option linter.unusedSimpArgs false
set_option maxRecDepth 20000
namespace RcPlain
/-- Fields: how many bytes, which number. -/
def recL : List (Nat × Nat) → List UInt8
  | [] => []
  | f :: r => beL f.1 f.2 ++ recL r
def recZ : List (Nat × Nat) → Nat
  | [] => 0
  | f :: r => f.1 + recZ r
def recFit : List (Nat × Nat) → Prop
  | [] => True
  | f :: r => f.2 < 256 ^ f.1 ∧ recFit r
def recLess : List (Nat × Nat) → List (Nat × Nat) → Bool
  | f :: r, g :: s => decide (f.2 < g.2) || (decide (f.2 = g.2) && recLess r s)
  | _, _ => false
theorem recL_length : ∀ f, (recL f).length = recZ f
  | [] => rfl
  | f :: r => by simp only [recL, recZ, List.length_append, beL_length, recL_length r]
theorem recL_app : ∀ f g, recL (f ++ g) = recL f ++ recL g
  | [], g => rfl
  | f :: r, g => by simp only [recL, List.cons_append, recL_app r g, List.append_assoc]
theorem num_less {a c : List UInt8} (h : a.length = c.length) (b d : List UInt8) (h2 : b.length = d.length) : decide (num (a ++ b) < num (c ++ d)) = (decide (num a < num c) || (decide (num a = num c) && decide (num b < num d))) := by
  rw [num_app, num_app, h2]
  have hb := num_lt b
  have hd := num_lt d
  rw [h2] at hb
  generalize 256 ^ d.length = p at hb hd ⊢
  generalize num a = x
  generalize num c = y
  generalize num b = m at hb ⊢
  generalize num d = n at hd ⊢
  apply Bool.eq_iff_iff.2
  simp only [Bool.or_eq_true, Bool.and_eq_true, decide_eq_true_eq]
  constructor
  · intro h1
    by_cases h3 : x < y
    · exact .inl h3
    · by_cases h4 : x = y
      · subst h4; exact .inr ⟨rfl, by omega⟩
      · have := Nat.mul_le_mul_right p (show y + 1 ≤ x by omega)
        rw [Nat.add_mul] at this; omega
  · rintro (h1 | ⟨h1, h3⟩)
    · have := Nat.mul_le_mul_right p (show x + 1 ≤ y by omega)
      rw [Nat.add_mul] at this; omega
    · subst h1; omega
theorem recZ_map : ∀ {f g : List (Nat × Nat)}, f.map Prod.fst = g.map Prod.fst → recZ f = recZ g
  | [], [], _ => rfl
  | f :: r, g :: s, h => by
    simp only [List.map_cons, List.cons.injEq] at h
    simp only [recZ, h.1, recZ_map h.2]
  | [], g :: s, h => by simp at h
  | f :: r, [], h => by simp at h
theorem rec_num : ∀ {f g : List (Nat × Nat)}, f.map Prod.fst = g.map Prod.fst → recFit f → recFit g → decide (num (recL f) < num (recL g)) = recLess f g
  | [], [], _, _, _ => by simp [recL, recLess]
  | f :: r, g :: s, h, hf, hg => by
    simp only [List.map_cons, List.cons.injEq] at h
    show decide (num (beL f.1 f.2 ++ recL r) < num (beL g.1 g.2 ++ recL s)) = (decide (f.2 < g.2) || (decide (f.2 = g.2) && recLess r s))
    rw [num_less (by rw [beL_length, beL_length]; exact h.1) _ _ (by rw [recL_length, recL_length]; exact recZ_map h.2), num_beL _ _ hf.1, num_beL _ _ hg.1, rec_num h.2 hf.2 hg.2]
  | [], g :: s, h, _, _ => by simp at h
  | f :: r, [], h, _, _ => by simp at h
/-- Records stand in the order of what they say. -/
theorem rec_less {f g : List (Nat × Nat)} (h : f.map Prod.fst = g.map Prod.fst) (hf : recFit f) (hg : recFit g) : Op.bytesLess (recL f) (recL g) = recLess f g := by
  rw [less_num _ _ (by rw [recL_length, recL_length, recZ_map h]), rec_num h hf hg]
/-- A field of it, cut out. -/
theorem rec_cut (f : List (Nat × Nat)) (k n : Nat) (g : List (Nat × Nat)) : cutL (bs (recL (f ++ (k, n) :: g))) (recZ f) k = beL k n := by
  unfold cutL bs
  show ((recL (f ++ (k, n) :: g)).drop (recZ f)).take k = _
  rw [recL_app, List.drop_left' (recL_length f)]
  show (beL k n ++ recL g).take k = _
  rw [List.take_left' (beL_length k n)]
theorem rec_size (f : List (Nat × Nat)) : (bs (recL f)).size = recZ f := by rw [bs_size, recL_length]
theorem recZ_app : ∀ f g, recZ (f ++ g) = recZ f + recZ g
  | [], g => by simp [recZ]
  | f :: r, g => by simp only [List.cons_append, recZ, recZ_app r g]; omega
/-- What is read of a field. -/
theorem rec_get (f : List (Nat × Nat)) (k n : Nat) (g : List (Nat × Nat)) (hk : 1 ≤ k ∧ k ≤ 8) (hn : n < 256 ^ k) (hn2 : n < 9223372036854775808) :
    getB (bs (recL (f ++ (k, n) :: g))) (recZ f : Nat) k = true ∧ getN (bs (recL (f ++ (k, n) :: g))) (recZ f : Nat) k = n := by
  have hc := rec_cut f k n g
  have hz : (bs (recL (f ++ (k, n) :: g))).size = recZ f + (k + recZ g) := by rw [rec_size, recZ_app]; rfl
  have hb : getB (bs (recL (f ++ (k, n) :: g))) (recZ f : Nat) k = true := by
    unfold getB
    rw [decide_eq_true_iff, Int.toNat_natCast, Int.toNat_natCast, hc, num_beL _ _ hn, hz]
    omega
  refine ⟨hb, ?_⟩
  unfold getN
  rw [if_pos hb, Int.toNat_natCast, Int.toNat_natCast, hc, num_beL _ _ hn]
/-- Bytes are those of their number. -/
theorem beL_num : ∀ l : List UInt8, beL l.length (num l) = l := by
  intro l
  induction hl : l.length generalizing l with
  | zero => rw [List.eq_nil_of_length_eq_zero hl]; rfl
  | succ k ih =>
    obtain ⟨m, b, rfl⟩ : ∃ m b, l = m ++ [b] := ⟨l.dropLast, l.getLast (by intro e; rw [e] at hl; simp at hl), (List.dropLast_concat_getLast _).symm⟩
    have hm : m.length = k := by simpa using hl
    have hb := b.toNat_lt
    rw [num_snoc]
    show beL k ((num m * 256 + b.toNat) / 256) ++ [UInt8.ofNat ((num m * 256 + b.toNat) % 256)] = _
    rw [show (num m * 256 + b.toNat) / 256 = num m by omega, show (num m * 256 + b.toNat) % 256 = b.toNat by omega, ih m hm, UInt8.ofNat_toNat]
theorem put_rec {n : Int} {k : Nat} (h : fitsB n k = true) : putS n k = bs (recL [(k, n.toNat)]) := by
  rw [put_ok h, Int.toNat_natCast]
  simp only [recL, List.append_nil]
theorem put_app {n : Int} {k : Nat} (h : fitsB n k = true) (f : List (Nat × Nat)) : putS n k ++ bs (recL f) = bs (recL ((k, n.toNat) :: f)) := by
  rw [put_ok h, Int.toNat_natCast, bs_app]
  rfl
theorem app_put {n : Int} {k : Nat} (h : fitsB n k = true) (f : List (Nat × Nat)) : bs (recL f) ++ putS n k = bs (recL (f ++ [(k, n.toNat)])) := by
  rw [put_rec h, bs_app, recL_app]
theorem fits_nat {n : Int} {k : Nat} (hk : 1 ≤ k ∧ k ≤ 8) (h0 : 0 ≤ n) (h : n.toNat < 256 ^ k) : fitsB n k = true := by
  unfold fitsB
  rw [decide_eq_true_iff, Int.toNat_natCast]
  have e : ((256 ^ k : Nat) : Int) = (256 : Int) ^ k := by rw [Int.natCast_pow]; rfl
  rw [← e]
  omega
theorem put_le (n k : Int) : (putS n k).size ≤ 8 := by
  cases h : fitsB n k
  · rw [put_no h]; simp [ByteArray.size]
  · rw [put_size h]
    unfold fitsB at h
    rw [decide_eq_true_iff] at h
    omega
theorem coord_le (x : Int) : (coordS x).size ≤ 8 := put_le _ _
def idB (n : Int) : Bool := decide (0 ≤ n ∧ n < 1048576)
def cellB (x y n : Int) : Bool := coordB x && (coordB y && idB n)
def cellS (x y n : Int) : ByteArray := if cellB x y n = true then (coordS x ++ coordS y) ++ putS n 4 else ⟨#[]⟩
def pairB (a b : Int) : Bool := idB a && (idB b && decide (a < b))
def pairS (a b : Int) : ByteArray := if pairB a b = true then putS a 4 ++ putS b 4 else ⟨#[]⟩
def edgeB (f d i : Int) : Bool := idB f && (idB i && decide (0 ≤ d ∧ d ≤ 4611686018427387904))
def newN (b : Bool) : Int := if b = true then 1 else 0
def edgeS (f d i : Int) (b : Bool) : ByteArray := if edgeB f d i = true then ((putS f 4 ++ putS d 8) ++ putS i 4) ++ putS (newN b) 1 else ⟨#[]⟩
def drawB (o k l i : Int) : Bool := idB o && (idB i && decide ((0 ≤ k ∧ k ≤ 255) ∧ 0 ≤ l))
def drawS (o k l i : Int) : ByteArray := if drawB o k l i = true then ((putS o 4 ++ putS k 1) ++ putS l 8) ++ putS i 4 else ⟨#[]⟩
end RcPlain
end Go.Proofs.Ytnmddnhllfojeaa
