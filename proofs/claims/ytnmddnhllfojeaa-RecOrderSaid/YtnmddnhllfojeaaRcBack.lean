/- What is written is read; records stand in the order of what they say; plain. -/
import Derived.Test.YtnmddnhllfojeaaRcRef5
namespace Go.Proofs.Ytnmddnhllfojeaa
open Go.RowKit OctPlain RcPlain
set_option linter.unusedVariables false
set_option linter.unusedSimpArgs false
set_option maxRecDepth 20000
theorem coord_range {x : Int} (hx : I64 x) (h : coordB x = true) : -2147483648 ≤ x ∧ x < 2147483648 := by
  unfold coordB fitsB at h
  rw [decide_eq_true_iff] at h
  have e : (256 : Int) ^ (4 : Int).toNat = 4294967296 := rfl
  rw [e] at h
  unfold I64 at hx
  unfold wrap64 at h
  omega
theorem coord_rec {x : Int} (h1 : -2147483648 ≤ x) (h2 : x < 2147483648) : coordS x = bs (recL [(4, (x + 2147483648).toNat)]) := by
  rw [coordS_yes h1 h2]
  exact put_rec (k := 4) (fits4 h1 h2)
theorem id_range {n : Int} (h : idB n = true) : 0 ≤ n ∧ n < 1048576 := by unfold idB at h; rwa [decide_eq_true_iff] at h
theorem bs_less (f g : List UInt8) : Op.bytesLess (bs f).toList (bs g).toList = Op.bytesLess f g := by
  rw [Lib.toList_data, Lib.toList_data]; rfl
/-- What is read of a field, at a place and a size that are known. -/
theorem field_get {s : ByteArray} (f : List (Nat × Nat)) (k n : Nat) (g : List (Nat × Nat)) (hs : s = bs (recL (f ++ (k, n) :: g))) {a b : Nat} (ha : a = recZ f) (hb : b = k) (hk : 1 ≤ k ∧ k ≤ 8) (hn : n < 256 ^ k) (hn2 : n < 9223372036854775808) :
    getB s (a : Nat) (b : Nat) = true ∧ getN s (a : Nat) (b : Nat) = n := by
  rw [ha, hb, hs]
  exact rec_get f k n g hk hn hn2
def cellF (x y n : Int) : List (Nat × Nat) := [(4, (x + 2147483648).toNat), (4, (y + 2147483648).toNat), (4, n.toNat)]
theorem cell_parts {x y n : Int} (h : cellB x y n = true) : coordB x = true ∧ coordB y = true ∧ idB n = true := by
  unfold cellB at h
  simp only [Bool.and_eq_true] at h
  exact ⟨h.1, h.2.1, h.2.2⟩
theorem cell_rec {x y n : Int} (hx : I64 x) (hy : I64 y) (h : cellB x y n = true) : cellS x y n = bs (recL (cellF x y n)) ∧ recFit (cellF x y n) := by
  obtain ⟨h1, h2, h3⟩ := cell_parts h
  obtain ⟨a1, a2⟩ := coord_range hx h1
  obtain ⟨b1, b2⟩ := coord_range hy h2
  obtain ⟨c1, c2⟩ := id_range h3
  constructor
  · unfold cellS
    rw [if_pos h, coord_rec a1 a2, coord_rec b1 b2, bs_app, show putS n 4 = putS n (4 : Nat) from rfl, put_rec (fits_nat (by omega) c1 (by omega)), bs_app]
    rfl
  · unfold cellF recFit recFit recFit recFit
    refine ⟨show _ < 256 ^ 4 by omega, show _ < 256 ^ 4 by omega, show _ < 256 ^ 4 by omega, trivial⟩
theorem cell_back {x y n : Int} (hx : I64 x) (hy : I64 y) (h : cellB x y n = true) :
    gcellB (cellS x y n) = true ∧ gcellX (cellS x y n) = x ∧ gcellY (cellS x y n) = y ∧ gcellN (cellS x y n) = n ∧ (cellS x y n).size = 12 := by
  obtain ⟨h1, h2, h3⟩ := cell_parts h
  obtain ⟨a1, a2⟩ := coord_range hx h1
  obtain ⟨b1, b2⟩ := coord_range hy h2
  obtain ⟨c1, c2⟩ := id_range h3
  obtain ⟨hr, _⟩ := cell_rec hx hy h
  have hz : (cellS x y n).size = 12 := by rw [hr, rec_size]; rfl
  have g0 := field_get (s := cellS x y n) [] 4 _ [(4, (y + 2147483648).toNat), (4, n.toNat)] hr (a := 0) (b := 4) rfl rfl (by omega) (by omega) (by omega)
  have g4 := field_get (s := cellS x y n) [(4, (x + 2147483648).toNat)] 4 _ [(4, n.toNat)] hr (a := 4) (b := 4) rfl rfl (by omega) (by omega) (by omega)
  have g8 := field_get (s := cellS x y n) [(4, (x + 2147483648).toNat), (4, (y + 2147483648).toNat)] 4 _ [] hr (a := 8) (b := 4) rfl rfl (by omega) (by omega) (by omega)
  have g0' : getB (cellS x y n) 0 4 = true ∧ getN (cellS x y n) 0 4 = _ := g0
  have g4' : getB (cellS x y n) 4 4 = true ∧ getN (cellS x y n) 4 4 = _ := g4
  have g8' : getB (cellS x y n) 8 4 = true ∧ getN (cellS x y n) 8 4 = _ := g8
  have hn : getN (cellS x y n) 8 4 = n := by rw [g8'.2]; omega
  have hb : gcellB (cellS x y n) = true := by
    unfold gcellB
    rw [hz, hn, h3]; rfl
  refine ⟨hb, ?_, ?_, ?_, hz⟩
  · unfold gcellX gcN
    rw [if_pos hb, if_pos g0'.1, g0'.2]
    unfold wrap64; omega
  · unfold gcellY gcN
    rw [if_pos hb, if_pos g4'.1, g4'.2]
    unfold wrap64; omega
  · unfold gcellN
    rw [if_pos hb, hn]
theorem lt_iff {a b : Int} (ha : 0 ≤ a) (hb : 0 ≤ b) : decide (a.toNat < b.toNat) = decide (a < b) := by apply decide_eq_decide.2; omega
theorem eq_iff14 {a b : Int} (ha : 0 ≤ a) (hb : 0 ≤ b) : decide (a.toNat = b.toNat) = decide (a = b) := by apply decide_eq_decide.2; omega
theorem lt_iffc {a b : Int} (ha : -2147483648 ≤ a) (hb : -2147483648 ≤ b) : decide ((a + 2147483648).toNat < (b + 2147483648).toNat) = decide (a < b) := by apply decide_eq_decide.2; omega
theorem eq_iffc {a b : Int} (ha : -2147483648 ≤ a) (hb : -2147483648 ≤ b) : decide ((a + 2147483648).toNat = (b + 2147483648).toNat) = decide (a = b) := by apply decide_eq_decide.2; omega
def cellLess (x y n x' y' n' : Int) : Bool := decide (x < x') || (decide (x = x') && (decide (y < y') || (decide (y = y') && decide (n < n'))))
theorem cell_less {x y n x' y' n' : Int} (hx : I64 x) (hy : I64 y) (h : cellB x y n = true) (hx' : I64 x') (hy' : I64 y') (h' : cellB x' y' n' = true) :
    Op.bytesLess (cellS x y n).toList (cellS x' y' n').toList = cellLess x y n x' y' n' := by
  obtain ⟨h1, h2, h3⟩ := cell_parts h
  obtain ⟨k1, k2, k3⟩ := cell_parts h'
  obtain ⟨r1, f1⟩ := cell_rec hx hy h
  obtain ⟨r2, f2⟩ := cell_rec hx' hy' h'
  rw [r1, r2, bs_less, rec_less (f := cellF x y n) (g := cellF x' y' n') rfl f1 f2]
  unfold cellF cellLess
  simp only [recLess, Bool.and_false, Bool.or_false]
  rw [lt_iffc (coord_range hx h1).1 (coord_range hx' k1).1, eq_iffc (coord_range hx h1).1 (coord_range hx' k1).1, lt_iffc (coord_range hy h2).1 (coord_range hy' k2).1, eq_iffc (coord_range hy h2).1 (coord_range hy' k2).1,
    lt_iff (id_range h3).1 (id_range k3).1]
def pairF (a b : Int) : List (Nat × Nat) := [(4, a.toNat), (4, b.toNat)]
theorem pair_parts {a b : Int} (h : pairB a b = true) : idB a = true ∧ idB b = true ∧ a < b := by
  unfold pairB at h
  simp only [Bool.and_eq_true, decide_eq_true_eq] at h
  exact ⟨h.1, h.2.1, h.2.2⟩
theorem pair_rec {a b : Int} (h : pairB a b = true) : pairS a b = bs (recL (pairF a b)) ∧ recFit (pairF a b) := by
  obtain ⟨h1, h2, _⟩ := pair_parts h
  have := id_range h1
  have := id_range h2
  constructor
  · unfold pairS
    rw [if_pos h, show putS a 4 = putS a (4 : Nat) from rfl, show putS b 4 = putS b (4 : Nat) from rfl, put_rec (fits_nat (by omega) (by omega) (by omega)), put_rec (fits_nat (by omega) (by omega) (by omega)), bs_app]
    rfl
  · unfold pairF recFit recFit recFit
    refine ⟨show _ < 256 ^ 4 by omega, show _ < 256 ^ 4 by omega, trivial⟩
theorem pair_backs {a b : Int} (h : pairB a b = true) : gpairB (pairS a b) = true ∧ gpairX (pairS a b) = a ∧ gpairY (pairS a b) = b ∧ (pairS a b).size = 8 := by
  obtain ⟨h1, h2, _⟩ := pair_parts h
  have i1 := id_range h1
  have i2 := id_range h2
  obtain ⟨hr, _⟩ := pair_rec h
  have hz : (pairS a b).size = 8 := by rw [hr, rec_size]; rfl
  have g0 : getB (pairS a b) 0 4 = true ∧ getN (pairS a b) 0 4 = _ := field_get (s := pairS a b) [] 4 _ [(4, b.toNat)] hr (a := 0) (b := 4) rfl rfl (by omega) (by omega) (by omega)
  have g4 : getB (pairS a b) 4 4 = true ∧ getN (pairS a b) 4 4 = _ := field_get (s := pairS a b) [(4, a.toNat)] 4 _ [] hr (a := 4) (b := 4) rfl rfl (by omega) (by omega) (by omega)
  have e0 : getN (pairS a b) 0 4 = a := by rw [g0.2]; omega
  have e4 : getN (pairS a b) 4 4 = b := by rw [g4.2]; omega
  have hb : gpairB (pairS a b) = true := by unfold gpairB; rw [hz, e0, e4, h]; rfl
  refine ⟨hb, ?_, ?_, hz⟩
  · unfold gpairX; rw [if_pos hb, e0]
  · unfold gpairY; rw [if_pos hb, e4]
def pairLess (a b a' b' : Int) : Bool := decide (a < a') || (decide (a = a') && decide (b < b'))
theorem pair_less {a b a' b' : Int} (h : pairB a b = true) (h' : pairB a' b' = true) : Op.bytesLess (pairS a b).toList (pairS a' b').toList = pairLess a b a' b' := by
  obtain ⟨h1, h2, _⟩ := pair_parts h
  obtain ⟨k1, k2, _⟩ := pair_parts h'
  obtain ⟨r1, f1⟩ := pair_rec h
  obtain ⟨r2, f2⟩ := pair_rec h'
  rw [r1, r2, bs_less, rec_less (f := pairF a b) (g := pairF a' b') rfl f1 f2]
  unfold pairF pairLess
  simp only [recLess, Bool.and_false, Bool.or_false]
  rw [lt_iff (id_range h1).1 (id_range k1).1, eq_iff14 (id_range h1).1 (id_range k1).1, lt_iff (id_range h2).1 (id_range k2).1]
def edgeF (f d i : Int) (nw : Bool) : List (Nat × Nat) := [(4, f.toNat), (8, d.toNat), (4, i.toNat), (1, (newN nw).toNat)]
theorem edge_parts {f d i : Int} (h : edgeB f d i = true) : idB f = true ∧ idB i = true ∧ 0 ≤ d ∧ d ≤ 4611686018427387904 := by
  unfold edgeB at h
  simp only [Bool.and_eq_true, decide_eq_true_eq] at h
  exact ⟨h.1, h.2.1, h.2.2.1, h.2.2.2⟩
theorem newN_le (nw : Bool) : 0 ≤ newN nw ∧ newN nw ≤ 1 := by cases nw <;> decide
theorem edge_rec {f d i : Int} (nw : Bool) (h : edgeB f d i = true) : edgeS f d i nw = bs (recL (edgeF f d i nw)) ∧ recFit (edgeF f d i nw) := by
  obtain ⟨h1, h2, h3, h4⟩ := edge_parts h
  have := id_range h1
  have := id_range h2
  have := newN_le nw
  constructor
  · unfold edgeS
    rw [if_pos h, show putS f 4 = putS f (4 : Nat) from rfl, show putS d 8 = putS d (8 : Nat) from rfl, show putS i 4 = putS i (4 : Nat) from rfl, show putS (newN nw) 1 = putS (newN nw) (1 : Nat) from rfl,
      put_rec (fits_nat (by omega) (by omega) (by omega)), put_rec (fits_nat (by omega) (by omega) (by omega)), put_rec (fits_nat (by omega) (by omega) (by omega)), put_rec (fits_nat (by omega) (by omega) (by omega)), bs_app, bs_app, bs_app]
    simp only [recL, edgeF, List.append_nil, List.append_assoc]
  · unfold edgeF recFit recFit recFit recFit recFit
    refine ⟨show _ < 256 ^ 4 by omega, show _ < 256 ^ 8 by omega, show _ < 256 ^ 4 by omega, show _ < 256 ^ 1 by omega, trivial⟩
theorem edge_backs {f d i : Int} (nw : Bool) (h : edgeB f d i = true) :
    gedgeB (edgeS f d i nw) = true ∧ gedgeF (edgeS f d i nw) = f ∧ gedgeD (edgeS f d i nw) = d ∧ gedgeI (edgeS f d i nw) = i ∧ gedgeW (edgeS f d i nw) = nw ∧ (edgeS f d i nw).size = 17 := by
  obtain ⟨h1, h2, h3, h4⟩ := edge_parts h
  have i1 := id_range h1
  have i2 := id_range h2
  have i3 := newN_le nw
  obtain ⟨hr, _⟩ := edge_rec nw h
  have hz : (edgeS f d i nw).size = 17 := by rw [hr, rec_size]; rfl
  have g0 : getB (edgeS f d i nw) 0 4 = true ∧ getN (edgeS f d i nw) 0 4 = _ := field_get (s := edgeS f d i nw) [] 4 _ [(8, d.toNat), (4, i.toNat), (1, (newN nw).toNat)] hr (a := 0) (b := 4) rfl rfl (by omega) (by omega) (by omega)
  have g4 : getB (edgeS f d i nw) 4 8 = true ∧ getN (edgeS f d i nw) 4 8 = _ := field_get (s := edgeS f d i nw) [(4, f.toNat)] 8 _ [(4, i.toNat), (1, (newN nw).toNat)] hr (a := 4) (b := 8) rfl rfl (by omega) (by omega) (by omega)
  have g12 : getB (edgeS f d i nw) 12 4 = true ∧ getN (edgeS f d i nw) 12 4 = _ := field_get (s := edgeS f d i nw) [(4, f.toNat), (8, d.toNat)] 4 _ [(1, (newN nw).toNat)] hr (a := 12) (b := 4) rfl rfl (by omega) (by omega) (by omega)
  have g16 : getB (edgeS f d i nw) 16 1 = true ∧ getN (edgeS f d i nw) 16 1 = _ := field_get (s := edgeS f d i nw) [(4, f.toNat), (8, d.toNat), (4, i.toNat)] 1 _ [] hr (a := 16) (b := 1) rfl rfl (by omega) (by omega) (by omega)
  have e0 : getN (edgeS f d i nw) 0 4 = f := by rw [g0.2]; omega
  have e4 : getN (edgeS f d i nw) 4 8 = d := by rw [g4.2]; omega
  have e12 : getN (edgeS f d i nw) 12 4 = i := by rw [g12.2]; omega
  have e16 : getN (edgeS f d i nw) 16 1 = newN nw := by rw [g16.2]; omega
  have hb : gedgeB (edgeS f d i nw) = true := by
    unfold gedgeB
    rw [hz, g4.1, e0, e4, e12, e16, h, decide_eq_true i3.2]; rfl
  refine ⟨hb, ?_, ?_, ?_, ?_, hz⟩
  · unfold gedgeF; rw [if_pos hb, e0]
  · unfold gedgeD; rw [if_pos hb, e4]
  · unfold gedgeI; rw [if_pos hb, e12]
  · unfold gedgeW; rw [hb, e16]; cases nw <;> rfl
theorem edge_less {f d i f' d' i' : Int} (nw nw' : Bool) (h : edgeB f d i = true) (h' : edgeB f' d' i' = true) : Op.bytesLess (edgeS f d i nw).toList (edgeS f' d' i' nw').toList = edgeLess f d i nw f' d' i' nw' := by
  obtain ⟨h1, h2, h3, _⟩ := edge_parts h
  obtain ⟨k1, k2, k3, _⟩ := edge_parts h'
  obtain ⟨r1, f1⟩ := edge_rec nw h
  obtain ⟨r2, f2⟩ := edge_rec nw' h'
  rw [r1, r2, bs_less, rec_less (f := edgeF f d i nw) (g := edgeF f' d' i' nw') rfl f1 f2]
  unfold edgeF edgeLess
  simp only [recLess, Bool.and_false, Bool.or_false]
  rw [lt_iff (id_range h1).1 (id_range k1).1, eq_iff14 (id_range h1).1 (id_range k1).1, lt_iff h3 k3, eq_iff14 h3 k3, lt_iff (id_range h2).1 (id_range k2).1, eq_iff14 (id_range h2).1 (id_range k2).1]
  have e : decide ((newN nw).toNat < (newN nw').toNat) = (!nw && nw') := by cases nw <;> cases nw' <;> rfl
  rw [e]
  by_cases q1 : f = f'
  · subst q1
    by_cases q2 : d = d'
    · subst q2
      by_cases q3 : i = i'
      · subst q3; simp
      · simp [q3]
    · simp [q2]
  · simp [q1]
def drawF (o k l i : Int) : List (Nat × Nat) := [(4, o.toNat), (1, k.toNat), (8, l.toNat), (4, i.toNat)]
theorem draw_parts {o k l i : Int} (h : drawB o k l i = true) : idB o = true ∧ idB i = true ∧ (0 ≤ k ∧ k ≤ 255) ∧ 0 ≤ l := by
  unfold drawB at h
  simp only [Bool.and_eq_true, decide_eq_true_eq] at h
  exact ⟨h.1, h.2.1, h.2.2.1, h.2.2.2⟩
theorem draw_rec {o k l i : Int} (hl : I64 l) (h : drawB o k l i = true) : drawS o k l i = bs (recL (drawF o k l i)) ∧ recFit (drawF o k l i) := by
  obtain ⟨h1, h2, h3, h4⟩ := draw_parts h
  have := id_range h1
  have := id_range h2
  unfold I64 at hl
  constructor
  · unfold drawS
    rw [if_pos h, show putS o 4 = putS o (4 : Nat) from rfl, show putS k 1 = putS k (1 : Nat) from rfl, show putS l 8 = putS l (8 : Nat) from rfl, show putS i 4 = putS i (4 : Nat) from rfl,
      put_rec (fits_nat (by omega) (by omega) (by omega)), put_rec (fits_nat (by omega) (by omega) (by omega)), put_rec (fits_nat (by omega) (by omega) (by omega)), put_rec (fits_nat (by omega) (by omega) (by omega)), bs_app, bs_app, bs_app]
    simp only [recL, drawF, List.append_nil, List.append_assoc]
  · unfold drawF recFit recFit recFit recFit recFit
    refine ⟨show _ < 256 ^ 4 by omega, show _ < 256 ^ 1 by omega, show _ < 256 ^ 8 by omega, show _ < 256 ^ 4 by omega, trivial⟩
theorem draw_backs {o k l i : Int} (hl : I64 l) (h : drawB o k l i = true) :
    gdrawB (drawS o k l i) = true ∧ gdrawO (drawS o k l i) = o ∧ gdrawK (drawS o k l i) = k ∧ gdrawL (drawS o k l i) = l ∧ gdrawI (drawS o k l i) = i ∧ (drawS o k l i).size = 17 := by
  obtain ⟨h1, h2, h3, h4⟩ := draw_parts h
  have i1 := id_range h1
  have i2 := id_range h2
  obtain ⟨hr, _⟩ := draw_rec hl h
  have hl2 := hl
  unfold I64 at hl2
  have hz : (drawS o k l i).size = 17 := by rw [hr, rec_size]; rfl
  have g0 : getB (drawS o k l i) 0 4 = true ∧ getN (drawS o k l i) 0 4 = _ := field_get (s := drawS o k l i) [] 4 _ [(1, k.toNat), (8, l.toNat), (4, i.toNat)] hr (a := 0) (b := 4) rfl rfl (by omega) (by omega) (by omega)
  have g4 : getB (drawS o k l i) 4 1 = true ∧ getN (drawS o k l i) 4 1 = _ := field_get (s := drawS o k l i) [(4, o.toNat)] 1 _ [(8, l.toNat), (4, i.toNat)] hr (a := 4) (b := 1) rfl rfl (by omega) (by omega) (by omega)
  have g5 : getB (drawS o k l i) 5 8 = true ∧ getN (drawS o k l i) 5 8 = _ := field_get (s := drawS o k l i) [(4, o.toNat), (1, k.toNat)] 8 _ [(4, i.toNat)] hr (a := 5) (b := 8) rfl rfl (by omega) (by omega) (by omega)
  have g13 : getB (drawS o k l i) 13 4 = true ∧ getN (drawS o k l i) 13 4 = _ := field_get (s := drawS o k l i) [(4, o.toNat), (1, k.toNat), (8, l.toNat)] 4 _ [] hr (a := 13) (b := 4) rfl rfl (by omega) (by omega) (by omega)
  have e0 : getN (drawS o k l i) 0 4 = o := by rw [g0.2]; omega
  have e4 : getN (drawS o k l i) 4 1 = k := by rw [g4.2]; omega
  have e5 : getN (drawS o k l i) 5 8 = l := by rw [g5.2]; omega
  have e13 : getN (drawS o k l i) 13 4 = i := by rw [g13.2]; omega
  have hb : gdrawB (drawS o k l i) = true := by
    unfold gdrawB
    rw [hz, g5.1, e0, e13, h1, h2]; rfl
  refine ⟨hb, ?_, ?_, ?_, ?_, hz⟩
  · unfold gdrawO; rw [if_pos hb, e0]
  · unfold gdrawK; rw [if_pos hb, e4]
  · unfold gdrawL; rw [if_pos hb, e5]
  · unfold gdrawI; rw [if_pos hb, e13]
def drawLess (o k l i o' k' l' i' : Int) : Bool := if o = o' then (if k = k' then (if l = l' then decide (i < i') else decide (l < l')) else decide (k < k')) else decide (o < o')
theorem draw_less {o k l i o' k' l' i' : Int} (hl : I64 l) (hl' : I64 l') (h : drawB o k l i = true) (h' : drawB o' k' l' i' = true) : Op.bytesLess (drawS o k l i).toList (drawS o' k' l' i').toList = drawLess o k l i o' k' l' i' := by
  obtain ⟨h1, h2, h3, h4⟩ := draw_parts h
  obtain ⟨k1, k2, k3, k4⟩ := draw_parts h'
  obtain ⟨r1, f1⟩ := draw_rec hl h
  obtain ⟨r2, f2⟩ := draw_rec hl' h'
  rw [r1, r2, bs_less, rec_less (f := drawF o k l i) (g := drawF o' k' l' i') rfl f1 f2]
  unfold drawF drawLess
  simp only [recLess, Bool.and_false, Bool.or_false]
  rw [lt_iff (id_range h1).1 (id_range k1).1, eq_iff14 (id_range h1).1 (id_range k1).1, lt_iff h3.1 k3.1, eq_iff14 h3.1 k3.1, lt_iff h4 k4, eq_iff14 h4 k4, lt_iff (id_range h2).1 (id_range k2).1]
  by_cases q1 : o = o'
  · subst q1
    by_cases q2 : k = k'
    · subst q2
      by_cases q3 : l = l'
      · subst q3; simp
      · simp [q3]
    · simp [q2]
  · simp [q1]
end Go.Proofs.Ytnmddnhllfojeaa
