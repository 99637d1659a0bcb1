/- What the least is: no other head is less; rising lists merged, by counts; plain. -/
import Derived.Test.YtifpiekajbcoiaaLoPlain
import Derived.Lib.Strings
namespace Go.Proofs.Ytifpiekajbcoiaa
open Go.RowKit
set_option linter.unusedVariables false
set_option linter.unusedSimpArgs false
set_option maxRecDepth 20000
namespace LoPlain
theorem bl_irrefl : ∀ a : List UInt8, Op.bytesLess a a = false
  | [] => rfl
  | x :: r => by
    have h := bl_irrefl r
    simp [Op.bytesLess, h]
theorem bl_trans : ∀ {a b c : List UInt8}, Op.bytesLess a b = true → Op.bytesLess b c = true → Op.bytesLess a c = true
  | _, _, [], _, h => by cases ‹List UInt8› <;> simp [Op.bytesLess] at h
  | _, [], _ :: _, h, _ => by cases ‹List UInt8› <;> simp [Op.bytesLess] at h
  | [], _ :: _, _ :: _, _, _ => rfl
  | x :: a, y :: b, z :: c, h, k => by
    simp only [Op.bytesLess, Bool.or_eq_true, Bool.and_eq_true, decide_eq_true_eq, beq_iff_eq] at h k ⊢
    rcases h with h | ⟨rfl, h⟩
    · rcases k with k | ⟨rfl, k⟩
      · exact .inl (UInt8.lt_trans h k)
      · exact .inl h
    · rcases k with k | ⟨rfl, k⟩
      · exact .inl k
      · exact .inr ⟨rfl, bl_trans h k⟩
theorem lt_irrefl15 (a : ByteArray) : ltS a a = false := bl_irrefl _
theorem lt_trans15 {a b c : ByteArray} (h : ltS a b = true) (k : ltS b c = true) : ltS a c = true := bl_trans h k
theorem best_some (l : List Hd) : ∀ j i, i < j → oAt l i = false → 0 ≤ bestN l j
  | j + 1, i, hi, ho => by
    rw [bestN]
    split
    · omega
    · rename_i hc
      rcases Nat.lt_or_ge i j with h | h
      · exact best_some l j i h ho
      · obtain rfl : i = j := by omega
        have hr := bestN_range l i
        by_cases hb : bestN l i < 0
        · exact absurd (by rw [ho, decide_eq_true hb]; rfl) hc
        · omega
theorem best_min (l : List Hd) : ∀ j, 0 ≤ bestN l j → ∀ i, i < j → oAt l i = false → ltS (sAt l i) (sAt l (bestN l j).toNat) = false
  | 0, _, i, hi, _ => by omega
  | j + 1, h, i, hi, ho => by
    rw [bestN] at h ⊢
    split at h
    · rename_i hc
      rw [if_pos hc, Int.toNat_natCast]
      simp only [Bool.and_eq_true, Bool.or_eq_true, Bool.not_eq_true', decide_eq_true_eq] at hc
      rcases Nat.lt_or_ge i j with hij | hij
      · rcases hc.2 with hb | hb
        · have := best_some l j i hij ho; omega
        · have hr := bestN_range l j
          by_cases h0 : 0 ≤ bestN l j
          · have h1 := best_min l j h0 i hij ho
            cases h2 : ltS (sAt l i) (sAt l j)
            · rfl
            · rw [lt_trans15 h2 hb] at h1; cases h1
          · have := best_some l j i hij ho; omega
      · obtain rfl : i = j := by omega
        exact lt_irrefl15 _
    · rename_i hc
      rw [if_neg hc]
      rcases Nat.lt_or_ge i j with hij | hij
      · exact best_min l j h i hij ho
      · obtain rfl : i = j := by omega
        simp only [Bool.and_eq_true, Bool.or_eq_true, Bool.not_eq_true', decide_eq_true_eq, not_and, not_or] at hc
        have := (hc ho).2
        simpa using this
theorem least_some {l : List Hd} {i : Nat} (hi : i < l.length) (ho : oAt l i = false) : leastB l = true := by
  unfold leastB leastN
  rw [decide_eq_true_iff]
  exact best_some l _ i hi ho
theorem least_min {l : List Hd} (h : leastB l = true) {i : Nat} (hi : i < l.length) (ho : oAt l i = false) : ltS (sAt l i) (sAt l (leastN l).toNat) = false := by
  unfold leastB leastN at h
  rw [decide_eq_true_iff] at h
  exact best_min l _ h i hi ho
theorem least_on {l : List Hd} (h : leastB l = true) : oAt l (leastN l).toNat = false := by
  unfold leastB leastN at h
  rw [decide_eq_true_iff] at h
  exact bestN_on l _ h
/-- A number as two bytes. -/
def textS (n : Nat) : ByteArray := bs [UInt8.ofNat (n / 256), UInt8.ofNat (n % 256)]
theorem bs_list15 (f : List UInt8) : (bs f).toList = f := by
  rw [Lib.toList_data]; rfl
theorem text_less {m n : Nat} (hm : m < 65536) (hn : n < 65536) : ltS (textS m) (textS n) = decide (m < n) := by
  unfold ltS textS
  rw [bs_list15, bs_list15]
  have k : ∀ a b : Nat, a < 256 → b < 256 → ((UInt8.ofNat a < UInt8.ofNat b) ↔ a < b) ∧ ((UInt8.ofNat a = UInt8.ofNat b) ↔ a = b) := by
    intro a b ha hb
    have h1 : (UInt8.ofNat a).toNat = a := by simp; omega
    have h2 : (UInt8.ofNat b).toNat = b := by simp; omega
    refine ⟨by rw [UInt8.lt_iff_toNat_lt, h1, h2], ⟨fun h => by rw [← h1, ← h2, h], fun h => by rw [h]⟩⟩
  obtain ⟨l1, e1⟩ := k (m / 256) (n / 256) (by omega) (by omega)
  obtain ⟨l2, e2⟩ := k (m % 256) (n % 256) (by omega) (by omega)
  apply Bool.eq_iff_iff.2
  simp only [Op.bytesLess, Bool.or_eq_true, Bool.and_eq_true, decide_eq_true_eq, beq_iff_eq, Bool.and_false, Bool.or_false, l1, e1, l2, e2]
  omega
/-- Sums from the front on. -/
def vals (x : List Nat) : List Nat := (List.range x.length).map fun k => (x.take (k + 1)).sum
theorem vals_length (x : List Nat) : (vals x).length = x.length := by simp [vals]
theorem vals_at {x : List Nat} {k : Nat} (h : k < x.length) : (vals x)[k]? = some (x.take (k + 1)).sum := by simp [vals, h]
theorem sum_snoc (x : List Nat) {k b : Nat} (h : x[k]? = some b) : (x.take (k + 1)).sum = (x.take k).sum + b := by
  rw [List.take_add_one, h]; simp
theorem sum_le (x : List Nat) (k : Nat) (h : ∀ b ∈ x, b ≤ 255) : (x.take k).sum ≤ 255 * k := by
  induction k with
  | zero => simp
  | succ k ih =>
    rcases Nat.lt_or_ge k x.length with hk | hk
    · have e : x[k]? = some x[k] := List.getElem?_eq_getElem hk
      rw [sum_snoc x e]
      have := h _ (List.getElem_mem hk)
      omega
    · rw [List.take_of_length_le (by omega)]
      rw [List.take_of_length_le (by omega)] at ih
      omega
theorem vals_le {x : List Nat} (h : ∀ b ∈ x, b ≤ 255) (hl : x.length ≤ 12) : ∀ v ∈ vals x, v ≤ 3060 := by
  intro v hv
  simp only [vals, List.mem_map, List.mem_range] at hv
  obtain ⟨k, hk, rfl⟩ := hv
  have := sum_le x (k + 1) h
  omega
theorem vals_rise {x : List Nat} {j k : Nat} (hjk : j ≤ k) (hk : k < x.length) : (x.take (j + 1)).sum ≤ (x.take (k + 1)).sum := by
  induction k with
  | zero => have : j = 0 := by omega
            subst this; exact Nat.le_refl _
  | succ k ih =>
    rcases Nat.lt_or_ge j (k + 1) with h | h
    · have e : x[k + 1]? = some x[k + 1] := List.getElem?_eq_getElem hk
      have := sum_snoc x e
      have := ih (by omega) (by omega)
      omega
    · have : j = k + 1 := by omega
      subst this; exact Nat.le_refl _
theorem vals_snoc {x : List Nat} {k : Nat} (h : k < x.length) : (vals x).take (k + 1) = (vals x).take k ++ [(x.take (k + 1)).sum] := by
  rw [List.take_add_one, vals_at h]; rfl
theorem vals_drop {x : List Nat} {a : Nat} (h : a < x.length) : (vals x).drop a = (x.take (a + 1)).sum :: (vals x).drop (a + 1) := by
  have h1 : a < (vals x).length := by rw [vals_length]; exact h
  rw [List.drop_eq_getElem_cons h1]
  congr 1
  have := vals_at h
  rw [List.getElem?_eq_getElem h1] at this
  exact Option.some.inj this
theorem drop_ge {x : List Nat} {a : Nat} (h : a < x.length) : ∀ v ∈ (vals x).drop a, (x.take (a + 1)).sum ≤ v := by
  intro v hv
  obtain ⟨i, hi, rfl⟩ := List.mem_iff_getElem.1 hv
  rw [List.getElem_drop]
  have hlen : a + i < x.length := by rw [List.length_drop, vals_length] at hi; omega
  have := vals_at hlen
  rw [List.getElem?_eq_getElem (by rw [vals_length]; exact hlen)] at this
  rw [Option.some.inj this]
  exact vals_rise (by omega) hlen
/-- How often each number is there. -/
def cntL (m : List Nat) : List Int := (List.range 4096).map fun v => ((m.count v : Nat) : Int)
theorem cnt_length (m : List Nat) : (cntL m).length = 4096 := by simp [cntL]
theorem cnt_at (m : List Nat) {v : Nat} (h : v < 4096) : (cntL m)[v]? = some ((m.count v : Nat) : Int) := by simp [cntL, h]
theorem cnt_perm {m m' : List Nat} (h : m.Perm m') : cntL m = cntL m' := by
  unfold cntL
  congr 1
  funext v
  rw [h.count_eq]
theorem cnt_cons (m : List Nat) {v : Nat} (h : v < 4096) : (cntL m).set v (((m.count v : Nat) : Int) + 1) = cntL (v :: m) := by
  apply List.ext_getElem?
  intro i
  rw [List.getElem?_set, cnt_length]
  by_cases hiv : v = i
  · subst hiv
    rw [if_pos rfl, if_pos h, cnt_at _ h, List.count_cons_self]
    rfl
  · rw [if_neg hiv]
    by_cases hi : i < 4096
    · rw [cnt_at _ hi, cnt_at _ hi, List.count_cons_of_ne hiv]
    · rw [List.getElem?_eq_none (by rw [cnt_length]; omega), List.getElem?_eq_none (by rw [cnt_length]; omega)]
theorem cnt_pop (m : List Nat) {v : Nat} (h : v < 4096) : (cntL (v :: m)).set v ((((v :: m).count v : Nat) : Int) - 1) = cntL m := by
  apply List.ext_getElem?
  intro i
  rw [List.getElem?_set, cnt_length]
  by_cases hiv : v = i
  · subst hiv
    rw [if_pos rfl, if_pos h, cnt_at _ h, List.count_cons_self]
    congr 1
    omega
  · rw [if_neg hiv]
    by_cases hi : i < 4096
    · rw [cnt_at _ hi, cnt_at _ hi, List.count_cons_of_ne hiv]
    · rw [List.getElem?_eq_none (by rw [cnt_length]; omega), List.getElem?_eq_none (by rw [cnt_length]; omega)]
/-- What is left of each list. -/
def restL (X : List (List Nat)) (A : List Nat) : List (List Nat) := List.zipWith (fun x a => (vals x).drop a) X A
theorem rest_at {X : List (List Nat)} {A : List Nat} {i : Nat} {x : List Nat} {a : Nat} (h : X[i]? = some x) (k : A[i]? = some a) : (restL X A)[i]? = some ((vals x).drop a) := by
  unfold restL
  rw [List.getElem?_zipWith, h, k]
theorem flat_pop : ∀ {R : List (List Nat)} {i v : Nat} {t : List Nat}, R[i]? = some (v :: t) → R.flatten.Perm (v :: (R.set i t).flatten)
  | r :: R, 0, v, t, h => by
    simp at h
    subst h
    simp
  | r :: R, i + 1, v, t, h => by
    have ih := flat_pop (R := R) (i := i) (v := v) (t := t) (by simpa using h)
    simp only [List.flatten_cons, List.set_cons_succ]
    exact (List.Perm.append_left r ih).trans List.perm_middle
theorem rest_set : ∀ {X : List (List Nat)} {A : List Nat} {i : Nat} {x : List Nat} {a : Nat}, X[i]? = some x → restL X (A.set i a) = (restL X A).set i ((vals x).drop a)
  | [], _, i, x, a, h => by simp at h
  | x' :: X, [], i, x, a, h => by simp [restL]
  | x' :: X, a' :: A, 0, x, a, h => by
    simp at h; subst h; rfl
  | x' :: X, a' :: A, i + 1, x, a, h => by
    have ih := rest_set (X := X) (A := A) (i := i) (x := x) (a := a) (by simpa using h)
    simp only [List.set_cons_succ]
    show (vals x').drop a' :: restL X (A.set i a) = (vals x').drop a' :: (restL X A).set i ((vals x).drop a)
    rw [ih]
theorem rest_zero (X : List (List Nat)) : restL X (List.replicate X.length 0) = X.map vals := by
  induction X with
  | nil => rfl
  | cons x X ih =>
    simp only [List.length_cons, List.replicate_succ]
    show (vals x).drop 0 :: restL X (List.replicate X.length 0) = _
    rw [ih]; rfl
theorem flat_mem {R : List (List Nat)} {v : Nat} (h : v ∈ R.flatten) : ∃ (i : Nat) (r : List Nat), R[i]? = some r ∧ v ∈ r := by
  obtain ⟨r, hr, hv⟩ := List.mem_flatten.1 h
  obtain ⟨i, hi, rfl⟩ := List.mem_iff_getElem.1 hr
  exact ⟨i, _, List.getElem?_eq_getElem hi, hv⟩
end LoPlain
end Go.Proofs.Ytifpiekajbcoiaa
