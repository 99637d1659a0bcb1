/- In one text: LoFact, RnFact. -/
import Derived.Test.YtdlomcgkpiejgaaGreatDoorP16
import Derived.Lib.Strings
import Derived.WalkKit
import Derived.ProofKit
import Derived.Handy
/- What the least is: no other head is less; rising lists merged, by counts; plain. -/
namespace Go.Proofs.YtdlomcgkpiejgaaGreatDoor
open Go.RowKit
set_option linter.unusedVariables false
set_option linter.unusedSimpArgs false
set_option maxRecDepth 20000
namespace LoPlain
theorem bl_irrefl : ∀ a : List UInt8, Op.bytesLess a a = false
  | [] => rfl
  | x :: r => by
    have h := bl_irrefl r
    simp [Op.bytesLess, h]
theorem bl_trans : ∀ {a b c : List UInt8}, Op.bytesLess a b = true → Op.bytesLess b c = true → Op.bytesLess a c = true
  | _, _, [], _, h => by cases ‹List UInt8› <;> simp [Op.bytesLess] at h
  | _, [], _ :: _, h, _ => by cases ‹List UInt8› <;> simp [Op.bytesLess] at h
  | [], _ :: _, _ :: _, _, _ => rfl
  | x :: a, y :: b, z :: c, h, k => by
    simp only [Op.bytesLess, Bool.or_eq_true, Bool.and_eq_true, decide_eq_true_eq, beq_iff_eq] at h k ⊢
    rcases h with h | ⟨rfl, h⟩
    · rcases k with k | ⟨rfl, k⟩
      · exact .inl (UInt8.lt_trans h k)
      · exact .inl h
    · rcases k with k | ⟨rfl, k⟩
      · exact .inl k
      · exact .inr ⟨rfl, bl_trans h k⟩
theorem lt_irrefl15 (a : ByteArray) : ltS a a = false := bl_irrefl _
theorem lt_trans15 {a b c : ByteArray} (h : ltS a b = true) (k : ltS b c = true) : ltS a c = true := bl_trans h k
theorem best_some (l : List Hd) : ∀ j i, i < j → oAt l i = false → 0 ≤ bestN l j
  | j + 1, i, hi, ho => by
    rw [bestN]
    split
    · omega
    · rename_i hc
      rcases Nat.lt_or_ge i j with h | h
      · exact best_some l j i h ho
      · obtain rfl : i = j := by omega
        have hr := bestN_range l i
        by_cases hb : bestN l i < 0
        · exact absurd (by rw [ho, decide_eq_true hb]; rfl) hc
        · omega
theorem best_min (l : List Hd) : ∀ j, 0 ≤ bestN l j → ∀ i, i < j → oAt l i = false → ltS (sAt l i) (sAt l (bestN l j).toNat) = false
  | 0, _, i, hi, _ => by omega
  | j + 1, h, i, hi, ho => by
    rw [bestN] at h ⊢
    split at h
    · rename_i hc
      rw [if_pos hc, Int.toNat_natCast]
      simp only [Bool.and_eq_true, Bool.or_eq_true, Bool.not_eq_true', decide_eq_true_eq] at hc
      rcases Nat.lt_or_ge i j with hij | hij
      · rcases hc.2 with hb | hb
        · have := best_some l j i hij ho; omega
        · have hr := bestN_range l j
          by_cases h0 : 0 ≤ bestN l j
          · have h1 := best_min l j h0 i hij ho
            cases h2 : ltS (sAt l i) (sAt l j)
            · rfl
            · rw [lt_trans15 h2 hb] at h1; cases h1
          · have := best_some l j i hij ho; omega
      · obtain rfl : i = j := by omega
        exact lt_irrefl15 _
    · rename_i hc
      rw [if_neg hc]
      rcases Nat.lt_or_ge i j with hij | hij
      · exact best_min l j h i hij ho
      · obtain rfl : i = j := by omega
        simp only [Bool.and_eq_true, Bool.or_eq_true, Bool.not_eq_true', decide_eq_true_eq, not_and, not_or] at hc
        have := (hc ho).2
        simpa using this
theorem least_some {l : List Hd} {i : Nat} (hi : i < l.length) (ho : oAt l i = false) : leastB l = true := by
  unfold leastB leastN
  rw [decide_eq_true_iff]
  exact best_some l _ i hi ho
theorem least_min {l : List Hd} (h : leastB l = true) {i : Nat} (hi : i < l.length) (ho : oAt l i = false) : ltS (sAt l i) (sAt l (leastN l).toNat) = false := by
  unfold leastB leastN at h
  rw [decide_eq_true_iff] at h
  exact best_min l _ h i hi ho
theorem least_on {l : List Hd} (h : leastB l = true) : oAt l (leastN l).toNat = false := by
  unfold leastB leastN at h
  rw [decide_eq_true_iff] at h
  exact bestN_on l _ h
/-- A number as two bytes. -/
def textS (n : Nat) : ByteArray := bs [UInt8.ofNat (n / 256), UInt8.ofNat (n % 256)]
theorem bs_list15 (f : List UInt8) : (bs f).toList = f := by
  rw [Lib.toList_data]; rfl
theorem text_less {m n : Nat} (hm : m < 65536) (hn : n < 65536) : ltS (textS m) (textS n) = decide (m < n) := by
  unfold ltS textS
  rw [bs_list15, bs_list15]
  have k : ∀ a b : Nat, a < 256 → b < 256 → ((UInt8.ofNat a < UInt8.ofNat b) ↔ a < b) ∧ ((UInt8.ofNat a = UInt8.ofNat b) ↔ a = b) := by
    intro a b ha hb
    have h1 : (UInt8.ofNat a).toNat = a := by simp; omega
    have h2 : (UInt8.ofNat b).toNat = b := by simp; omega
    refine ⟨by rw [UInt8.lt_iff_toNat_lt, h1, h2], ⟨fun h => by rw [← h1, ← h2, h], fun h => by rw [h]⟩⟩
  obtain ⟨l1, e1⟩ := k (m / 256) (n / 256) (by omega) (by omega)
  obtain ⟨l2, e2⟩ := k (m % 256) (n % 256) (by omega) (by omega)
  apply Bool.eq_iff_iff.2
  simp only [Op.bytesLess, Bool.or_eq_true, Bool.and_eq_true, decide_eq_true_eq, beq_iff_eq, Bool.and_false, Bool.or_false, l1, e1, l2, e2]
  omega
/-- Sums from the front on. -/
def vals (x : List Nat) : List Nat := (List.range x.length).map fun k => (x.take (k + 1)).sum
theorem vals_length (x : List Nat) : (vals x).length = x.length := by simp [vals]
theorem vals_at {x : List Nat} {k : Nat} (h : k < x.length) : (vals x)[k]? = some (x.take (k + 1)).sum := by simp [vals, h]
theorem sum_snoc (x : List Nat) {k b : Nat} (h : x[k]? = some b) : (x.take (k + 1)).sum = (x.take k).sum + b := by
  rw [List.take_add_one, h]; simp
theorem sum_le (x : List Nat) (k : Nat) (h : ∀ b ∈ x, b ≤ 255) : (x.take k).sum ≤ 255 * k := by
  induction k with
  | zero => simp
  | succ k ih =>
    rcases Nat.lt_or_ge k x.length with hk | hk
    · have e : x[k]? = some x[k] := List.getElem?_eq_getElem hk
      rw [sum_snoc x e]
      have := h _ (List.getElem_mem hk)
      omega
    · rw [List.take_of_length_le (by omega)]
      rw [List.take_of_length_le (by omega)] at ih
      omega
theorem vals_le {x : List Nat} (h : ∀ b ∈ x, b ≤ 255) (hl : x.length ≤ 12) : ∀ v ∈ vals x, v ≤ 3060 := by
  intro v hv
  simp only [vals, List.mem_map, List.mem_range] at hv
  obtain ⟨k, hk, rfl⟩ := hv
  have := sum_le x (k + 1) h
  omega
theorem vals_rise {x : List Nat} {j k : Nat} (hjk : j ≤ k) (hk : k < x.length) : (x.take (j + 1)).sum ≤ (x.take (k + 1)).sum := by
  induction k with
  | zero => have : j = 0 := by omega
            subst this; exact Nat.le_refl _
  | succ k ih =>
    rcases Nat.lt_or_ge j (k + 1) with h | h
    · have e : x[k + 1]? = some x[k + 1] := List.getElem?_eq_getElem hk
      have := sum_snoc x e
      have := ih (by omega) (by omega)
      omega
    · have : j = k + 1 := by omega
      subst this; exact Nat.le_refl _
theorem vals_snoc {x : List Nat} {k : Nat} (h : k < x.length) : (vals x).take (k + 1) = (vals x).take k ++ [(x.take (k + 1)).sum] := by
  rw [List.take_add_one, vals_at h]; rfl
theorem vals_drop {x : List Nat} {a : Nat} (h : a < x.length) : (vals x).drop a = (x.take (a + 1)).sum :: (vals x).drop (a + 1) := by
  have h1 : a < (vals x).length := by rw [vals_length]; exact h
  rw [List.drop_eq_getElem_cons h1]
  congr 1
  have := vals_at h
  rw [List.getElem?_eq_getElem h1] at this
  exact Option.some.inj this
theorem drop_ge {x : List Nat} {a : Nat} (h : a < x.length) : ∀ v ∈ (vals x).drop a, (x.take (a + 1)).sum ≤ v := by
  intro v hv
  obtain ⟨i, hi, rfl⟩ := List.mem_iff_getElem.1 hv
  rw [List.getElem_drop]
  have hlen : a + i < x.length := by rw [List.length_drop, vals_length] at hi; omega
  have := vals_at hlen
  rw [List.getElem?_eq_getElem (by rw [vals_length]; exact hlen)] at this
  rw [Option.some.inj this]
  exact vals_rise (by omega) hlen
/-- How often each number is there. -/
def cntL (m : List Nat) : List Int := (List.range 4096).map fun v => ((m.count v : Nat) : Int)
theorem cnt_length (m : List Nat) : (cntL m).length = 4096 := by simp [cntL]
theorem cnt_at (m : List Nat) {v : Nat} (h : v < 4096) : (cntL m)[v]? = some ((m.count v : Nat) : Int) := by simp [cntL, h]
theorem cnt_perm {m m' : List Nat} (h : m.Perm m') : cntL m = cntL m' := by
  unfold cntL
  congr 1
  funext v
  rw [h.count_eq]
theorem cnt_cons (m : List Nat) {v : Nat} (h : v < 4096) : (cntL m).set v (((m.count v : Nat) : Int) + 1) = cntL (v :: m) := by
  apply List.ext_getElem?
  intro i
  rw [List.getElem?_set, cnt_length]
  by_cases hiv : v = i
  · subst hiv
    rw [if_pos rfl, if_pos h, cnt_at _ h, List.count_cons_self]
    rfl
  · rw [if_neg hiv]
    by_cases hi : i < 4096
    · rw [cnt_at _ hi, cnt_at _ hi, List.count_cons_of_ne hiv]
    · rw [List.getElem?_eq_none (by rw [cnt_length]; omega), List.getElem?_eq_none (by rw [cnt_length]; omega)]
theorem cnt_pop (m : List Nat) {v : Nat} (h : v < 4096) : (cntL (v :: m)).set v ((((v :: m).count v : Nat) : Int) - 1) = cntL m := by
  apply List.ext_getElem?
  intro i
  rw [List.getElem?_set, cnt_length]
  by_cases hiv : v = i
  · subst hiv
    rw [if_pos rfl, if_pos h, cnt_at _ h, List.count_cons_self]
    congr 1
    omega
  · rw [if_neg hiv]
    by_cases hi : i < 4096
    · rw [cnt_at _ hi, cnt_at _ hi, List.count_cons_of_ne hiv]
    · rw [List.getElem?_eq_none (by rw [cnt_length]; omega), List.getElem?_eq_none (by rw [cnt_length]; omega)]
/-- What is left of each list. -/
def restL (X : List (List Nat)) (A : List Nat) : List (List Nat) := List.zipWith (fun x a => (vals x).drop a) X A
theorem rest_at {X : List (List Nat)} {A : List Nat} {i : Nat} {x : List Nat} {a : Nat} (h : X[i]? = some x) (k : A[i]? = some a) : (restL X A)[i]? = some ((vals x).drop a) := by
  unfold restL
  rw [List.getElem?_zipWith, h, k]
theorem flat_pop : ∀ {R : List (List Nat)} {i v : Nat} {t : List Nat}, R[i]? = some (v :: t) → R.flatten.Perm (v :: (R.set i t).flatten)
  | r :: R, 0, v, t, h => by
    simp at h
    subst h
    simp
  | r :: R, i + 1, v, t, h => by
    have ih := flat_pop (R := R) (i := i) (v := v) (t := t) (by simpa using h)
    simp only [List.flatten_cons, List.set_cons_succ]
    exact (List.Perm.append_left r ih).trans List.perm_middle
theorem rest_set : ∀ {X : List (List Nat)} {A : List Nat} {i : Nat} {x : List Nat} {a : Nat}, X[i]? = some x → restL X (A.set i a) = (restL X A).set i ((vals x).drop a)
  | [], _, i, x, a, h => by simp at h
  | x' :: X, [], i, x, a, h => by simp [restL]
  | x' :: X, a' :: A, 0, x, a, h => by
    simp at h; subst h; rfl
  | x' :: X, a' :: A, i + 1, x, a, h => by
    have ih := rest_set (X := X) (A := A) (i := i) (x := x) (a := a) (by simpa using h)
    simp only [List.set_cons_succ]
    show (vals x').drop a' :: restL X (A.set i a) = (vals x').drop a' :: (restL X A).set i ((vals x).drop a)
    rw [ih]
theorem rest_zero (X : List (List Nat)) : restL X (List.replicate X.length 0) = X.map vals := by
  induction X with
  | nil => rfl
  | cons x X ih =>
    simp only [List.length_cons, List.replicate_succ]
    show (vals x).drop 0 :: restL X (List.replicate X.length 0) = _
    rw [ih]; rfl
theorem flat_mem {R : List (List Nat)} {v : Nat} (h : v ∈ R.flatten) : ∃ (i : Nat) (r : List Nat), R[i]? = some r ∧ v ∈ r := by
  obtain ⟨r, hr, hv⟩ := List.mem_flatten.1 h
  obtain ⟨i, hi, rfl⟩ := List.mem_iff_getElem.1 hr
  exact ⟨i, _, List.getElem?_eq_getElem hi, hv⟩
end LoPlain
end Go.Proofs.YtdlomcgkpiejgaaGreatDoor
/- Texts in order: whoever sorts them, they are the same; plain. -/
namespace Go.Proofs.YtdlomcgkpiejgaaGreatDoor
open Go.RowKit LoPlain
set_option linter.unusedVariables false
set_option linter.unusedSimpArgs false
set_option maxRecDepth 20000
namespace RnPlain
theorem bl_total : ∀ {a b : List UInt8}, Op.bytesLess a b = false → Op.bytesLess b a = false → a = b
  | [], [], _, _ => rfl
  | [], _ :: _, h, _ => by simp [Op.bytesLess] at h
  | _ :: _, [], _, h => by simp [Op.bytesLess] at h
  | x :: a, y :: b, h, k => by
    simp only [Op.bytesLess, Bool.or_eq_false_iff, Bool.and_eq_false_imp, decide_eq_false_iff_not, beq_iff_eq] at h k
    have hxy : x = y := by
      have h1 := h.1
      have h2 := k.1
      rw [UInt8.not_lt] at h1 h2
      exact UInt8.le_antisymm h2 h1
    subst hxy
    rw [bl_total (h.2 rfl) (k.2 rfl)]
theorem toList_inj {a b : ByteArray} (h : a.toList = b.toList) : a = b := by
  rw [Lib.toList_data, Lib.toList_data] at h
  exact ByteArray.ext (Array.toList_inj.1 h)
theorem le_iff {a b : ByteArray} : leT a b = true ↔ ltT b a = false := by
  unfold leT ltT
  simp only [Bool.or_eq_true, beq_iff_eq]
  constructor
  · rintro (h | h)
    · cases h2 : Op.bytesLess b.toList a.toList
      · rfl
      · have := bl_trans h h2
        rw [bl_irrefl] at this; cases this
    · rw [h]; exact bl_irrefl _
  · intro h
    cases h2 : Op.bytesLess a.toList b.toList
    · exact .inr (bl_total h2 h)
    · exact .inl rfl
theorem le_refl16 (a : ByteArray) : leT a a = true := by unfold leT; simp
theorem le_total {a b : ByteArray} (h : leT a b = false) : leT b a = true := by
  rw [le_iff]
  unfold leT at h
  rw [Bool.or_eq_false_iff] at h
  exact h.1
theorem le_antisymm {a b : ByteArray} (h : leT a b = true) (k : leT b a = true) : a = b := by
  rw [le_iff] at h k
  exact toList_inj (bl_total k h)
theorem le_trans {a b c : ByteArray} (h : leT a b = true) (k : leT b c = true) : leT a c = true := by
  unfold leT at h k ⊢
  simp only [Bool.or_eq_true, beq_iff_eq] at h k ⊢
  rcases h with h | h
  · rcases k with k | k
    · exact .inl (bl_trans h k)
    · exact .inl (by unfold ltT at *; rw [← k]; exact h)
  · rcases k with k | k
    · exact .inl (by unfold ltT at *; rw [h]; exact k)
    · exact .inr (h.trans k)
def Srt (l : List ByteArray) : Prop := l.Pairwise fun a b => leT a b = true
theorem insT_perm (l : List ByteArray) (s : ByteArray) : (insT l s).Perm (s :: l) := by
  unfold insT
  refine List.perm_middle.trans (List.Perm.cons _ ?_)
  rw [List.takeWhile_append_dropWhile]
theorem insT_srt : ∀ {l : List ByteArray} {s : ByteArray}, Srt l → Srt (insT l s)
  | [], s, _ => by simp [insT, Srt]
  | x :: r, s, h => by
    have hr : Srt r := (List.pairwise_cons.1 h).2
    have hx := (List.pairwise_cons.1 h).1
    cases hle : leT x s
    · have e : insT (x :: r) s = s :: x :: r := by simp [insT, List.takeWhile, List.dropWhile, hle]
      rw [e]
      refine List.pairwise_cons.2 ⟨fun y hy => ?_, h⟩
      rcases List.mem_cons.1 hy with rfl | hy
      · exact le_total hle
      · exact le_trans (le_total hle) (hx y hy)
    · have e : insT (x :: r) s = x :: insT r s := by simp [insT, List.takeWhile_cons, List.dropWhile_cons, hle]
      rw [e]
      refine List.pairwise_cons.2 ⟨fun y hy => ?_, insT_srt hr⟩
      rcases List.mem_cons.1 ((insT_perm r s).subset hy) with rfl | hy
      · exact hle
      · exact hx y hy
theorem putT_srt {u : Bool} {l : List ByteArray} {s : ByteArray} (h : Srt l) : Srt (putT u l s) := by
  unfold putT
  split
  · exact insT_srt h
  · exact h
theorem foldl_srt {u : Bool} : ∀ (l acc : List ByteArray), Srt acc → Srt (l.foldl (putT u) acc)
  | [], acc, h => h
  | x :: r, acc, h => foldl_srt r _ (putT_srt h)
theorem sortT_srt (l : List ByteArray) (u : Bool) : Srt (sortT l u) := foldl_srt l [] (by simp [Srt])
theorem sortT_perm (l : List ByteArray) : (sortT l false).Perm l := by
  have key : ∀ (l acc : List ByteArray), (l.foldl (putT false) acc).Perm (acc ++ l) := by
    intro l
    induction l with
    | nil => intro acc; simp
    | cons x r ih =>
      intro acc
      have h1 : putT false acc x = insT acc x := by unfold putT; simp
      rw [List.foldl_cons, h1]
      exact (ih _).trans (((insT_perm acc x).append_right r).trans (List.perm_middle.symm))
  simpa [sortT] using key l []
theorem srt_unique : ∀ {a b : List ByteArray}, Srt a → Srt b → a.Perm b → a = b
  | [], b, _, _, h => (List.nil_perm.1 h).symm ▸ rfl
  | x :: a, [], _, _, h => by simp at h
  | x :: a, y :: b, ha, hb, h => by
    have hxy : x = y := by
      have h1 := (List.pairwise_cons.1 ha).1
      have h2 := (List.pairwise_cons.1 hb).1
      have hx : x ∈ y :: b := h.subset (by simp)
      have hy : y ∈ x :: a := h.symm.subset (by simp)
      rcases List.mem_cons.1 hx with e | hx
      · exact e
      · rcases List.mem_cons.1 hy with e | hy
        · exact e.symm
        · exact le_antisymm (h1 y hy) (h2 x hx)
    subst hxy
    rw [srt_unique (List.pairwise_cons.1 ha).2 (List.pairwise_cons.1 hb).2 (List.Perm.cons_inv h)]
/-- Whoever sorts them: the same. -/
theorem sortT_is {l r : List ByteArray} (h : Srt r) (p : r.Perm l) : r = sortT l false := srt_unique h (sortT_srt l false) (p.trans (sortT_perm l).symm)
theorem hasT_iff {l : List ByteArray} {s : ByteArray} : hasT l s = true ↔ s ∈ l := by
  unfold hasT
  rw [List.any_eq_true]
  constructor
  · rintro ⟨x, hx, e⟩
    rw [decide_eq_true_iff] at e
    exact e ▸ hx
  · exact fun h => ⟨s, h, by simp⟩
theorem sortU (l : List ByteArray) : (sortT l true).Nodup ∧ ∀ x, x ∈ sortT l true ↔ x ∈ l := by
  have key : ∀ (l acc : List ByteArray), acc.Nodup → (l.foldl (putT true) acc).Nodup ∧ ∀ x, x ∈ l.foldl (putT true) acc ↔ x ∈ acc ∨ x ∈ l := by
    intro l
    induction l with
    | nil => intro acc h; exact ⟨h, by simp⟩
    | cons y r ih =>
      intro acc h
      rw [List.foldl_cons]
      cases hh : hasT acc y
      · have h1 : putT true acc y = insT acc y := by unfold putT; rw [hh]; rfl
        rw [h1]
        have hn : y ∉ acc := fun e => by rw [hasT_iff.2 e] at hh; cases hh
        obtain ⟨k1, k2⟩ := ih (insT acc y) ((insT_perm acc y).nodup_iff.2 (List.nodup_cons.2 ⟨hn, h⟩))
        refine ⟨k1, fun x => ?_⟩
        rw [k2 x, (insT_perm acc y).mem_iff, List.mem_cons, List.mem_cons]
        constructor
        · rintro ((h | h) | h) <;> simp [h]
        · rintro (h | h | h) <;> simp [h]
      · have h1 : putT true acc y = acc := by unfold putT; rw [hh]; rfl
        rw [h1]
        obtain ⟨k1, k2⟩ := ih acc h
        refine ⟨k1, fun x => ?_⟩
        rw [k2 x, List.mem_cons]
        have hy := hasT_iff.1 hh
        constructor
        · rintro (h | h) <;> simp [h]
        · rintro (h | rfl | h)
          · exact .inl h
          · exact .inl hy
          · exact .inr h
  obtain ⟨h1, h2⟩ := key l [] (by simp)
  exact ⟨h1, fun x => by rw [show sortT l true = l.foldl (putT true) [] from rfl, h2 x]; simp⟩
/-- Whoever sorts them, and leaves out like ones: the same. -/
theorem sortT_isU {l r : List ByteArray} (h : Srt r) (n : r.Nodup) (m : ∀ x, x ∈ r ↔ x ∈ l) : r = sortT l true :=
  srt_unique h (sortT_srt l true) ((List.perm_ext_iff_of_nodup n (sortU l).1).2 fun x => by rw [m x, (sortU l).2 x])
end RnPlain
set_option maxHeartbeats 1000000 in
theorem rfailed16_c (e : Int) (w : World) :
    Calls Tryz.prog 21 #[.int .i64 e] w fun x w' => x = .returned (.bool (decide (e = 4) || decide (e = 5))) ∧ w = w' := by
  have hb : ∀ {a b : Bool}, a = b → Ending.returned (.bool a) = .returned (.bool b) := fun h => by rw [h]
  by_cases h1 : e = 4 <;> by_cases h2 : e = 5
  all_goals
    go_enter Tryz.func21, Tryz.ntmps21
    go_wp2_with fail
    go_ret
    refine ⟨hb ?_, rfl⟩
    simp_all
end Go.Proofs.YtdlomcgkpiejgaaGreatDoor
