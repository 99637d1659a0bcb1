/- In one text: OctPlain2, MnCut, MnStep. -/
import Derived.Test.YtckmciafonnohaaP14
import Derived.Test.YtckmciafonnohaaP16
/- Plain facts on the number of some bytes of a text. -/
namespace Go.Proofs.Ytckmciafonnohaa
namespace OctPlain
theorem cutL_take (s : ByteArray) (a k j : Nat) (h : a + k ≤ s.size) (hj : j < k) : (cutL s a k).take (j + 1) = (cutL s a k).take j ++ [s[a + j]'(by omega)] := by
  have hl := cutL_length s a k h
  rw [List.take_succ_eq_append_getElem (by omega)]
  congr 2
  simp only [cutL, List.getElem_take, List.getElem_drop, Array.getElem_toList]
  rfl

theorem num_take_le (l : List UInt8) (j : Nat) (h : j < l.length) : num (l.take j) * 256 ≤ num l := by
  have h1 := num_app (l.take j) (l.drop j)
  rw [List.take_append_drop, List.length_drop] at h1
  have h2 : 256 ^ 1 ≤ 256 ^ (l.length - j) := Nat.pow_le_pow_right (by omega) (by omega)
  have h3 := Nat.mul_le_mul_left (num (l.take j)) h2
  omega

theorem getB_no {s : ByteArray} {a k : Int} (h : ¬ ((1 ≤ k ∧ k ≤ 8) ∧ 0 ≤ a ∧ a + k ≤ s.size)) : getB s a k = false := by
  unfold getB
  rw [decide_eq_false_iff_not]
  intro hh; exact h ⟨hh.1, hh.2.1, hh.2.2.1⟩
theorem getN_no {s : ByteArray} {a k : Int} (h : getB s a k = false) : getN s a k = 0 := by
  unfold getN; rw [h]; rfl
theorem getB_big {s : ByteArray} {p k : Nat} (h : 9223372036854775808 ≤ num (cutL s p k)) : getB s p k = false := by
  unfold getB
  rw [decide_eq_false_iff_not, Int.toNat_natCast, Int.toNat_natCast]
  omega
theorem getB_yes {s : ByteArray} {p k : Nat} (hk : 1 ≤ k ∧ k ≤ 8) (hp : p + k ≤ s.size) (h : num (cutL s p k) < 9223372036854775808) : getB s p k = true := by
  unfold getB
  rw [decide_eq_true_iff, Int.toNat_natCast, Int.toNat_natCast]
  omega
theorem getN_yes {s : ByteArray} {p k : Nat} (h : getB s p k = true) : getN s p k = num (cutL s p k) := by
  unfold getN; rw [if_pos h, Int.toNat_natCast, Int.toNat_natCast]

end OctPlain
end Go.Proofs.Ytckmciafonnohaa
/- Plain facts of a manifest's bytes: where each field lies; steps of the loops that walk files. -/
namespace Go.Proofs.Ytckmciafonnohaa
open Go.RowKit FsPlain CrcPlain OctPlain
set_option linter.unusedVariables false
set_option linter.unusedSimpArgs false
namespace MnPlain
theorem cut_app {s : ByteArray} {p x q : List UInt8} {a k : Nat} (h : s.data.toList = p ++ (x ++ q)) (ha : a = p.length) (hk : k = x.length) : cutL s a k = x := by
  subst ha hk
  unfold cutL
  rw [h, List.drop_left, List.take_left]
theorem get_app {s : ByteArray} {p q : List UInt8} {k n a : Nat} (hk : 1 ≤ k ∧ k ≤ 8) (hn : n < 256 ^ k) (hn2 : n < 9223372036854775808) (h : s.data.toList = p ++ (beL k n ++ q)) (ha : a = p.length) : getB s (a : Int) (k : Int) = true ∧ getN s (a : Int) (k : Int) = (n : Int) := by
  have hc := cut_app (k := k) h ha (by rw [beL_length])
  have hs : s.size = p.length + (k + q.length) := by
    have e : s.data.toList.length = s.size := rfl
    rw [← e, h, List.length_append, List.length_append, beL_length]
  have hb : getB s (a : Int) (k : Int) = true := getB_yes hk (by omega) (by rw [hc, num_beL k n hn]; exact hn2)
  exact ⟨hb, by rw [getN_yes hb, hc, num_beL k n hn]⟩
/-- Where the file behind these begins. -/
def posN (l : List Fl) : Nat := 9 + (l.map fun f => 14 + f.name.size).sum
theorem posN_snoc (l : List Fl) (f : Fl) : posN (l ++ [f]) = posN l + 14 + f.name.size := by
  unfold posN
  rw [List.map_append, List.sum_append]
  simp; omega
theorem flat_length (l : List Fl) : ((l.map flL).flatten).length = (l.map fun f => 14 + f.name.size).sum := by
  rw [List.length_flatten, List.map_map]
  congr 1
  exact List.map_congr_left fun f _ => flL_length f
theorem mnS_data (m : Mn) : (mnS m).data.toList = mnL m ++ tl (more 0 (mnL m)) := by
  have k : ∀ l : List UInt8, (bs l).data.toList = l := fun l => by simp [bs]
  unfold mnS cl
  rw [ByteArray.data_append, Array.toList_append, k, k]
/-- The head of the bytes. -/
theorem mn_head {m : Mn} (h : mnB m = true) : getN (mnS m) 4 2 = m.stage ∧ getN (mnS m) 6 2 = m.pass ∧ cutL (mnS m) 8 1 = beL 1 m.files.length ∧ m.files.length ≤ 16 := by
  unfold mnB at h
  simp only [Bool.and_eq_true, decide_eq_true_eq] at h
  obtain ⟨⟨⟨a1, a2⟩, ⟨a3, a4⟩, a5⟩, _⟩ := h
  have hd := mnS_data m
  unfold mnL at hd
  have e1 : (mnS m).data.toList = [77, 65, 78, 49] ++ (beL 2 m.stage.toNat ++ (beL 2 m.pass.toNat ++ (beL 1 m.files.length ++ ((m.files.map flL).flatten ++ tl (more 0 (mnL m)))))) := by
    rw [hd]; simp only [List.append_assoc]; rfl
  have e2 : (mnS m).data.toList = ([77, 65, 78, 49] ++ beL 2 m.stage.toNat) ++ (beL 2 m.pass.toNat ++ (beL 1 m.files.length ++ ((m.files.map flL).flatten ++ tl (more 0 (mnL m))))) := by
    rw [e1, List.append_assoc]
  have e3 : (mnS m).data.toList = (([77, 65, 78, 49] ++ beL 2 m.stage.toNat) ++ beL 2 m.pass.toNat) ++ (beL 1 m.files.length ++ ((m.files.map flL).flatten ++ tl (more 0 (mnL m)))) := by
    rw [e2]; simp only [List.append_assoc]
  have g1 := (get_app (a := 4) (k := 2) (n := m.stage.toNat) (by decide) (by omega) (by omega) e1 rfl).2
  have g2 := (get_app (a := 6) (k := 2) (n := m.pass.toNat) (by decide) (by omega) (by omega) e2 (by simp [beL_length])).2
  refine ⟨?_, ?_, cut_app e3 (by simp [beL_length]) (by rw [beL_length]), a5⟩
  · have : getN (mnS m) 4 2 = (m.stage.toNat : Int) := g1
    rw [this]; omega
  · have : getN (mnS m) 6 2 = (m.pass.toNat : Int) := g2
    rw [this]; omega
/-- A file's bytes among them. -/
theorem mn_at {m : Mn} {l t : List Fl} {f : Fl} (h : m.files = l ++ f :: t) : ∃ p q, (mnS m).data.toList = p ++ (flL f ++ q) ∧ p.length = posN l ∧ 4 ≤ q.length := by
  refine ⟨[77, 65, 78, 49] ++ (beL 2 m.stage.toNat ++ (beL 2 m.pass.toNat ++ (beL 1 m.files.length ++ (l.map flL).flatten))), (t.map flL).flatten ++ tl (more 0 (mnL m)), ?_, ?_, ?_⟩
  · rw [mnS_data]
    unfold mnL
    rw [h, List.map_append, List.flatten_append, List.map_cons, List.flatten_cons]
    simp only [List.append_assoc]
  · unfold posN
    rw [← flat_length]
    simp only [List.length_append, beL_length, List.length_cons, List.length_nil]
    omega
  · rw [List.length_append, tl_length]; omega
/-- Where its fields lie. -/
theorem fl_at {s : ByteArray} {p q : List UInt8} {f : Fl} {a : Nat} (hf : flI f) (hc : f.count < 9223372036854775808) (h : s.data.toList = p ++ (flL f ++ q)) (ha : a = p.length) :
    (getB s (a : Int) 1 = true ∧ getN s (a : Int) 1 = (f.name.size : Nat)) ∧ cutL s (a + 1) f.name.size = f.name.data.toList ∧ getN s ((a + 1 + f.name.size : Nat) : Int) 1 = f.size ∧ (getB s ((a + 1 + f.name.size + 1 : Nat) : Int) 8 = true ∧ getN s ((a + 1 + f.name.size + 1 : Nat) : Int) 8 = f.count) ∧ getN s ((a + 1 + f.name.size + 9 : Nat) : Int) 4 = f.sum ∧ s.size = a + 14 + f.name.size + q.length := by
  obtain ⟨f1, ⟨f2, f3⟩, ⟨f4, f5⟩, f6, f7⟩ := hf
  have hn : f.name.data.toList.length = f.name.size := rfl
  unfold flL at h
  have e1 : s.data.toList = p ++ (beL 1 f.name.size ++ (f.name.data.toList ++ (beL 1 f.size.toNat ++ (beL 8 f.count.toNat ++ (beL 4 f.sum.toNat ++ q))))) := by rw [h]; simp only [List.append_assoc]
  have e2 : s.data.toList = (p ++ beL 1 f.name.size) ++ (f.name.data.toList ++ (beL 1 f.size.toNat ++ (beL 8 f.count.toNat ++ (beL 4 f.sum.toNat ++ q)))) := by rw [e1]; simp only [List.append_assoc]
  have e3 : s.data.toList = ((p ++ beL 1 f.name.size) ++ f.name.data.toList) ++ (beL 1 f.size.toNat ++ (beL 8 f.count.toNat ++ (beL 4 f.sum.toNat ++ q))) := by rw [e1]; simp only [List.append_assoc]
  have e4 : s.data.toList = (((p ++ beL 1 f.name.size) ++ f.name.data.toList) ++ beL 1 f.size.toNat) ++ (beL 8 f.count.toNat ++ (beL 4 f.sum.toNat ++ q)) := by rw [e1]; simp only [List.append_assoc]
  have e5 : s.data.toList = ((((p ++ beL 1 f.name.size) ++ f.name.data.toList) ++ beL 1 f.size.toNat) ++ beL 8 f.count.toNat) ++ (beL 4 f.sum.toNat ++ q) := by rw [e1]; simp only [List.append_assoc]
  have l2 : (p ++ beL 1 f.name.size).length = a + 1 := by rw [List.length_append, beL_length, ha]
  have l3 : ((p ++ beL 1 f.name.size) ++ f.name.data.toList).length = a + 1 + f.name.size := by rw [List.length_append, l2, hn]
  have l4 : (((p ++ beL 1 f.name.size) ++ f.name.data.toList) ++ beL 1 f.size.toNat).length = a + 1 + f.name.size + 1 := by rw [List.length_append, l3, beL_length]
  have l5 : ((((p ++ beL 1 f.name.size) ++ f.name.data.toList) ++ beL 1 f.size.toNat) ++ beL 8 f.count.toNat).length = a + 1 + f.name.size + 9 := by rw [List.length_append, l4, beL_length]
  have g1 := get_app (a := a) (k := 1) (n := f.name.size) (by decide) (by rw [Nat.pow_one]; exact f1) (by omega) e1 ha
  have g3 := get_app (a := a + 1 + f.name.size) (k := 1) (n := f.size.toNat) (by decide) (by omega) (by omega) e3 l3.symm
  have g4 := get_app (a := a + 1 + f.name.size + 1) (k := 8) (n := f.count.toNat) (by decide) (by omega) (by omega) e4 l4.symm
  have g5 := get_app (a := a + 1 + f.name.size + 9) (k := 4) (n := f.sum.toNat) (by decide) (by omega) (by omega) e5 l5.symm
  refine ⟨g1, cut_app e2 l2.symm hn.symm, ?_, ⟨g4.1, ?_⟩, ?_, ?_⟩
  · have := g3.2
    rw [Int.toNat_of_nonneg f2] at this; exact this
  · have := g4.2
    rw [Int.toNat_of_nonneg f4] at this; exact this
  · have := g5.2
    rw [Int.toNat_of_nonneg f6] at this; exact this
  · have e : s.data.toList.length = s.size := rfl
    rw [← e, e5, List.length_append, l5, List.length_append, beL_length]; omega
end MnPlain
end Go.Proofs.Ytckmciafonnohaa
/- Plain facts of a manifest: the loops that walk its files, step by step. -/
namespace Go.Proofs.Ytckmciafonnohaa
open Go.RowKit FsPlain CrcPlain OctPlain
set_option linter.unusedVariables false
set_option linter.unusedSimpArgs false
namespace MnPlain
def hasN (n : ByteArray) (l : List Fl) : Bool := l.any fun f => decide (f.name = n)
/-- With, of those that are there. -/
def setF (g : Fl) : List Fl → List Fl
  | [] => []
  | f :: t => if f.name = g.name then g :: t else f :: setF g t
theorem with_set (g : Fl) : ∀ l : List Fl, withF g l = if hasN g.name l = true then setF g l else setF g l ++ [g]
  | [] => rfl
  | f :: t => by
    have ih := with_set g t
    show (if f.name = g.name then g :: t else f :: withF g t) = if (decide (f.name = g.name) || hasN g.name t) = true then (if f.name = g.name then g :: t else f :: setF g t) else (if f.name = g.name then g :: t else f :: setF g t) ++ [g]
    by_cases h : f.name = g.name
    · rw [if_pos h, if_pos (by simp [h]), if_pos h]
    · rw [if_neg h, if_neg h, ih]
      by_cases k : hasN g.name t = true
      · rw [if_pos k, if_pos (by simp [k])]
      · rw [if_neg k, if_neg (by simp [k, h])]; rfl
theorem set_none (g : Fl) : ∀ l : List Fl, hasN g.name l = false → setF g l = l
  | [], _ => rfl
  | f :: t, h => by
    have h2 : (decide (f.name = g.name) || hasN g.name t) = false := h
    rw [Bool.or_eq_false_iff, decide_eq_false_iff_not] at h2
    show (if f.name = g.name then g :: t else f :: setF g t) = f :: t
    rw [if_neg h2.1, set_none g t h2.2]
theorem has_snoc (n : ByteArray) (l : List Fl) (f : Fl) : hasN n (l ++ [f]) = (hasN n l || decide (f.name = n)) := by
  unfold hasN
  rw [List.any_append, List.any_cons, List.any_nil, Bool.or_false]
theorem set_snoc (g : Fl) : ∀ (l : List Fl) (f : Fl), setF g (l ++ [f]) = if hasN g.name l = false ∧ f.name = g.name then setF g l ++ [g] else setF g l ++ [f]
  | [], f => by
    show (if f.name = g.name then g :: [] else f :: setF g []) = _
    by_cases h : f.name = g.name
    · rw [if_pos h, if_pos ⟨rfl, h⟩]; rfl
    · rw [if_neg h, if_neg fun k => h k.2]; rfl
  | x :: t, f => by
    have ih := set_snoc g t f
    show (if x.name = g.name then g :: (t ++ [f]) else x :: setF g (t ++ [f])) = if (decide (x.name = g.name) || hasN g.name t) = false ∧ f.name = g.name then (if x.name = g.name then g :: t else x :: setF g t) ++ [g] else (if x.name = g.name then g :: t else x :: setF g t) ++ [f]
    by_cases h : x.name = g.name
    · rw [if_pos h, if_neg (by simp [h]), if_pos h]; rfl
    · rw [if_neg h, ih, if_neg h]
      have e : (decide (x.name = g.name) || hasN g.name t) = hasN g.name t := by rw [decide_eq_false h, Bool.false_or]
      rw [e]
      by_cases k : hasN g.name t = false ∧ f.name = g.name
      · rw [if_pos k, if_pos k]; rfl
      · rw [if_neg k, if_neg k]; rfl
theorem find_at {n : ByteArray} {l : List Fl} {i : Nat} (hi : i < l.length) (h : ∀ j (hj : j < i), l[j].name ≠ n) : findF n l = if l[i].name = n then some l[i] else findF n (l.drop (i + 1)) := by
  have e : l = l.take i ++ (l[i] :: l.drop (i + 1)) := by rw [← List.drop_eq_getElem_cons hi, List.take_append_drop]
  have k : ∀ f ∈ l.take i, f.name ≠ n := fun f hf => by
    obtain ⟨j, hj, rfl⟩ := List.mem_iff_getElem.1 hf
    rw [List.getElem_take]
    rw [List.length_take] at hj
    exact h j (by omega)
  have e2 : findF n l = findF n (l.take i ++ (l[i] :: l.drop (i + 1))) := congrArg _ e
  rw [e2, find_ahead k]
  rfl
theorem find_no {n : ByteArray} {l : List Fl} (h : ∀ j (hj : j < l.length), l[j].name ≠ n) : findF n l = none := by
  have := find_ahead (n := n) (l := l) (m := []) fun f hf => by
    obtain ⟨j, hj, rfl⟩ := List.mem_iff_getElem.1 hf
    exact h j hj
  rw [List.append_nil] at this
  exact this
/-- Whether it may be, at the i-th file. -/
theorem new_step {l : List Fl} {i : Nat} (hi : i < l.length) : newB (l.take i) (l.drop i) = (flB l[i] && ((l.take i).all fun g => decide (g.name ≠ l[i].name)) && newB (l.take (i + 1)) (l.drop (i + 1))) := by
  rw [List.drop_eq_getElem_cons hi]
  show (flB l[i] && ((l.take i).all fun g => decide (g.name ≠ l[i].name)) && newB (l.take i ++ [l[i]]) (l.drop (i + 1))) = _
  rw [List.take_succ_eq_append_getElem hi]
theorem new_end (l : List Fl) : newB (l.take l.length) (l.drop l.length) = true := by rw [List.drop_length]; unfold newB; rfl
theorem all_ne {l : List Fl} {i : Nat} (hi : i < l.length) (n : ByteArray) : ((l.take i).all fun g => decide (g.name ≠ n)) = true ↔ ∀ j (hj : j < i), l[j].name ≠ n := by
  rw [List.all_eq_true]
  constructor
  · intro h j hj
    have := h l[j] (by rw [List.mem_iff_getElem]; exact ⟨j, by rw [List.length_take]; omega, by rw [List.getElem_take]⟩)
    simpa using this
  · intro h f hf
    obtain ⟨j, hj, rfl⟩ := List.mem_iff_getElem.1 hf
    rw [List.length_take] at hj
    have := h j (by omega)
    simpa [List.getElem_take] using this
/-- The bytes, one file more. -/
theorem bytes_step {l : List Fl} {i : Nat} (hi : i < l.length) : ((l.take (i + 1)).map flL).flatten = ((l.take i).map flL).flatten ++ flL l[i] := by
  rw [List.take_succ_eq_append_getElem hi, List.map_append, List.flatten_append]
  simp
theorem pos_step {l : List Fl} {i : Nat} (hi : i < l.length) : posN (l.take (i + 1)) = posN (l.take i) + 14 + l[i].name.size := by
  rw [List.take_succ_eq_append_getElem hi, posN_snoc]
/-- Any manifest of these bytes, at its i-th file. -/
theorem is_step {s : ByteArray} {m : Mn} (h : mnIs s m) {i : Nat} (hi : i < m.files.length) : ∃ p q, s.data.toList = p ++ (flL m.files[i] ++ q) ∧ p.length = posN (m.files.take i) ∧ 4 ≤ q.length ∧ flI m.files[i] ∧ m.files[i].count ≤ 4611686018427387904 := by
  obtain ⟨h1, h2, h3⟩ := h
  have hb : newB [] m.files = true := by unfold mnB at h1; rw [Bool.and_eq_true] at h1; exact h1.2
  have hf := newB_all hb _ (List.getElem_mem hi)
  obtain ⟨p, q, e, hp, hq⟩ := mn_at (m := m) (l := m.files.take i) (f := m.files[i]) (t := m.files.drop (i + 1)) (by rw [← List.drop_eq_getElem_cons hi, List.take_append_drop])
  rw [h3] at e
  refine ⟨p, q, e, hp, hq, flB_I hf (h2 _ (List.getElem_mem hi)), ?_⟩
  unfold flB at hf
  simp only [Bool.and_eq_true, decide_eq_true_eq] at hf
  exact hf.2.2.2
end MnPlain
end Go.Proofs.Ytckmciafonnohaa
