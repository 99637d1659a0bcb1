/- In one text: MnStep. -/
import Derived.Test.YtgopodgjnblgkaaDoorP20
/- Plain facts of a manifest: the loops that walk its files, step by step. -/
namespace Go.Proofs.YtgopodgjnblgkaaDoor
open Go.RowKit FsPlain CrcPlain OctPlain
set_option linter.unusedVariables false
set_option linter.unusedSimpArgs false
namespace MnPlain
def hasN (n : ByteArray) (l : List Fl) : Bool := l.any fun f => decide (f.name = n)
/-- With, of those that are there. -/
def setF (g : Fl) : List Fl → List Fl
  | [] => []
  | f :: t => if f.name = g.name then g :: t else f :: setF g t
theorem with_set (g : Fl) : ∀ l : List Fl, withF g l = if hasN g.name l = true then setF g l else setF g l ++ [g]
  | [] => rfl
  | f :: t => by
    have ih := with_set g t
    show (if f.name = g.name then g :: t else f :: withF g t) = if (decide (f.name = g.name) || hasN g.name t) = true then (if f.name = g.name then g :: t else f :: setF g t) else (if f.name = g.name then g :: t else f :: setF g t) ++ [g]
    by_cases h : f.name = g.name
    · rw [if_pos h, if_pos (by simp [h]), if_pos h]
    · rw [if_neg h, if_neg h, ih]
      by_cases k : hasN g.name t = true
      · rw [if_pos k, if_pos (by simp [k])]
      · rw [if_neg k, if_neg (by simp [k, h])]; rfl
theorem set_none (g : Fl) : ∀ l : List Fl, hasN g.name l = false → setF g l = l
  | [], _ => rfl
  | f :: t, h => by
    have h2 : (decide (f.name = g.name) || hasN g.name t) = false := h
    rw [Bool.or_eq_false_iff, decide_eq_false_iff_not] at h2
    show (if f.name = g.name then g :: t else f :: setF g t) = f :: t
    rw [if_neg h2.1, set_none g t h2.2]
theorem has_snoc (n : ByteArray) (l : List Fl) (f : Fl) : hasN n (l ++ [f]) = (hasN n l || decide (f.name = n)) := by
  unfold hasN
  rw [List.any_append, List.any_cons, List.any_nil, Bool.or_false]
theorem set_snoc (g : Fl) : ∀ (l : List Fl) (f : Fl), setF g (l ++ [f]) = if hasN g.name l = false ∧ f.name = g.name then setF g l ++ [g] else setF g l ++ [f]
  | [], f => by
    show (if f.name = g.name then g :: [] else f :: setF g []) = _
    by_cases h : f.name = g.name
    · rw [if_pos h, if_pos ⟨rfl, h⟩]; rfl
    · rw [if_neg h, if_neg fun k => h k.2]; rfl
  | x :: t, f => by
    have ih := set_snoc g t f
    show (if x.name = g.name then g :: (t ++ [f]) else x :: setF g (t ++ [f])) = if (decide (x.name = g.name) || hasN g.name t) = false ∧ f.name = g.name then (if x.name = g.name then g :: t else x :: setF g t) ++ [g] else (if x.name = g.name then g :: t else x :: setF g t) ++ [f]
    by_cases h : x.name = g.name
    · rw [if_pos h, if_neg (by simp [h]), if_pos h]; rfl
    · rw [if_neg h, ih, if_neg h]
      have e : (decide (x.name = g.name) || hasN g.name t) = hasN g.name t := by rw [decide_eq_false h, Bool.false_or]
      rw [e]
      by_cases k : hasN g.name t = false ∧ f.name = g.name
      · rw [if_pos k, if_pos k]; rfl
      · rw [if_neg k, if_neg k]; rfl
theorem find_at {n : ByteArray} {l : List Fl} {i : Nat} (hi : i < l.length) (h : ∀ j (hj : j < i), l[j].name ≠ n) : findF n l = if l[i].name = n then some l[i] else findF n (l.drop (i + 1)) := by
  have e : l = l.take i ++ (l[i] :: l.drop (i + 1)) := by rw [← List.drop_eq_getElem_cons hi, List.take_append_drop]
  have k : ∀ f ∈ l.take i, f.name ≠ n := fun f hf => by
    obtain ⟨j, hj, rfl⟩ := List.mem_iff_getElem.1 hf
    rw [List.getElem_take]
    rw [List.length_take] at hj
    exact h j (by omega)
  have e2 : findF n l = findF n (l.take i ++ (l[i] :: l.drop (i + 1))) := congrArg _ e
  rw [e2, find_ahead k]
  rfl
theorem find_no {n : ByteArray} {l : List Fl} (h : ∀ j (hj : j < l.length), l[j].name ≠ n) : findF n l = none := by
  have := find_ahead (n := n) (l := l) (m := []) fun f hf => by
    obtain ⟨j, hj, rfl⟩ := List.mem_iff_getElem.1 hf
    exact h j hj
  rw [List.append_nil] at this
  exact this
/-- Whether it may be, at the i-th file. -/
theorem new_step {l : List Fl} {i : Nat} (hi : i < l.length) : newB (l.take i) (l.drop i) = (flB l[i] && ((l.take i).all fun g => decide (g.name ≠ l[i].name)) && newB (l.take (i + 1)) (l.drop (i + 1))) := by
  rw [List.drop_eq_getElem_cons hi]
  show (flB l[i] && ((l.take i).all fun g => decide (g.name ≠ l[i].name)) && newB (l.take i ++ [l[i]]) (l.drop (i + 1))) = _
  rw [List.take_succ_eq_append_getElem hi]
theorem new_end (l : List Fl) : newB (l.take l.length) (l.drop l.length) = true := by rw [List.drop_length]; unfold newB; rfl
theorem all_ne {l : List Fl} {i : Nat} (hi : i < l.length) (n : ByteArray) : ((l.take i).all fun g => decide (g.name ≠ n)) = true ↔ ∀ j (hj : j < i), l[j].name ≠ n := by
  rw [List.all_eq_true]
  constructor
  · intro h j hj
    have := h l[j] (by rw [List.mem_iff_getElem]; exact ⟨j, by rw [List.length_take]; omega, by rw [List.getElem_take]⟩)
    simpa using this
  · intro h f hf
    obtain ⟨j, hj, rfl⟩ := List.mem_iff_getElem.1 hf
    rw [List.length_take] at hj
    have := h j (by omega)
    simpa [List.getElem_take] using this
/-- The bytes, one file more. -/
theorem bytes_step {l : List Fl} {i : Nat} (hi : i < l.length) : ((l.take (i + 1)).map flL).flatten = ((l.take i).map flL).flatten ++ flL l[i] := by
  rw [List.take_succ_eq_append_getElem hi, List.map_append, List.flatten_append]
  simp
theorem pos_step {l : List Fl} {i : Nat} (hi : i < l.length) : posN (l.take (i + 1)) = posN (l.take i) + 14 + l[i].name.size := by
  rw [List.take_succ_eq_append_getElem hi, posN_snoc]
/-- Any manifest of these bytes, at its i-th file. -/
theorem is_step {s : ByteArray} {m : Mn} (h : mnIs s m) {i : Nat} (hi : i < m.files.length) : ∃ p q, s.data.toList = p ++ (flL m.files[i] ++ q) ∧ p.length = posN (m.files.take i) ∧ 4 ≤ q.length ∧ flI m.files[i] ∧ m.files[i].count ≤ 4611686018427387904 := by
  obtain ⟨h1, h2, h3⟩ := h
  have hb : newB [] m.files = true := by unfold mnB at h1; rw [Bool.and_eq_true] at h1; exact h1.2
  have hf := newB_all hb _ (List.getElem_mem hi)
  obtain ⟨p, q, e, hp, hq⟩ := mn_at (m := m) (l := m.files.take i) (f := m.files[i]) (t := m.files.drop (i + 1)) (by rw [← List.drop_eq_getElem_cons hi, List.take_append_drop])
  rw [h3] at e
  refine ⟨p, q, e, hp, hq, flB_I hf (h2 _ (List.getElem_mem hi)), ?_⟩
  unfold flB at hf
  simp only [Bool.and_eq_true, decide_eq_true_eq] at hf
  exact hf.2.2.2
end MnPlain
end Go.Proofs.YtgopodgjnblgkaaDoor
