/- Plain facts on lists of near ones, without the model: put, merged, the best. -/
import Derived.Test.YtllfecgaadfkoaaBase
namespace Go.Proofs.Ytllfecgaadfkoaa
open Go.RowKit
set_option linter.unusedVariables false
set_option linter.unusedSimpArgs false
set_option maxRecDepth 20000
namespace TkPlain
/-- A near one: how far, its id, whether it is new. -/
structure Nr where
  d : Int
  id : Int
  nw : Bool
instance : DecidableEq Nr := fun a b => decidable_of_iff (a.d = b.d ∧ a.id = b.id ∧ a.nw = b.nw) ⟨fun h => by cases a; cases b; simp_all, fun h => by subst h; simp⟩
def oneN (x : Nr) : Bool := decide ((0 ≤ x.d ∧ x.d ≤ 4611686018427387904) ∧ 0 ≤ x.id ∧ x.id < 1048576)
def lessN (a b : Nr) : Bool := decide (a.d < b.d) || (decide (a.d = b.d) && decide (a.id < b.id))
def hasN (l : List Nr) (id : Int) : Bool := l.any (fun x => decide (x.id = id))
abbrev Rise (l : List Nr) : Prop := l.Pairwise (fun a b => lessN a b = true)
abbrev Unlike (l : List Nr) : Prop := l.Pairwise (fun a b => a.id ≠ b.id)
def kB (k : Int) : Bool := decide (1 ≤ k ∧ k ≤ 64)
def rightN (l : List Nr) (k : Int) : Bool := kB k && decide ((l.length : Int) ≤ k) && (l.all oneN && (decide (Rise l) && decide (Unlike l)))
def insN (x : Nr) : List Nr → List Nr
  | [] => [x]
  | y :: r => if lessN y x = true then y :: insN x r else x :: y :: r
def okPut (l : List Nr) (k : Int) (x : Nr) : Bool := rightN l k && oneN x && !hasN l x.id
def putL (l : List Nr) (k : Int) (x : Nr) : List Nr := if okPut l k x = true then (insN x l).take k.toNat else l
def putB (l : List Nr) (k : Int) (x : Nr) : Bool := okPut l k x && !(decide (((l.takeWhile (lessN · x)).length : Int) = k))
def mergeL (a b : List Nr) (k : Int) : List Nr := b.foldl (fun l x => putL l k x) a
def bestL (l : List Nr) (k : Int) : List Nr := if kB k = true then mergeL [] l k else []
def sortN (l : List Nr) : List Nr := l.foldl (fun s x => insN x s) []

theorem less_iff {a b : Nr} : lessN a b = true ↔ a.d < b.d ∨ (a.d = b.d ∧ a.id < b.id) := by
  unfold lessN; simp
theorem less_irrefl (a : Nr) : lessN a a = false := by
  cases h : lessN a a
  · rfl
  · rw [less_iff] at h; omega
theorem less_trans {a b c : Nr} (h : lessN a b = true) (k : lessN b c = true) : lessN a c = true := by
  rw [less_iff] at *; omega
theorem less_asymm {a b : Nr} (h : lessN a b = true) : lessN b a = false := by
  cases k : lessN b a
  · rfl
  · have := less_trans h k
    rw [less_irrefl] at this; cases this
theorem less_total {a b : Nr} (h : lessN a b = false) (hi : a.id ≠ b.id) : lessN b a = true := by
  rw [less_iff]
  have : ¬ (a.d < b.d ∨ (a.d = b.d ∧ a.id < b.id)) := fun k => by rw [less_iff.2 k] at h; cases h
  omega
theorem hasN_iff {l : List Nr} {id : Int} : hasN l id = true ↔ ∃ x ∈ l, x.id = id := by
  unfold hasN; simp
theorem hasN_no {l : List Nr} {id : Int} (h : ∀ x ∈ l, x.id ≠ id) : hasN l id = false := by
  cases k : hasN l id
  · rfl
  · obtain ⟨x, hx, e⟩ := hasN_iff.1 k
    exact absurd e (h x hx)
theorem right_iff {l : List Nr} {k : Int} : rightN l k = true ↔ (1 ≤ k ∧ k ≤ 64) ∧ (l.length : Int) ≤ k ∧ (∀ x ∈ l, oneN x = true) ∧ Rise l ∧ Unlike l := by
  unfold rightN kB
  simp only [Bool.and_eq_true, decide_eq_true_eq, List.all_eq_true]
  constructor
  · rintro ⟨⟨h1, h2⟩, h3, h4, h5⟩; exact ⟨h1, h2, h3, h4, h5⟩
  · rintro ⟨h1, h2, h3, h4, h5⟩; exact ⟨⟨h1, h2⟩, h3, h4, h5⟩
theorem ins_mem {x y : Nr} : ∀ {l : List Nr}, y ∈ insN x l ↔ y = x ∨ y ∈ l
  | [] => by simp [insN]
  | z :: r => by
    unfold insN
    split
    · rw [List.mem_cons, ins_mem (l := r), List.mem_cons]
      constructor
      · rintro (h | h | h) <;> simp [h]
      · rintro (h | h | h) <;> simp [h]
    · simp
theorem ins_perm (x : Nr) : ∀ l : List Nr, (insN x l).Perm (x :: l)
  | [] => by simp [insN]
  | z :: r => by
    unfold insN
    split
    · exact ((ins_perm x r).cons z).trans (List.Perm.swap x z r)
    · exact List.Perm.refl _
theorem ins_length (x : Nr) (l : List Nr) : (insN x l).length = l.length + 1 := by rw [(ins_perm x l).length_eq]; rfl
theorem ins_rise {x : Nr} : ∀ {l : List Nr}, Rise l → (∀ y ∈ l, y.id ≠ x.id) → Rise (insN x l)
  | [], _, _ => by simp [insN]
  | z :: r, h, hu => by
    have hr := List.pairwise_cons.1 h
    unfold insN
    split
    · rename_i hz
      refine List.pairwise_cons.2 ⟨fun y hy => ?_, ins_rise hr.2 fun y hy => hu y (by simp [hy])⟩
      rcases ins_mem.1 hy with rfl | hy
      · exact hz
      · exact hr.1 y hy
    · rename_i hz
      have hxz := less_total (a := z) (b := x) (by simpa using hz) (hu z (by simp))
      refine List.pairwise_cons.2 ⟨fun y hy => ?_, h⟩
      rcases List.mem_cons.1 hy with rfl | hy
      · exact hxz
      · exact less_trans hxz (hr.1 y hy)
theorem unlike_perm {l m : List Nr} (h : l.Perm m) : Unlike l ↔ Unlike m := h.pairwise_iff (fun h e => h e.symm)
theorem sort_snoc (l : List Nr) (x : Nr) : sortN (l ++ [x]) = insN x (sortN l) := by simp [sortN]
theorem sort_perm (l : List Nr) : (sortN l).Perm l := by
  have h : ∀ (l s : List Nr), (l.foldl (fun s x => insN x s) s).Perm (l ++ s) := by
    intro l
    induction l with
    | nil => intro s; exact List.Perm.refl _
    | cons x l ih =>
      intro s
      exact (ih (insN x s)).trans ((List.Perm.append_left l (ins_perm x s)).trans List.perm_middle)
  have := h l []
  rwa [List.append_nil] at this
theorem unlike_snoc {l : List Nr} {x : Nr} (h : Unlike (l ++ [x])) : Unlike l ∧ ∀ y ∈ l, y.id ≠ x.id := by
  rw [Unlike, List.pairwise_append] at h
  exact ⟨h.1, fun y hy => h.2.2 y hy x (by simp)⟩
theorem sort_rise : ∀ {l : List Nr}, Unlike l → Rise (sortN l) := by
  intro l
  induction hl : l.length generalizing l with
  | zero => intro _; rw [List.eq_nil_of_length_eq_zero hl]; simp [sortN]
  | succ n ih =>
    intro h
    obtain ⟨m, x, rfl⟩ : ∃ m x, l = m ++ [x] := ⟨l.dropLast, l.getLast (by intro e; rw [e] at hl; simp at hl), (List.dropLast_concat_getLast _).symm⟩
    obtain ⟨h1, h2⟩ := unlike_snoc h
    rw [sort_snoc]
    exact ins_rise (ih (by simpa using hl) h1) fun y hy => h2 y ((sort_perm m).mem_iff.1 hy)
theorem ins_take (x : Nr) : ∀ (l : List Nr) (k : Nat), (insN x (l.take k)).take k = (insN x l).take k
  | [], k => by simp
  | z :: r, 0 => by simp
  | z :: r, k + 1 => by
    rw [List.take_succ_cons]
    unfold insN
    split
    · rw [List.take_succ_cons, List.take_succ_cons, ins_take x r k]
    · rw [List.take_succ_cons, List.take_succ_cons]
      congr 1
      cases k with
      | zero => rfl
      | succ k => rw [List.take_succ_cons, List.take_succ_cons, List.take_take, Nat.min_eq_left (by omega)]
theorem rise_take {l : List Nr} (h : Rise l) (k : Nat) : Rise (l.take k) := h.sublist (List.take_sublist k l)
theorem unlike_take {l : List Nr} (h : Unlike l) (k : Nat) : Unlike (l.take k) := h.sublist (List.take_sublist k l)
/-- The first k of the order are a right list. -/
theorem right_sort {l : List Nr} {k : Nat} (hk : 1 ≤ k ∧ k ≤ 64) (h1 : ∀ x ∈ l, oneN x = true) (h2 : Unlike l) : rightN ((sortN l).take k) (k : Int) = true := by
  refine right_iff.2 ⟨by omega, ?_, fun x hx => h1 x ((sort_perm l).mem_iff.1 (List.mem_of_mem_take hx)), rise_take (sort_rise h2) k, unlike_take ((unlike_perm (sort_perm l)).2 h2) k⟩
  rw [List.length_take]; omega
theorem merge_snoc (a l : List Nr) (x : Nr) (k : Int) : mergeL a (l ++ [x]) k = putL (mergeL a l k) k x := by simp [mergeL]
theorem merge_app (a l m : List Nr) (k : Int) : mergeL a (l ++ m) k = mergeL (mergeL a l k) m k := by simp [mergeL]
theorem best_sort {k : Nat} (hk : 1 ≤ k ∧ k ≤ 64) : ∀ {l : List Nr}, (∀ x ∈ l, oneN x = true) → Unlike l → mergeL [] l (k : Int) = (sortN l).take k := by
  intro l
  induction hl : l.length generalizing l with
  | zero => intro _ _; rw [List.eq_nil_of_length_eq_zero hl]; simp [mergeL, sortN]
  | succ n ih =>
    intro h1 h2
    obtain ⟨m, x, rfl⟩ : ∃ m x, l = m ++ [x] := ⟨l.dropLast, l.getLast (by intro e; rw [e] at hl; simp at hl), (List.dropLast_concat_getLast _).symm⟩
    obtain ⟨h3, h4⟩ := unlike_snoc h2
    have h5 : ∀ y ∈ m, oneN y = true := fun y hy => h1 y (by simp [hy])
    rw [merge_snoc, sort_snoc, ih (by simpa using hl) h5 h3]
    have hr := right_sort hk h5 h3
    have hh : hasN ((sortN m).take k) x.id = false := hasN_no fun y hy => h4 y ((sort_perm m).mem_iff.1 (List.mem_of_mem_take hy))
    have hok : okPut ((sortN m).take k) (k : Int) x = true := by
      unfold okPut; rw [hr, h1 x (by simp), hh]; rfl
    unfold putL
    rw [if_pos hok, Int.toNat_natCast]
    exact ins_take x (sortN m) k
/-- Of one order there is one list. -/
theorem rise_one : ∀ {s t : List Nr}, Rise s → Rise t → s.Perm t → s = t
  | [], t, _, _, h => by rw [List.nil_perm.1 h]
  | a :: s, [], _, _, h => by have := h.length_eq; simp at this
  | a :: s, b :: t, hs, ht, h => by
    have hs' := List.pairwise_cons.1 hs
    have ht' := List.pairwise_cons.1 ht
    have hab : a = b := by
      have ha : a ∈ b :: t := h.mem_iff.1 (by simp)
      have hb : b ∈ a :: s := h.mem_iff.2 (by simp)
      rcases List.mem_cons.1 ha with e | ha
      · exact e
      · rcases List.mem_cons.1 hb with e | hb
        · exact e.symm
        · have h1 := ht'.1 a ha
          have h2 := hs'.1 b hb
          rw [less_asymm h1] at h2; cases h2
    subst hab
    rw [rise_one hs'.2 ht'.2 (List.Perm.cons_inv h)]
theorem sort_eq {l m : List Nr} (h : l.Perm m) (hu : Unlike l) : sortN l = sortN m :=
  rise_one (sort_rise hu) (sort_rise ((unlike_perm h).1 hu)) (((sort_perm l).trans h).trans (sort_perm m).symm)
/-- How many of a list are nearer. -/
def nearN (l : List Nr) (y : Nr) : Nat := l.countP (lessN · y)
theorem near_at : ∀ {s : List Nr} {i : Nat} {y : Nr}, Rise s → s[i]? = some y → nearN s y = i
  | [], i, y, _, h => by simp at h
  | a :: s, 0, y, hs, h => by
    obtain rfl : a = y := by simpa using h
    have hs' := List.pairwise_cons.1 hs
    unfold nearN
    rw [List.countP_eq_zero]
    intro z hz
    rcases List.mem_cons.1 hz with rfl | hz
    · rw [less_irrefl]; simp
    · rw [less_asymm (hs'.1 z hz)]; simp
  | a :: s, i + 1, y, hs, h => by
    have hs' := List.pairwise_cons.1 hs
    have hy : s[i]? = some y := by simpa using h
    have ih := near_at hs'.2 hy
    unfold nearN at ih ⊢
    rw [List.countP_cons, ih, hs'.1 y (List.mem_of_getElem? hy)]
    rfl
/-- Where one of the list stands in the order. -/
theorem near_sort {l : List Nr} {y : Nr} (hu : Unlike l) (hy : y ∈ l) : (sortN l)[nearN l y]? = some y := by
  obtain ⟨i, hi⟩ := List.getElem?_of_mem ((sort_perm l).mem_iff.2 hy)
  have h1 := near_at (sort_rise hu) hi
  have h2 : nearN (sortN l) y = nearN l y := (sort_perm l).countP_eq _
  rw [← h2, h1]; exact hi
theorem unlike_eq : ∀ {l : List Nr} {x y : Nr}, Unlike l → x ∈ l → y ∈ l → x.id = y.id → x = y
  | [], _, _, _, h, _, _ => by simp at h
  | a :: l, x, y, hu, hx, hy, e => by
    have hu' := List.pairwise_cons.1 hu
    rcases List.mem_cons.1 hx with e1 | hx2
    · rcases List.mem_cons.1 hy with e2 | hy2
      · rw [e1, e2]
      · rw [e1] at e; exact absurd e (hu'.1 y hy2)
    · rcases List.mem_cons.1 hy with e2 | hy2
      · rw [e2] at e; exact absurd e.symm (hu'.1 x hx2)
      · exact unlike_eq hu'.2 hx2 hy2 e
/-- Who is among the first k. -/
theorem has_sort {l : List Nr} {y : Nr} {k : Nat} (hu : Unlike l) (hy : y ∈ l) : hasN ((sortN l).take k) y.id = decide (nearN l y < k) := by
  have hs := near_sort hu hy
  by_cases h : nearN l y < k
  · rw [decide_eq_true h]
    refine hasN_iff.2 ⟨y, ?_, rfl⟩
    exact List.mem_of_getElem? (i := nearN l y) (by rw [List.getElem?_take_of_lt h]; exact hs)
  · rw [decide_eq_false h]
    refine hasN_no fun x hx e => h ?_
    have hxl : x ∈ l := (sort_perm l).mem_iff.1 (List.mem_of_mem_take hx)
    have hxy := unlike_eq hu hxl hy e
    subst hxy
    obtain ⟨i, hi⟩ := List.getElem?_of_mem hx
    have hik : i < k := by
      have := (List.getElem?_eq_some_iff.1 hi).1
      rw [List.length_take] at this; omega
    rw [List.getElem?_take_of_lt hik] at hi
    have h1 := near_at (sort_rise hu) hi
    have h2 : nearN (sortN l) x = nearN l x := (sort_perm l).countP_eq _
    omega
theorem sort_length (l : List Nr) : (sortN l).length = l.length := (sort_perm l).length_eq
end TkPlain
end Go.Proofs.Ytllfecgaadfkoaa
