/- What the loops of TopkBest leave; the best's own facts. -/
import Derived.Test.YtllfecgaadfkoaaTkAwake
import Derived.Deep.RegionWith
namespace Go.Proofs.Ytllfecgaadfkoaa
open Go.RowKit TkPlain
set_option linter.unusedVariables false
set_option linter.unusedSimpArgs false
set_option maxRecDepth 20000
def BsAt (l : List Nr) (w : World) (i : Value) (wr : World) : Prop := ∃ j : Nat, j ≤ l.length ∧ i = .int .i64 (j : Int) ∧ ((∀ x ∈ l.take j, oneN x = true) ∧ Unlike (l.take j)) ∧ Below w.heap.size w wr
theorem unlike_step {l : List Nr} {j : Nat} {x : Nr} (hs : l.take (j + 1) = l.take j ++ [x]) (h : (∀ y ∈ l.take j, oneN y = true) ∧ Unlike (l.take j)) (h1 : oneN x = true) (h3 : hasN (l.take j) x.id = false) :
    (∀ y ∈ l.take (j + 1), oneN y = true) ∧ Unlike (l.take (j + 1)) := by
  rw [hs]
  refine ⟨fun y hy => ?_, List.pairwise_append.2 ⟨h.2, by simp, fun a ha b hb => ?_⟩⟩
  · rcases List.mem_append.1 hy with hy | hy
    · exact h.1 y hy
    · simp at hy; subst hy; exact h1
  · simp at hb; subst hb
    intro e
    have := hasN_iff.2 ⟨a, ha, e⟩
    rw [h3] at this; cases this
/-- B is the best of l. -/
structure BestOf (l B : List Nr) (n : Nat) : Prop where
  len : B.length = min n l.length
  right : rightN B (n : Int) = true
  has : ∀ (j : Nat) (x : Nr), l[j]? = some x → hasN B x.id = decide (nearN l x < n)
  at_ : ∀ (j : Nat) (x : Nr), l[j]? = some x → nearN l x < n → nearN l x < B.length ∧ B[nearN l x]? = some x
  all : ∀ m, m.Perm l → bestL m (n : Int) = B
  half : ∀ i, (bestL (l.take i) (n : Int)).length ≤ n
  parts : ∀ i, mergeL (bestL (l.take i) (n : Int)) (l.drop i) (n : Int) = B
theorem bestOf {l : List Nr} {n : Nat} (hn : 1 ≤ n ∧ n ≤ 64) (h1 : ∀ x ∈ l, oneN x = true) (h2 : Unlike l) : BestOf l (bestL l (n : Int)) n := by
  have hk : kB (n : Int) = true := by unfold kB; rw [decide_eq_true_iff]; omega
  have e : ∀ m : List Nr, bestL m (n : Int) = mergeL [] m (n : Int) := fun m => by unfold bestL; rw [if_pos hk]
  have s := best_sort hn h1 h2
  have hat : ∀ (j : Nat) (x : Nr), l[j]? = some x → nearN l x < l.length ∧ (sortN l)[nearN l x]? = some x := fun j x hx => by
    have h3 := near_sort h2 (List.mem_of_getElem? hx)
    have h4 := (List.getElem?_eq_some_iff.1 h3).1
    rw [sort_length] at h4
    exact ⟨h4, h3⟩
  refine ⟨?_, ?_, fun j x hx => ?_, fun j x hx hlt => ?_, fun m hm => ?_, fun i => ?_, fun i => ?_⟩
  · rw [e, s, List.length_take, sort_length]
  · rw [e, s]; exact right_sort hn h1 h2
  · rw [e, s]; exact has_sort h2 (List.mem_of_getElem? hx)
  · rw [e, s, List.length_take, sort_length, List.getElem?_take_of_lt hlt]
    have := hat j x hx
    exact ⟨by omega, this.2⟩
  · rw [e, e, s, best_sort hn (fun x hx => h1 x (hm.mem_iff.1 hx)) ((unlike_perm hm).2 h2), sort_eq hm ((unlike_perm hm).2 h2)]
  · rw [e, best_sort hn (fun x hx => h1 x (List.mem_of_mem_take hx)) (unlike_take h2 i), List.length_take]; omega
  · rw [e, e, ← merge_app, List.take_append_drop]
/-- How far the nearer ones are told. -/
def NjAt (l : List Nr) (y : Nr) (w : World) (c i : Value) (wr : World) : Prop := ∃ j : Nat, j ≤ l.length ∧ i = .int .i64 (j : Int) ∧ c = .int .i64 (nearN (l.take j) y : Int) ∧ Below w.heap.size w wr
theorem near_step {l : List Nr} {j : Nat} {x y : Nr} (hs : l.take (j + 1) = l.take j ++ [x]) : nearN (l.take (j + 1)) y = nearN (l.take j) y + (if lessN x y = true then 1 else 0) := by
  unfold nearN
  rw [hs, List.countP_append, List.countP_singleton]
theorem near_le (l : List Nr) (y : Nr) : nearN l y ≤ l.length := List.countP_le_length
def NiAt (l : List Nr) (w : World) (i : Value) (wr : World) : Prop := ∃ j : Nat, j ≤ l.length ∧ i = .int .i64 (j : Int) ∧ Below w.heap.size w wr
/-- The list turned round, so far. -/
def RvAt (l : List Nr) (w : World) (v i : Value) (wr : World) : Prop := ∃ (j : Nat) (r : List Nr), j ≤ l.length ∧ i = .int .i64 ((j : Int) - 1) ∧ r = (l.drop j).reverse ∧ wr.ownsRow w.heap.size 26 3 v r.length (nrs r) ∧ Below w.heap.size w wr
theorem rev_step {l : List Nr} {j : Nat} {x : Nr} (hx : l[j]? = some x) : (l.drop j).reverse = (l.drop (j + 1)).reverse ++ [x] := by
  obtain ⟨h, rfl⟩ := List.getElem?_eq_some_iff.1 hx
  rw [List.drop_eq_getElem_cons h, List.reverse_cons]
end Go.Proofs.Ytllfecgaadfkoaa
