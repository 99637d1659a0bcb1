/- How a merge goes on; plain. -/
import Derived.Test.YtifpiekajbcoiaaLoFact
namespace Go.Proofs.Ytifpiekajbcoiaa
open Go.RowKit
set_option linter.unusedVariables false
set_option linter.unusedSimpArgs false
set_option maxRecDepth 20000
namespace LoPlain
def firstN (x : List Nat) : Nat := (x.take 1).sum
/-- nn of them have come, the last one was last; A: how many of each list; now: the numbers of the heads. -/
structure Pl (X : List (List Nat)) (A : List Nat) (now : List Int) (hd : List Hd) (last nn count : Nat) : Prop where
  la : A.length = X.length
  ln : now.length = X.length
  lh : hd.length = X.length
  rel : ∀ (i : Nat) (x : List Nat) (a : Nat), X[i]? = some x → A[i]? = some a → a ≤ x.length ∧ ∃ z, hd[i]? = some z ∧ z.o = decide (a = x.length) ∧ (a < x.length → z.s = textS (x.take (a + 1)).sum ∧ now[i]? = some (((x.take (a + 1)).sum : Nat) : Int))
  cnt : (restL X A).flatten.length + nn = count
  up : ∀ v ∈ (restL X A).flatten, last ≤ v
  ok : ∀ x ∈ X, x.length ≤ 12 ∧ ∀ b ∈ x, b ≤ 255
theorem rest_length {X : List (List Nat)} {A : List Nat} (h : A.length = X.length) : (restL X A).length = X.length := by
  unfold restL; rw [List.length_zipWith, h]; omega
theorem rest_of {X : List (List Nat)} {A : List Nat} {i : Nat} {r : List Nat} (h : (restL X A)[i]? = some r) : ∃ x a, X[i]? = some x ∧ A[i]? = some a ∧ r = (vals x).drop a := by
  unfold restL at h
  rw [List.getElem?_zipWith] at h
  cases hx : X[i]? with
  | none => rw [hx] at h; simp at h
  | some x =>
    cases ha : A[i]? with
    | none => rw [hx, ha] at h; simp at h
    | some a => rw [hx, ha] at h; simp at h; exact ⟨x, a, rfl, rfl, h.symm⟩
/-- The head that comes next. -/
structure Pick (X : List (List Nat)) (A : List Nat) (now : List Int) (hd : List Hd) (last : Nat) (i : Nat) (x : List Nat) (a v : Nat) : Prop where
  b : leastB hd = true
  n : leastN hd = (i : Int)
  hx : X[i]? = some x
  ha : A[i]? = some a
  lt : a < x.length
  hv : v = (x.take (a + 1)).sum
  head : headS hd = textS v
  now : now[i]? = some ((v : Nat) : Int)
  up : last ≤ v
  le : v ≤ 3060
  least : ∀ u ∈ (restL X A).flatten, v ≤ u
  perm : (restL X A).flatten.Perm (v :: (restL X (A.set i (a + 1))).flatten)
theorem Pl.pick {X : List (List Nat)} {A : List Nat} {now : List Int} {hd : List Hd} {last nn count : Nat} (h : Pl X A now hd last nn count) (hlt : nn < count) : ∃ i x a v, Pick X A now hd last i x a v := by
  have hne : (restL X A).flatten ≠ [] := by
    intro e
    have := h.cnt
    rw [e] at this; simp at this; omega
  obtain ⟨u, hu⟩ := List.exists_mem_of_ne_nil _ hne
  have on : ∀ (i : Nat) (x : List Nat) (a : Nat), X[i]? = some x → A[i]? = some a → a < x.length → i < hd.length ∧ oAt hd i = false ∧ sAt hd i = textS (x.take (a + 1)).sum := by
    intro i x a hx ha hl
    obtain ⟨_, z, hz, ho, hs⟩ := h.rel i x a hx ha
    refine ⟨(List.getElem?_eq_some_iff.1 hz).1, ?_, ?_⟩
    · rw [oAt_at hz, ho, decide_eq_false (by omega)]
    · rw [sAt_at hz, (hs hl).1]
  obtain ⟨j, r, hr, hv⟩ := flat_mem hu
  obtain ⟨xj, aj, hxj, haj, rfl⟩ := rest_of hr
  have hlj : aj < xj.length := by
    refine Nat.lt_of_not_le fun hle => ?_
    rw [List.drop_eq_nil_of_le (by rw [vals_length]; exact hle)] at hv
    cases hv
  obtain ⟨hj1, hj2, _⟩ := on j xj aj hxj haj hlj
  have hb := least_some hj1 hj2
  have hr := leastN_range hd
  have h0 : 0 ≤ leastN hd := by unfold leastB at hb; rwa [decide_eq_true_iff] at hb
  obtain ⟨i, hi⟩ : ∃ i : Nat, leastN hd = (i : Int) := ⟨(leastN hd).toNat, by omega⟩
  have hil : i < X.length := by have := h.lh; omega
  obtain ⟨x, hx⟩ : ∃ x, X[i]? = some x := ⟨X[i], List.getElem?_eq_getElem hil⟩
  obtain ⟨a, ha⟩ : ∃ a, A[i]? = some a := ⟨A[i]'(by rw [h.la]; exact hil), List.getElem?_eq_getElem _⟩
  have hon := least_on hb
  rw [hi, Int.toNat_natCast] at hon
  obtain ⟨hale, z, hz, ho, hs⟩ := h.rel i x a hx ha
  rw [oAt_at hz, ho, decide_eq_false_iff_not] at hon
  have hal : a < x.length := by omega
  have hxok := h.ok x (List.mem_of_getElem? hx)
  have hvle : (x.take (a + 1)).sum ≤ 3060 := by have := sum_le x (a + 1) hxok.2; omega
  have hmin : ∀ u ∈ (restL X A).flatten, (x.take (a + 1)).sum ≤ u := by
    intro u hu
    obtain ⟨j, r, hr, hv⟩ := flat_mem hu
    obtain ⟨xj, aj, hxj, haj, rfl⟩ := rest_of hr
    have hlj : aj < xj.length := by
      refine Nat.lt_of_not_le fun hle => ?_
      rw [List.drop_eq_nil_of_le (by rw [vals_length]; exact hle)] at hv
      cases hv
    obtain ⟨hj1, hj2, hj3⟩ := on j xj aj hxj haj hlj
    have hm := least_min hb hj1 hj2
    have hsi := (on i x a hx ha hal).2.2
    rw [hi, Int.toNat_natCast, hj3, hsi] at hm
    have hjok := h.ok xj (List.mem_of_getElem? hxj)
    have hle2 : (xj.take (aj + 1)).sum ≤ 3060 := by have := sum_le xj (aj + 1) hjok.2; omega
    rw [text_less (by omega) (by omega), decide_eq_false_iff_not] at hm
    have := drop_ge hlj u hv
    omega
  have hrest := rest_at hx ha
  rw [vals_drop hal] at hrest
  refine ⟨i, x, a, _, ⟨hb, hi, hx, ha, hal, rfl, ?_, (hs hal).2, ?_, hvle, hmin, ?_⟩⟩
  · unfold headS; rw [if_pos hb, hi, Int.toNat_natCast]; exact (on i x a hx ha hal).2.2
  · exact h.up _ (List.mem_flatten.2 ⟨_, List.mem_of_getElem? hrest, by simp⟩)
  · rw [rest_set hx]; exact flat_pop hrest
theorem Pl.next {X : List (List Nat)} {A : List Nat} {now : List Int} {hd : List Hd} {last nn count i a v : Nat} {x : List Nat} (h : Pl X A now hd last nn count) (k : Pick X A now hd last i x a v) (s : ByteArray) (o : Bool) (now' : List Int) (hln : now'.length = X.length)
    (hother : ∀ j, j ≠ i → now'[j]? = now[j]?) (ho : o = decide (a + 1 = x.length)) (hs : a + 1 < x.length → s = textS (x.take (a + 2)).sum ∧ now'[i]? = some (((x.take (a + 2)).sum : Nat) : Int)) :
    Pl X (A.set i (a + 1)) now' (nextL hd s o) v (nn + 1) count := by
  have hil : i < X.length := (List.getElem?_eq_some_iff.1 k.hx).1
  have hN : nextL hd s o = hd.set i ⟨s, o⟩ := by unfold nextL; rw [if_pos k.b, k.n, Int.toNat_natCast]
  have hlen := k.perm.length_eq
  refine ⟨by rw [List.length_set]; exact h.la, hln, by rw [nextL_length]; exact h.lh, fun j y b hy hb => ?_, ?_, fun u hu => k.least u (k.perm.symm.subset (by simp [hu])), h.ok⟩
  · by_cases hji : j = i
    · subst hji
      rw [k.hx] at hy
      cases hy
      rw [List.getElem?_set_self (by rw [h.la]; exact hil)] at hb
      cases hb
      refine ⟨k.lt, ⟨s, o⟩, by rw [hN, List.getElem?_set_self (by rw [h.lh]; exact hil)], ho, hs⟩
    · rw [List.getElem?_set_ne (Ne.symm hji)] at hb
      obtain ⟨h1, z, hz, h2, h3⟩ := h.rel j y b hy hb
      exact ⟨h1, z, by rw [hN, List.getElem?_set_ne (Ne.symm hji)]; exact hz, h2, fun hl => ⟨(h3 hl).1, by rw [hother j hji]; exact (h3 hl).2⟩⟩
  · have := h.cnt
    rw [List.length_cons] at hlen
    omega
theorem Pl.end {X : List (List Nat)} {A : List Nat} {now : List Int} {hd : List Hd} {last count : Nat} (h : Pl X A now hd last count count) : (restL X A).flatten = [] ∧ leastB hd = false := by
  have he : (restL X A).flatten = [] := List.eq_nil_of_length_eq_zero (by have := h.cnt; omega)
  refine ⟨he, ?_⟩
  cases hb : leastB hd
  · rfl
  · exfalso
    have hr := leastN_range hd
    have h0 : 0 ≤ leastN hd := by unfold leastB at hb; rwa [decide_eq_true_iff] at hb
    obtain ⟨i, hi⟩ : ∃ i : Nat, leastN hd = (i : Int) := ⟨(leastN hd).toNat, by omega⟩
    have hil : i < X.length := by have := h.lh; omega
    have hx : X[i]? = some X[i] := List.getElem?_eq_getElem hil
    have ha : A[i]? = some (A[i]'(by rw [h.la]; exact hil)) := List.getElem?_eq_getElem _
    have hon := least_on hb
    rw [hi, Int.toNat_natCast] at hon
    obtain ⟨hale, z, hz, ho, _⟩ := h.rel i _ _ hx ha
    rw [oAt_at hz, ho, decide_eq_false_iff_not] at hon
    have hal : A[i]'(by rw [h.la]; exact hil) < X[i].length := by omega
    have hrest := rest_at hx ha
    rw [vals_drop hal] at hrest
    have : (X[i].take (A[i]'(by rw [h.la]; exact hil) + 1)).sum ∈ (restL X A).flatten := List.mem_flatten.2 ⟨_, List.mem_of_getElem? hrest, by simp⟩
    rw [he] at this; cases this
theorem Pl.start {X : List (List Nat)} (hok : ∀ x ∈ X, x.length ≤ 12 ∧ ∀ b ∈ x, b ≤ 255) : Pl X (List.replicate X.length 0) (X.map fun x => ((firstN x : Nat) : Int)) (mkL (X.map fun x => textS (firstN x)) (X.map fun x => decide (x.length = 0))) 0 0 (X.map vals).flatten.length := by
  refine ⟨by simp, by simp, by rw [mkL_length]; simp, fun i x a hx ha => ?_, by rw [rest_zero]; omega, fun v _ => Nat.zero_le _, hok⟩
  have hil : i < X.length := (List.getElem?_eq_some_iff.1 hx).1
  rw [List.getElem?_replicate, if_pos hil] at ha
  cases ha
  have hz := mkL_at (X.map fun x => textS (firstN x)) (X.map fun x => decide (x.length = 0)) i (textS (firstN x)) (by rw [List.getElem?_map, hx]; rfl)
  refine ⟨Nat.zero_le _, _, hz, ?_, fun hl => ⟨rfl, by rw [List.getElem?_map, hx]; rfl⟩⟩
  show ((X.map fun x => decide (x.length = 0))[i]?).getD false = _
  rw [List.getElem?_map, hx]
  show decide (x.length = 0) = decide (0 = x.length)
  apply Bool.eq_iff_iff.2
  simp only [decide_eq_true_iff]
  exact eq_comm
end LoPlain
end Go.Proofs.Ytifpiekajbcoiaa
