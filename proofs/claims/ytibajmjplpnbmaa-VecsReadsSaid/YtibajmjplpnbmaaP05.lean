/- In one text: VcRow. -/
import Derived.Test.YtibajmjplpnbmaaP02
import Derived.Test.YtibajmjplpnbmaaP04
import Derived.WalkSmall
/- Rows of one's own of vectors that are kept (an id, and the slice of its numbers); the slices as parts of a world. -/
namespace Go.Proofs.Ytibajmjplpnbmaa
open Go.RowKit
set_option linter.unusedVariables false
set_option linter.unusedSimpArgs false
set_option maxRecDepth 20000
/-- A vector that is kept: its id, its slice, its numbers. -/
structure Kp where
  id : Int
  ad : Option Addr
  cap : Nat
  l : List Int
def Kp.v (x : Kp) : Value := .slice x.ad x.l.length x.cap
def kvs : List Kp → List Value
  | [] => []
  | x :: r => .int .i64 x.id :: x.v :: kvs r
theorem kvs_length : ∀ l : List Kp, (kvs l).length = l.length * 2
  | [] => rfl
  | x :: l => by simp only [kvs, List.length_cons, kvs_length l]; omega
theorem kvs_app : ∀ (l m : List Kp), kvs (l ++ m) = kvs l ++ kvs m
  | [], m => rfl
  | y :: l, m => by simp only [kvs, List.cons_append, kvs_app l m]
theorem kvs_at : ∀ {l : List Kp} {j : Nat} {x : Kp}, l[j]? = some x → (kvs l)[j * 2]? = some (.int .i64 x.id) ∧ (kvs l)[j * 2 + 1]? = some x.v
  | [], j, x, h => by simp at h
  | y :: l, 0, x, h => by
    obtain rfl : y = x := by simpa using h
    exact ⟨rfl, rfl⟩
  | y :: l, j + 1, x, h => by
    have h' : l[j]? = some x := by simpa using h
    have e : (j + 1) * 2 = j * 2 + 1 + 1 := by omega
    obtain ⟨h1, h2⟩ := kvs_at h'
    rw [e]
    simp only [kvs, List.getElem?_cons_succ]
    exact ⟨h1, h2⟩
theorem kvs_set : ∀ (l : List Kp) (j : Nat) (x : Kp), kvs (l.set j x) = ((kvs l).set (j * 2) (.int .i64 x.id)).set (j * 2 + 1) x.v
  | [], j, x => by simp [kvs]
  | y :: l, 0, x => rfl
  | y :: l, j + 1, x => by
    have e : (j + 1) * 2 = j * 2 + 1 + 1 := by omega
    rw [e]
    simp only [List.set_cons_succ, kvs, kvs_set l j x]
theorem kvs_take : ∀ (l : List Kp) (m : Nat), (kvs l).take (m * 2) = kvs (l.take m)
  | [], m => by simp [kvs]
  | y :: l, 0 => by simp [kvs]
  | y :: l, m + 1 => by
    have e : (m + 1) * 2 = m * 2 + 1 + 1 := by omega
    rw [e]
    simp only [kvs, List.take_succ_cons, kvs_take l m]
/-- A row of one's own of what is kept. -/
def OwnK (w : World) (v : Value) (K : List Kp) : Prop := w.ownsRow 0 79 2 v K.length (kvs K)
theorem ownK_nil (w : World) : OwnK w (.slice none 0 0) [] := World.ownsRow_nil _ _ _ _
theorem ownK_shape {w : World} {v : Value} {K : List Kp} (h : OwnK w v K) : ∃ a c, v = .slice a K.length c ∧ K.length ≤ c ∧ (1 ≤ K.length → ∃ g, a = some ⟨g, 0, none⟩ ∧ g < w.heap.size) := by
  have hl := h.lt
  obtain ⟨_, p⟩ := h
  rcases p with ⟨rfl, z⟩ | ⟨g, cap, cur, rfl, _, _, hn, _⟩
  · exact ⟨none, 0, by rw [z], by omega, fun h => by omega⟩
  · exact ⟨_, cap, rfl, hn, fun _ => ⟨g, rfl, (hl g rfl).2⟩⟩
theorem ownK_cells {w : World} {g c : Nat} {K : List Kp} (h : OwnK w (.slice (some ⟨g, 0, none⟩) K.length c) K) {j : Nat} {x : Kp} (hj : K[j]? = some x) : w.cell? ⟨g, j * 2, none⟩ = some (.int .i64 x.id) ∧ w.cell? ⟨g, j * 2 + 1, none⟩ = some x.v := by
  obtain ⟨h1, h2⟩ := kvs_at hj
  have hlt := (List.getElem?_eq_some_iff.1 hj).1
  exact ⟨by rw [h.cellAt (j * 2) (by omega)]; exact h1, by rw [h.cellAt (j * 2 + 1) (by omega)]; exact h2⟩
theorem ownK_free {w : World} {g c : Nat} {K : List Kp} (h : OwnK w (.slice (some ⟨g, 0, none⟩) K.length c) K) (j : Nat) : w.frozen? ⟨g, j, none⟩ = false := h.frozenAt j
theorem ownK_gr {w w' : World} {v : Value} {K : List Kp} (h : OwnK w v K) (g : Gr w w') : OwnK w' v K := ownsRow_gr h g
/-- One of them is stored anew. -/
theorem ownK_set {w : World} {g c : Nat} {K : List Kp} (h : OwnK w (.slice (some ⟨g, 0, none⟩) K.length c) K) (j : Nat) (x : Kp) : OwnK ((w.setCell ⟨g, j * 2, none⟩ (.int .i64 x.id)).setCell ⟨g, j * 2 + 1, none⟩ x.v) (.slice (some ⟨g, 0, none⟩) K.length c) (K.set j x) := by
  have := ((h.stored (j * 2) (.int .i64 x.id)).1.stored (j * 2 + 1) x.v).1
  unfold OwnK
  rw [List.length_set, kvs_set]
  exact this
/-- The first ones of them. -/
theorem ownK_take {w : World} {a : Option Addr} {n c : Nat} {K : List Kp} (h : OwnK w (.slice a n c) K) (m : Nat) (hm : m ≤ K.length) : OwnK w (.slice a m c) (K.take m) := by
  have hlm : (K.take m).length = m := by rw [List.length_take]; omega
  obtain ⟨h1, q⟩ := h
  unfold OwnK
  refine ⟨kvs_length _, ?_⟩
  rw [hlm]
  rcases q with ⟨e, z⟩ | ⟨g, cap, cur, e, hB, hg, hn, hcm, hcs, hcl⟩
  · cases e
    exact .inl ⟨by rw [show m = 0 by omega], by omega⟩
  · cases e
    exact .inr ⟨g, c, cur, rfl, hB, hg, by omega, hcm, hcs, by rw [← kvs_take, ← hcl, List.take_take, Nat.min_eq_left (by omega)]⟩
/-- A segment of them turned round. -/
def revK (K : List Kp) (o m : Nat) : List Kp := K.take o ++ (((K.drop o).take m).reverse ++ K.drop (o + m))
theorem revK_at (K : List Kp) (o m : Nat) (h : o + m ≤ K.length) (t : Nat) : (revK K o m)[t]? = if o ≤ t ∧ t < o + m then K[2 * o + m - 1 - t]? else K[t]? := by
  unfold revK
  have l1 : (K.take o).length = o := by rw [List.length_take]; omega
  have l2 : ((K.drop o).take m).length = m := by rw [List.length_take, List.length_drop]; omega
  by_cases h1 : t < o
  · rw [if_neg (by omega), List.getElem?_append_left (by omega), List.getElem?_take, if_pos h1]
  · rw [List.getElem?_append_right (by omega), l1]
    by_cases h2 : t < o + m
    · rw [if_pos (by omega), List.getElem?_append_left (by rw [List.length_reverse]; omega), List.getElem?_reverse (by omega), l2, List.getElem?_take, if_pos (by omega), List.getElem?_drop]
      congr 1; omega
    · rw [if_neg (by omega), List.getElem?_append_right (by rw [List.length_reverse]; omega), List.length_reverse, l2, List.getElem?_drop]
      congr 1; omega
theorem revK_length (K : List Kp) (o m : Nat) (h : o + m ≤ K.length) : (revK K o m).length = K.length := by
  unfold revK
  simp only [List.length_append, List.length_reverse, List.length_take, List.length_drop]; omega
/-- Halfway: r from either end have changed places. -/
def HalfK (K : List Kp) (o m r : Nat) (L : List Kp) : Prop := L.length = K.length ∧ ∀ t, L[t]? = if o ≤ t ∧ t < o + m ∧ (t < o + r ∨ o + m ≤ t + r) then K[2 * o + m - 1 - t]? else K[t]?
theorem half_zero (K : List Kp) (o m : Nat) : HalfK K o m 0 K := ⟨rfl, fun t => by rw [if_neg (by omega)]⟩
theorem half_all {K L : List Kp} {o m r : Nat} (h : o + m ≤ K.length) (hL : HalfK K o m r L) (hr : m ≤ 2 * r + 1) : L = revK K o m := by
  apply List.ext_getElem?
  intro t
  rw [hL.2 t, revK_at K o m h t]
  by_cases h1 : o ≤ t ∧ t < o + m
  · rw [if_pos h1]
    by_cases h2 : t < o + r ∨ o + m ≤ t + r
    · rw [if_pos ⟨h1.1, h1.2, h2⟩]
    · rw [if_neg (by omega)]
      congr 1; omega
  · rw [if_neg h1, if_neg (by omega)]
theorem half_step {K L : List Kp} {o m r : Nat} {x y : Kp} (h : o + m ≤ K.length) (hL : HalfK K o m r L) (hr : 2 * r + 1 < m) (hx : L[o + r]? = some x) (hy : L[o + m - 1 - r]? = some y) : HalfK K o m (r + 1) ((L.set (o + r) y).set (o + m - 1 - r) x) := by
  obtain ⟨h1, h2⟩ := hL
  refine ⟨by rw [List.length_set, List.length_set]; exact h1, fun t => ?_⟩
  have ex := h2 (o + r)
  rw [hx, if_neg (by omega)] at ex
  have ey := h2 (o + m - 1 - r)
  rw [hy, if_neg (by omega)] at ey
  rw [List.getElem?_set, List.getElem?_set]
  by_cases ha : o + m - 1 - r = t
  · rw [if_pos ha, if_pos (by rw [List.length_set]; omega), if_pos (by omega), ex]
    congr 1; omega
  · rw [if_neg ha]
    by_cases hb : o + r = t
    · rw [if_pos hb, if_pos (by omega), if_pos (by omega), ey]
      congr 1; omega
    · rw [if_neg hb, h2 t]
      by_cases hc : o ≤ t ∧ t < o + m ∧ (t < o + r ∨ o + m ≤ t + r)
      · rw [if_pos hc, if_pos (by omega)]
      · rw [if_neg hc, if_neg (by omega)]
/-! As parts of a world. -/
/-- The row. -/
def RowK (v : Value) (K : List Kp) : Asn := fun w B => OwnK w v K ∧ (∀ b, v.ownBlock = some b → B b) ∧ ∀ b, B b → b < w.heap.size
theorem fr_rowK (v : Value) (K : List Kp) : Fr (RowK v K) where
  fr := fun {w w' B C} ⟨h, hB, hl⟩ o d => by
    refine ⟨⟨h.1, ?_⟩, hB, fun b hb => Nat.lt_of_lt_of_le (hl b hb) o.size⟩
    rcases h.2 with h3 | ⟨g, cap, cur, rfl, h4, h5, h6⟩
    · exact .inl h3
    · exact .inr ⟨g, cap, cur, rfl, h4, by rw [o.block _ (lt_of_block h5) (d g (hB g rfl))]; exact h5, h6⟩
  lo := fun ⟨_, _, hl⟩ => hl
theorem rowK_nil (w : World) : RowK (.slice none 0 0) [] w (fun _ => False) := ⟨ownK_nil w, (fun b hb => by cases hb), fun b hb => hb.elim⟩
/-- Behind a step that wrote at most the row. -/
theorem rowK_next {v v' : Value} {K K' : List Kp} {w w1 w' : World} {B : Nat → Prop} (h : RowK v K w B) (g : Gr w w1) (hown : OwnK w' v' K') (hg : w1.grownBy w' v.ownBlock) (hat : v'.ownBlock = v.ownBlock ∨ v'.ownBlock = some w1.heap.size) : ∃ B', RowK v' K' w' B' ∧ Nx B w B' w' := by
  obtain ⟨_, hB, hl⟩ := h
  refine ⟨fun b => v'.ownBlock = some b, ⟨hown, fun b hb => hb, fun b hb => (hown.lt b hb).2⟩, ?_, fun b hb => ?_⟩
  · exact (Only.ofGr g).trans (Only.grown hg hB)
  · rcases hat with h1 | h1
    · rw [h1] at hb; exact .inl (hB b hb)
    · rw [h1] at hb; simp only [Option.some.injEq] at hb; rw [← hb]; exact .inr g.size
/-- The slices of what is kept, which nobody writes. -/
def VecA (K : List Kp) : Asn := fun w B => (∀ x ∈ K, LiesI w x.v x.l ∧ ∀ b off n c, x.v = .slice (some ⟨b, off, none⟩) n c → B b) ∧ ∀ b, B b → b < w.heap.size
theorem fr_vec (K : List Kp) : Fr (VecA K) where
  fr := fun {w w' B C} ⟨h, hl⟩ o d => by
    refine ⟨fun x hx => ?_, fun b hb => Nat.lt_of_lt_of_le (hl b hb) o.size⟩
    obtain ⟨⟨a, c, e, hc, hh⟩, hB⟩ := h x hx
    refine ⟨⟨a, c, e, hc, hh.imp id ?_⟩, hB⟩
    rintro ⟨b, off, rfl, hr⟩
    have hb := hB b off _ _ e
    refine ⟨b, off, rfl, Nat.lt_of_lt_of_le hr.1 o.size, fun j u hj => ?_⟩
    rw [o.cell (p := ⟨b, off + j, none⟩) hr.1 (d b hb)]
    exact hr.2 j u hj
  lo := fun ⟨_, hl⟩ => hl
theorem vec_nil (w : World) : VecA [] w (fun _ => False) := ⟨(fun x hx => by cases hx), fun b hb => hb.elim⟩
/-- Fewer of them, or in another order. -/
theorem vec_sub {K K' : List Kp} {w : World} {B : Nat → Prop} (h : VecA K w B) (hs : ∀ x ∈ K', x ∈ K) : VecA K' w B := ⟨fun x hx => h.1 x (hs x hx), h.2⟩
/-- One more, which is new. -/
theorem vec_one {K : List Kp} {w w' : World} {B : Nat → Prop} (h : VecA K w B) (g : Gr w w') {i : Int} {a : Option Addr} {c : Nat} {l : List Int} (hv : w'.ownsRow w.heap.size 3 1 (.slice a l.length c) l.length (ints l)) : ∃ B', VecA (K ++ [⟨i, a, c, l⟩]) w' B' ∧ Nx B w B' w' := by
  have h' : VecA K w' B := star_gr (fr_vec K) h g
  refine ⟨fun b => B b ∨ (Value.slice a l.length c).ownBlock = some b, ⟨fun x hx => ?_, fun b hb => hb.elim (h'.2 b) fun e => (hv.lt b e).2⟩, Only.ofGr g, fun b hb => hb.elim .inl fun e => .inr (hv.lt b e).1⟩
  rcases List.mem_append.1 hx with hx | hx
  · obtain ⟨h1, h2⟩ := h'.1 x hx
    exact ⟨h1, fun b off n c e => .inl (h2 b off n c e)⟩
  · obtain rfl : x = ⟨i, a, c, l⟩ := by simpa using hx
    refine ⟨liesI_own hv, fun b off n c' e => .inr ?_⟩
    have e2 : (Value.slice a l.length c) = .slice (some ⟨b, off, none⟩) n c' := e
    rw [e2]; rfl
end Go.Proofs.Ytibajmjplpnbmaa
