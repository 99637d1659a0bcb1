/- In one text: RnFact, MgPlain, RdStand. -/
import Derived.Test.YtpmglnghnelenaaGreatP26
import Derived.WalkKit
import Derived.ProofKit
import Derived.Handy
import Derived.Test.YtpmglnghnelenaaGreatP24
import Derived.Test.YtpmglnghnelenaaGreatP10
import Derived.Test.YtpmglnghnelenaaGreatP15
import Derived.Test.YtpmglnghnelenaaGreatP12
/- Texts in order: whoever sorts them, they are the same; plain. -/
namespace Go.Proofs.YtpmglnghnelenaaGreat
open Go.RowKit LoPlain
set_option linter.unusedVariables false
set_option linter.unusedSimpArgs false
set_option maxRecDepth 20000
namespace RnPlain
theorem bl_total : ∀ {a b : List UInt8}, Op.bytesLess a b = false → Op.bytesLess b a = false → a = b
  | [], [], _, _ => rfl
  | [], _ :: _, h, _ => by simp [Op.bytesLess] at h
  | _ :: _, [], _, h => by simp [Op.bytesLess] at h
  | x :: a, y :: b, h, k => by
    simp only [Op.bytesLess, Bool.or_eq_false_iff, Bool.and_eq_false_imp, decide_eq_false_iff_not, beq_iff_eq] at h k
    have hxy : x = y := by
      have h1 := h.1
      have h2 := k.1
      rw [UInt8.not_lt] at h1 h2
      exact UInt8.le_antisymm h2 h1
    subst hxy
    rw [bl_total (h.2 rfl) (k.2 rfl)]
theorem toList_inj {a b : ByteArray} (h : a.toList = b.toList) : a = b := by
  rw [Lib.toList_data, Lib.toList_data] at h
  exact ByteArray.ext (Array.toList_inj.1 h)
theorem le_iff {a b : ByteArray} : leT a b = true ↔ ltT b a = false := by
  unfold leT ltT
  simp only [Bool.or_eq_true, beq_iff_eq]
  constructor
  · rintro (h | h)
    · cases h2 : Op.bytesLess b.toList a.toList
      · rfl
      · have := bl_trans h h2
        rw [bl_irrefl] at this; cases this
    · rw [h]; exact bl_irrefl _
  · intro h
    cases h2 : Op.bytesLess a.toList b.toList
    · exact .inr (bl_total h2 h)
    · exact .inl rfl
theorem le_refl16 (a : ByteArray) : leT a a = true := by unfold leT; simp
theorem le_total {a b : ByteArray} (h : leT a b = false) : leT b a = true := by
  rw [le_iff]
  unfold leT at h
  rw [Bool.or_eq_false_iff] at h
  exact h.1
theorem le_antisymm {a b : ByteArray} (h : leT a b = true) (k : leT b a = true) : a = b := by
  rw [le_iff] at h k
  exact toList_inj (bl_total k h)
theorem le_trans {a b c : ByteArray} (h : leT a b = true) (k : leT b c = true) : leT a c = true := by
  unfold leT at h k ⊢
  simp only [Bool.or_eq_true, beq_iff_eq] at h k ⊢
  rcases h with h | h
  · rcases k with k | k
    · exact .inl (bl_trans h k)
    · exact .inl (by unfold ltT at *; rw [← k]; exact h)
  · rcases k with k | k
    · exact .inl (by unfold ltT at *; rw [h]; exact k)
    · exact .inr (h.trans k)
def Srt (l : List ByteArray) : Prop := l.Pairwise fun a b => leT a b = true
theorem insT_perm (l : List ByteArray) (s : ByteArray) : (insT l s).Perm (s :: l) := by
  unfold insT
  refine List.perm_middle.trans (List.Perm.cons _ ?_)
  rw [List.takeWhile_append_dropWhile]
theorem insT_srt : ∀ {l : List ByteArray} {s : ByteArray}, Srt l → Srt (insT l s)
  | [], s, _ => by simp [insT, Srt]
  | x :: r, s, h => by
    have hr : Srt r := (List.pairwise_cons.1 h).2
    have hx := (List.pairwise_cons.1 h).1
    cases hle : leT x s
    · have e : insT (x :: r) s = s :: x :: r := by simp [insT, List.takeWhile, List.dropWhile, hle]
      rw [e]
      refine List.pairwise_cons.2 ⟨fun y hy => ?_, h⟩
      rcases List.mem_cons.1 hy with rfl | hy
      · exact le_total hle
      · exact le_trans (le_total hle) (hx y hy)
    · have e : insT (x :: r) s = x :: insT r s := by simp [insT, List.takeWhile_cons, List.dropWhile_cons, hle]
      rw [e]
      refine List.pairwise_cons.2 ⟨fun y hy => ?_, insT_srt hr⟩
      rcases List.mem_cons.1 ((insT_perm r s).subset hy) with rfl | hy
      · exact hle
      · exact hx y hy
theorem putT_srt {u : Bool} {l : List ByteArray} {s : ByteArray} (h : Srt l) : Srt (putT u l s) := by
  unfold putT
  split
  · exact insT_srt h
  · exact h
theorem foldl_srt {u : Bool} : ∀ (l acc : List ByteArray), Srt acc → Srt (l.foldl (putT u) acc)
  | [], acc, h => h
  | x :: r, acc, h => foldl_srt r _ (putT_srt h)
theorem sortT_srt (l : List ByteArray) (u : Bool) : Srt (sortT l u) := foldl_srt l [] (by simp [Srt])
theorem sortT_perm (l : List ByteArray) : (sortT l false).Perm l := by
  have key : ∀ (l acc : List ByteArray), (l.foldl (putT false) acc).Perm (acc ++ l) := by
    intro l
    induction l with
    | nil => intro acc; simp
    | cons x r ih =>
      intro acc
      have h1 : putT false acc x = insT acc x := by unfold putT; simp
      rw [List.foldl_cons, h1]
      exact (ih _).trans (((insT_perm acc x).append_right r).trans (List.perm_middle.symm))
  simpa [sortT] using key l []
theorem srt_unique : ∀ {a b : List ByteArray}, Srt a → Srt b → a.Perm b → a = b
  | [], b, _, _, h => (List.nil_perm.1 h).symm ▸ rfl
  | x :: a, [], _, _, h => by simp at h
  | x :: a, y :: b, ha, hb, h => by
    have hxy : x = y := by
      have h1 := (List.pairwise_cons.1 ha).1
      have h2 := (List.pairwise_cons.1 hb).1
      have hx : x ∈ y :: b := h.subset (by simp)
      have hy : y ∈ x :: a := h.symm.subset (by simp)
      rcases List.mem_cons.1 hx with e | hx
      · exact e
      · rcases List.mem_cons.1 hy with e | hy
        · exact e.symm
        · exact le_antisymm (h1 y hy) (h2 x hx)
    subst hxy
    rw [srt_unique (List.pairwise_cons.1 ha).2 (List.pairwise_cons.1 hb).2 (List.Perm.cons_inv h)]
/-- Whoever sorts them: the same. -/
theorem sortT_is {l r : List ByteArray} (h : Srt r) (p : r.Perm l) : r = sortT l false := srt_unique h (sortT_srt l false) (p.trans (sortT_perm l).symm)
theorem hasT_iff {l : List ByteArray} {s : ByteArray} : hasT l s = true ↔ s ∈ l := by
  unfold hasT
  rw [List.any_eq_true]
  constructor
  · rintro ⟨x, hx, e⟩
    rw [decide_eq_true_iff] at e
    exact e ▸ hx
  · exact fun h => ⟨s, h, by simp⟩
theorem sortU (l : List ByteArray) : (sortT l true).Nodup ∧ ∀ x, x ∈ sortT l true ↔ x ∈ l := by
  have key : ∀ (l acc : List ByteArray), acc.Nodup → (l.foldl (putT true) acc).Nodup ∧ ∀ x, x ∈ l.foldl (putT true) acc ↔ x ∈ acc ∨ x ∈ l := by
    intro l
    induction l with
    | nil => intro acc h; exact ⟨h, by simp⟩
    | cons y r ih =>
      intro acc h
      rw [List.foldl_cons]
      cases hh : hasT acc y
      · have h1 : putT true acc y = insT acc y := by unfold putT; rw [hh]; rfl
        rw [h1]
        have hn : y ∉ acc := fun e => by rw [hasT_iff.2 e] at hh; cases hh
        obtain ⟨k1, k2⟩ := ih (insT acc y) ((insT_perm acc y).nodup_iff.2 (List.nodup_cons.2 ⟨hn, h⟩))
        refine ⟨k1, fun x => ?_⟩
        rw [k2 x, (insT_perm acc y).mem_iff, List.mem_cons, List.mem_cons]
        constructor
        · rintro ((h | h) | h) <;> simp [h]
        · rintro (h | h | h) <;> simp [h]
      · have h1 : putT true acc y = acc := by unfold putT; rw [hh]; rfl
        rw [h1]
        obtain ⟨k1, k2⟩ := ih acc h
        refine ⟨k1, fun x => ?_⟩
        rw [k2 x, List.mem_cons]
        have hy := hasT_iff.1 hh
        constructor
        · rintro (h | h) <;> simp [h]
        · rintro (h | rfl | h)
          · exact .inl h
          · exact .inl hy
          · exact .inr h
  obtain ⟨h1, h2⟩ := key l [] (by simp)
  exact ⟨h1, fun x => by rw [show sortT l true = l.foldl (putT true) [] from rfl, h2 x]; simp⟩
/-- Whoever sorts them, and leaves out like ones: the same. -/
theorem sortT_isU {l r : List ByteArray} (h : Srt r) (n : r.Nodup) (m : ∀ x, x ∈ r ↔ x ∈ l) : r = sortT l true :=
  srt_unique h (sortT_srt l true) ((List.perm_ext_iff_of_nodup n (sortU l).1).2 fun x => by rw [m x, (sortU l).2 x])
end RnPlain
end Go.Proofs.YtpmglnghnelenaaGreat
/- A merge of texts that rise, step by step; plain. -/
namespace Go.Proofs.YtpmglnghnelenaaGreat
open Go.RowKit LoPlain
set_option linter.unusedVariables false
set_option linter.unusedSimpArgs false
set_option maxRecDepth 20000
namespace RnPlain
theorem sort_perm {a b : List ByteArray} (u : Bool) (h : a.Perm b) : sortT a u = sortT b u := by
  cases u
  · exact sortT_is (sortT_srt a false) ((sortT_perm a).trans h)
  · exact sortT_isU (sortT_srt a true) (sortU a).1 fun x => by rw [(sortU a).2 x]; exact h.mem_iff
theorem ins_last : ∀ {l : List ByteArray} {x : ByteArray}, (∀ y ∈ l, leT y x = true) → insT l x = l ++ [x]
  | [], x, _ => rfl
  | y :: l, x, h => by
    have h1 := h y (by simp)
    have h2 := ins_last (l := l) (x := x) fun z hz => h z (by simp [hz])
    have e : insT (y :: l) x = y :: insT l x := by simp [insT, List.takeWhile_cons, List.dropWhile_cons, h1]
    rw [e, h2]; rfl
/-- One more that is no earlier than all that are there. -/
def putEnd (u : Bool) (l : List ByteArray) (x : ByteArray) : List ByteArray := if u = true ∧ l.getLast? = some x then l else l ++ [x]
theorem put_last {u : Bool} {l : List ByteArray} {x : ByteArray} (hs : Srt l) (h : ∀ y ∈ l, leT y x = true) : putT u l x = putEnd u l x := by
  have key : hasT l x = true ↔ l.getLast? = some x := by
    rw [hasT_iff]
    constructor
    · intro hx
      have hne : l ≠ [] := fun e => by rw [e] at hx; cases hx
      rw [List.getLast?_eq_some_getLast hne]
      congr 1
      refine le_antisymm (h _ (List.getLast_mem hne)) ?_
      rcases List.mem_iff_getElem.1 hx with ⟨i, hi, rfl⟩
      rw [List.getLast_eq_getElem]
      by_cases e : i = l.length - 1
      · subst e; exact le_refl16 _
      · exact (List.pairwise_iff_getElem.1 hs) i (l.length - 1) hi (by omega) (by omega)
    · intro hx
      exact List.mem_of_getLast? hx
  unfold putT putEnd
  cases u
  · simp [ins_last h]
  · by_cases hx : l.getLast? = some x
    · rw [if_neg (by rw [key.2 hx]; decide), if_pos ⟨rfl, hx⟩]
    · rw [if_pos (by cases hh : hasT l x; rfl; exact absurd (key.1 hh) hx), if_neg (fun k => hx k.2), ins_last h]
/-- What has come of each, what comes next of each, and what all that came makes. -/
structure Mid (u : Bool) (T : List (List ByteArray)) (H : List Hd) (done : List ByteArray) : Prop where
  len : H.length = T.length
  rise : ∀ (i : Nat) (t : List ByteArray) (z : Hd), T[i]? = some t → H[i]? = some z → Srt t ∧ (z.o = false → Srt (t ++ [z.s]))
  is : done = sortT T.flatten u
  up : ∀ x ∈ T.flatten, ∀ (i : Nat) (z : Hd), H[i]? = some z → z.o = false → leT x z.s = true
theorem flat_rep : ∀ n : Nat, (List.replicate n ([] : List ByteArray)).flatten = []
  | 0 => rfl
  | n + 1 => by rw [List.replicate_succ, List.flatten_cons, flat_rep n]; rfl
theorem mid_start (u : Bool) (H : List Hd) : Mid u (List.replicate H.length []) H [] := by
  refine ⟨by simp, fun i t z ht hz => ?_, by rw [flat_rep]; rfl, fun x hx => by rw [flat_rep] at hx; cases hx⟩
  rw [List.getElem?_replicate] at ht
  split at ht
  · cases ht
    exact ⟨by simp [Srt], fun _ => by simp [Srt]⟩
  · cases ht
/-- The least head. -/
structure PickM (T : List (List ByteArray)) (H : List Hd) (i : Nat) (t : List ByteArray) (x : ByteArray) : Prop where
  b : leastB H = true
  n : leastN H = (i : Int)
  t : T[i]? = some t
  h : H[i]? = some ⟨x, false⟩
  head : headS H = x
  least : ∀ (j : Nat) (z : Hd), H[j]? = some z → z.o = false → leT x z.s = true
theorem Mid.pick {u : Bool} {T : List (List ByteArray)} {H : List Hd} {done : List ByteArray} (m : Mid u T H done) (hb : leastB H = true) : ∃ i t x, PickM T H i t x := by
  have hr := leastN_range H
  have h0 : 0 ≤ leastN H := by unfold leastB at hb; rwa [decide_eq_true_iff] at hb
  obtain ⟨i, hi⟩ : ∃ i : Nat, leastN H = (i : Int) := ⟨(leastN H).toNat, by omega⟩
  have hil : i < H.length := by omega
  have hz : H[i]? = some H[i] := List.getElem?_eq_getElem hil
  have ht : T[i]? = some (T[i]'(by rw [← m.len]; exact hil)) := List.getElem?_eq_getElem _
  have hon := least_on hb
  rw [hi, Int.toNat_natCast, oAt_at hz] at hon
  have hs : sAt H i = H[i].s := sAt_at hz
  refine ⟨i, _, H[i].s, hb, hi, ht, ?_, ?_, fun j z hj ho => ?_⟩
  · rw [hz]
    congr 1
    show H[i] = ⟨H[i].s, false⟩
    rw [← hon]
  · unfold headS; rw [if_pos hb, hi, Int.toNat_natCast, hs]
  · have := least_min hb (i := j) (List.getElem?_eq_some_iff.1 hj).1 (by rw [oAt_at hj]; exact ho)
    rw [hi, Int.toNat_natCast, hs, sAt_at hj] at this
    exact le_iff.2 this
theorem flat_put : ∀ {T : List (List ByteArray)} {i : Nat} {t : List ByteArray} (x : ByteArray), T[i]? = some t → (T.set i (t ++ [x])).flatten.Perm (T.flatten ++ [x])
  | [], i, t, x, h => by simp at h
  | a :: T, 0, t, x, h => by
    simp only [List.getElem?_cons_zero, Option.some.injEq] at h
    subst h
    simp only [List.set_cons_zero, List.flatten_cons, List.append_assoc]
    exact (List.perm_append_comm).append_left a
  | a :: T, i + 1, t, x, h => by
    simp only [List.getElem?_cons_succ] at h
    simp only [List.set_cons_succ, List.flatten_cons, List.append_assoc]
    exact (flat_put x h).append_left a
/-- Behind a head that was put, and the next one of its source. -/
theorem Mid.next {u : Bool} {T : List (List ByteArray)} {H : List Hd} {done t : List ByteArray} {i : Nat} {x : ByteArray} (m : Mid u T H done) (p : PickM T H i t x) (s : ByteArray) (o : Bool) (hr : o = false → leT x s = true) : Mid u (T.set i (t ++ [x])) (nextL H s o) (putEnd u done x) := by
  have hil : i < H.length := (List.getElem?_eq_some_iff.1 p.h).1
  have hN : nextL H s o = H.set i ⟨s, o⟩ := by unfold nextL; rw [if_pos p.b, p.n, Int.toNat_natCast]
  have hall : ∀ y ∈ T.flatten, leT y x = true := fun y hy => m.up y hy i _ p.h rfl
  have hst := (m.rise i t _ p.t p.h)
  refine ⟨by rw [nextL_length, List.length_set]; exact m.len, fun j r z hj hz => ?_, ?_, fun y hy j z hz ho => ?_⟩
  · rw [hN] at hz
    by_cases hji : j = i
    · subst hji
      rw [List.getElem?_set_self (by rw [← m.len]; exact hil)] at hj
      rw [List.getElem?_set_self hil] at hz
      cases hj; cases hz
      refine ⟨hst.2 rfl, fun ho => ?_⟩
      have h1 := hst.2 rfl
      unfold Srt at h1 ⊢
      rw [List.pairwise_append]
      refine ⟨h1, by simp, fun a ha b hb => ?_⟩
      rw [List.mem_singleton.1 hb]
      rcases List.mem_append.1 ha with ha | ha
      · exact le_trans ((List.pairwise_append.1 h1).2.2 a ha x (by simp)) (hr ho)
      · rw [List.mem_singleton.1 ha]; exact hr ho
    · rw [List.getElem?_set_ne (Ne.symm hji)] at hj hz
      exact m.rise j r z hj hz
  · rw [sort_perm u (flat_put x p.t), sortT_snoc, ← m.is]
    refine (put_last ?_ fun y hy => ?_).symm
    · rw [m.is]; exact sortT_srt _ _
    · rw [m.is] at hy
      refine hall y ?_
      cases u
      · exact (sortT_perm _).mem_iff.1 hy
      · exact ((sortU _).2 y).1 hy
  · have hy' := (flat_put x p.t).mem_iff.1 hy
    rw [List.mem_append, List.mem_singleton] at hy'
    rw [hN] at hz
    have hyx : leT y x = true := by
      rcases hy' with h | h
      · exact hall y h
      · rw [h]; exact le_refl16 _
    by_cases hji : j = i
    · subst hji
      rw [List.getElem?_set_self hil] at hz
      cases hz
      exact le_trans hyx (hr ho)
    · rw [List.getElem?_set_ne (Ne.symm hji)] at hz
      exact le_trans hyx (p.least j z hz ho)
/-- When all are over. -/
theorem Mid.end {u : Bool} {T : List (List ByteArray)} {H : List Hd} {done : List ByteArray} (m : Mid u T H done) (hb : leastB H = false) : (∀ (i : Nat) (z : Hd), H[i]? = some z → z.o = true) ∧ (∀ t ∈ T, Srt t) ∧ done = sortT T.flatten u := by
  refine ⟨fun i z hz => ?_, fun t ht => ?_, m.is⟩
  · cases ho : z.o
    · have := least_some (List.getElem?_eq_some_iff.1 hz).1 (by rw [oAt_at hz]; exact ho)
      rw [hb] at this; cases this
    · rfl
  · obtain ⟨i, hi, rfl⟩ := List.mem_iff_getElem.1 ht
    exact (m.rise i T[i] _ (List.getElem?_eq_getElem hi) (List.getElem?_eq_getElem (by rw [m.len]; exact hi))).1
end RnPlain
end Go.Proofs.YtpmglnghnelenaaGreat
/- Plain facts: a disk with one file that was written; what holds of a reader at each round of the laws. -/
namespace Go.Proofs.YtpmglnghnelenaaGreat
open Go.RowKit FsPlain CrcPlain OctPlain FramePlain RecPlain
set_option linter.unusedVariables false
set_option linter.unusedSimpArgs false
set_option maxRecDepth 20000
namespace RdPlain
/-- A disk with the file a, which is empty. -/
def stC (r : Int) : St := ⟨r, 1, -1, false, [⟨[97], [], 0⟩]⟩
/-- A disk with the file a of these bytes. -/
def stA (r : Int) (S : ByteArray) : St := ⟨r, 2, -1, false, [⟨[97], S.data.toList, 0⟩]⟩
theorem st_create (r : Int) : createR (fresh r) nmA.data.toList = (stC r, 0) := rfl
theorem st_append (r : Int) (S : ByteArray) (h : (S.size : Int) ≤ r) : appendR (stC r) nmA.data.toList S.data.toList = (stA r S, 0) := by
  unfold appendR
  rw [if_neg (show ¬ (stC r).call.down = true by simp [stC, St.call])]
  have hg : (stC r).get nmA.data.toList = some ⟨[97], [], 0⟩ := rfl
  rw [hg]
  have hu : used (stC r).fs = 0 := rfl
  simp only [hu]
  rw [if_neg (by show ¬ r < ((0 : Nat) : Int) + (S.data.toList.length : Nat); rw [data_length]; omega)]
  rfl
theorem st_stands (r : Int) (S : ByteArray) : Stands (stA r S) nmA.data.toList S := ⟨⟨⟨[97], S.data.toList, 0⟩, rfl, rfl⟩, rfl, rfl⟩
theorem st_size (r : Int) (S : ByteArray) (k : Int) (h : (sizeR (armed (stA r S) k) nmA.data.toList).2 = 0) : (sizeR (armed (stA r S) k) nmA.data.toList).1 = (S.size : Nat) := by
  unfold sizeR at h ⊢
  split at h
  · simp at h
  · rename_i h1
    rw [if_neg h1]
    have hg : (armed (stA r S) k).get nmA.data.toList = some ⟨[97], S.data.toList, 0⟩ := rfl
    rw [hg]
    simp only [data_length]
/-- The budget: four while it is open, none behind. -/
def Bud4 (m : N3) : Prop := (m.x.opn = true → m.b.now = 4) ∧ (m.x.opn = false → m.b.now = 0)
theorem give4 {b : Bu} (h : b.now = 4) : (b.give 4).now = 0 := by unfold Bu.give; rw [if_neg (by decide)]; simp only [h]; decide
theorem bud_shut {m : N3} (h : Bud4 m) : Bud4 (shutN m) := by
  unfold shutN
  split
  · rename_i ho; exact ⟨(fun e => by cases e), fun _ => give4 (h.1 ho)⟩
  · exact h
theorem bud_wrong {m : N3} (h : Bud4 m) : Bud4 (wrongN m) := bud_shut (m := m.isBad) h
theorem bud_close {m : N3} (h : Bud4 m) : Bud4 (closeN m) := by
  unfold closeN
  split
  · exact bud_wrong h
  · exact h
theorem bud_next {m : N3} (h : Bud4 m) : Bud4 (nextN m).1 := by
  unfold nextN
  split
  · exact h
  · split
    · unfold fillN
      split
      · exact bud_wrong (m := m.asked) h
      · split
        · exact bud_shut (m := m.asked.ended (bytesN m)) h
        · split
          · exact bud_wrong (m := m.asked) h
          · exact h
    · exact h
/-- How many records there can be yet. -/
def leftN (m : N3) : Nat := m.x.told + m.x.queue.length + m.x.left
theorem left_shut (m : N3) : leftN (shutN m) = leftN m := by unfold shutN; split <;> rfl
theorem left_close (m : N3) : leftN (closeN m) = leftN m := by
  unfold closeN
  split
  · exact left_shut m.isBad
  · rfl
theorem left_pop {m : N3} (h : m.x.queue ≠ []) : leftN m.popped = leftN m := by
  obtain ⟨r, q, hr⟩ := List.exists_cons_of_ne_nil h
  show m.x.told + 1 + m.x.queue.tail.length + m.x.left = m.x.told + m.x.queue.length + m.x.left
  rw [hr]; simp; omega
theorem left_next {m : N3} (h : m.ok) : leftN (nextN m).1 ≤ leftN m := by
  unfold nextN
  split
  · exact Nat.le_refl _
  · split
    · rename_i hq
      unfold fillN
      split
      · exact Nat.le_of_eq (left_shut m.asked.isBad)
      · rename_i h0
        split
        · exact Nat.le_of_eq (left_shut (m.asked.ended (bytesN m)))
        · split
          · exact Nat.le_of_eq (left_shut m.asked.isBad)
          · rename_i h2
            have hb : gB m.x.size (bytesN m) = true := by
              cases hb : gB m.x.size (bytesN m)
              · exact absurd (.inl hb) h2
              · rfl
            have hs := bytesN_size (m := m) (by simpa using h0)
            have hl := ask_left m.x
            obtain ⟨k1, k2⟩ := ok_filled (m := m.asked) (ok_asked h) hb (by rw [hs]; exact ask_left _) hq
            obtain ⟨_, z2, _⟩ := gL_size hb
            obtain ⟨_, n, hn, hn2, hn3, _⟩ := get_is hb
            show leftN (m.asked.filled (bytesN m)).popped ≤ _
            rw [left_pop k2]
            show m.x.told + (gL m.x.size (bytesN m)).length + (m.x.left - (gN m.x.size (bytesN m)).toNat) ≤ m.x.told + m.x.queue.length + m.x.left
            rw [hn, hq]
            simp only [Int.toNat_natCast, List.length_nil]
            omega
    · rename_i hq
      exact Nat.le_of_eq (left_pop hq)
/-- Behind a record it is open, and one more was told; behind none it is shut. -/
theorem next_none {m : N3} (h : (nextN m).2.2.1 = false) : (nextN m).1.x.opn = false ∧ (nextN m).2.1 = ⟨#[]⟩ := by
  revert h
  have hsh : ∀ m : N3, (shutN m).x.opn = false := fun m => by
    unfold shutN
    split
    · rfl
    · rename_i h; simpa using h
  unfold nextN
  split
  · rename_i ho; exact fun _ => ⟨ho, rfl⟩
  · split
    · unfold fillN
      split
      · exact fun _ => ⟨hsh _, rfl⟩
      · split
        · exact fun _ => ⟨hsh _, rfl⟩
        · split
          · exact fun _ => ⟨hsh _, rfl⟩
          · intro h; cases h
    · intro h; cases h
theorem next_some {m : N3} (h : (nextN m).2.2.1 = true) : m.x.opn = true ∧ (nextN m).1.x.opn = true ∧ (nextN m).1.x.told = m.x.told + 1 ∧ (nextN m).2.2.2 = 0 := by
  revert h
  unfold nextN
  split
  · intro h; cases h
  · rename_i ho
    have ho : m.x.opn = true := by simpa using ho
    split
    · unfold fillN
      split
      · intro h; cases h
      · split
        · intro h; cases h
        · split
          · intro h; cases h
          · exact fun _ => ⟨ho, ho, rfl, rfl⟩
    · exact fun _ => ⟨ho, ho, rfl, rfl⟩
/-- What holds at the head of round i. -/
structure PlayN (m : N3) (i : Nat) : Prop where
  ok : m.ok
  inv : m.inv
  told : m.x.told = i
  calls : m.s.calls ≤ 10 + (i : Int)
  bud : Bud4 m
  left : leftN m ≤ 689
theorem PlayN.few {m : N3} {i : Nat} (h : PlayN m i) : i ≤ 689 := by have h1 := h.told; have h2 := h.left; unfold leftN at h2; omega
theorem PlayN.close {m : N3} {i : Nat} (h : PlayN m i) : PlayN (closeN m) i :=
  ⟨ok_closeN h.ok, inv_closeN h.inv, (closeN_calls m).2.trans h.told, by rw [(closeN_calls m).1]; exact h.calls, bud_close h.bud, by rw [left_close]; exact h.left⟩
theorem PlayN.next {m : N3} {i : Nat} (h : PlayN m i) (hp : (nextN m).2.2.1 = true) : PlayN (nextN m).1 (i + 1) := by
  obtain ⟨_, _, h3, _⟩ := next_some hp
  have h4 := nextN_calls m
  have h5 := h.calls
  refine ⟨ok_nextN h.ok, inv_nextN h.inv h.ok, by rw [h3, h.told], by rw [Int.natCast_add]; simp only [Int.natCast_one]; omega, bud_next h.bud, Nat.le_trans (left_next h.ok) h.left⟩
theorem play_open {r : Int} (h0r : 0 ≤ r) {S : ByteArray} (hr : (S.size : Int) ≤ r) (hr2 : r ≤ 16777216) (hS : S.size ≤ 700) {k mm size : Int} (hk : k ≤ 9223372036854775807) (hm : 0 ≤ mm) (hm2 : mm ≤ 9223372036854775807) (hs : (armed (stA r S) k).ok) (R : St × Bu × Int × Nat) (hR : R = openN (armed (stA r S) k) ⟨mm, 0, 0⟩ nmA size) (h0 : R.2.2.1 = 0) : PlayN ⟨R.1, R.2.1, newRs nmA size R.2.2.2⟩ 0 := by
  subst hR
  have hb : (Bu.mk mm 0 0).ok := ⟨Int.le_refl 0, Int.le_refl 0, hm, hm2⟩
  have hok := openN_ok hs hb nmA_size nmA_right h0
  obtain ⟨h1, h2, h3, h4, h5, h6, h7, e⟩ := openN_yes h0
  have hc := openN_calls (armed (stA r S) k) ⟨mm, 0, 0⟩ nmA size
  have hsz := st_size r S k h3
  refine ⟨hok, inv_new _ _ _ _ _, rfl, ?_, ⟨fun _ => ?_, (fun e => by cases e)⟩, ?_⟩
  · have : (armed (stA r S) k).calls = 2 := rfl
    simp only [Int.natCast_zero]; omega
  · rw [e]
    show (Bu.take ⟨mm, 0, 0⟩ 4).now = 4
    unfold Bu.takeE at h2
    unfold Bu.take
    simp only [] at h2 ⊢
    split at h2
    · simp at h2
    · split at h2
      · simp at h2
      · rw [if_neg (by omega)]; simp
  · rw [e]
    show 0 + 0 + ((sizeR (armed (stA r S) k) nmA.data.toList).1.toNat - 11) ≤ 689
    rw [hsz]; simp only [Int.toNat_natCast]; omega
end RdPlain
end Go.Proofs.YtpmglnghnelenaaGreat
