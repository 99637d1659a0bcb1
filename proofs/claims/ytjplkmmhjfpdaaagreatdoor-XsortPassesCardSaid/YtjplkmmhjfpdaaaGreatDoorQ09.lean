/- In one text: LoFact, RnFact, Sep, SepMore, FsHeap. -/
import Derived.Test.YtjplkmmhjfpdaaaGreatDoorQ08
import Derived.Lib.Strings
import Derived.WalkKit
import Derived.ProofKit
import Derived.Handy
import Derived.Test.YtjplkmmhjfpdaaaGreatDoorQ05
import Derived.Test.YtjplkmmhjfpdaaaGreatDoorQ00
import Derived.OneCell
import Derived.Maps.RangeWalk
import Derived.Maps.Ext
import Derived.Lib.UnsafeStr
import Derived.Sort.KeysCollected
/- What the least is: no other head is less; rising lists merged, by counts; plain. -/
namespace Go.Proofs.YtjplkmmhjfpdaaaGreatDoor
open Go.RowKit
set_option linter.unusedVariables false
set_option linter.unusedSimpArgs false
set_option maxRecDepth 20000
namespace LoPlain
theorem bl_irrefl : ∀ a : List UInt8, Op.bytesLess a a = false
  | [] => rfl
  | x :: r => by
    have h := bl_irrefl r
    simp [Op.bytesLess, h]
theorem bl_trans : ∀ {a b c : List UInt8}, Op.bytesLess a b = true → Op.bytesLess b c = true → Op.bytesLess a c = true
  | _, _, [], _, h => by cases ‹List UInt8› <;> simp [Op.bytesLess] at h
  | _, [], _ :: _, h, _ => by cases ‹List UInt8› <;> simp [Op.bytesLess] at h
  | [], _ :: _, _ :: _, _, _ => rfl
  | x :: a, y :: b, z :: c, h, k => by
    simp only [Op.bytesLess, Bool.or_eq_true, Bool.and_eq_true, decide_eq_true_eq, beq_iff_eq] at h k ⊢
    rcases h with h | ⟨rfl, h⟩
    · rcases k with k | ⟨rfl, k⟩
      · exact .inl (UInt8.lt_trans h k)
      · exact .inl h
    · rcases k with k | ⟨rfl, k⟩
      · exact .inl k
      · exact .inr ⟨rfl, bl_trans h k⟩
theorem lt_irrefl15 (a : ByteArray) : ltS a a = false := bl_irrefl _
theorem lt_trans15 {a b c : ByteArray} (h : ltS a b = true) (k : ltS b c = true) : ltS a c = true := bl_trans h k
theorem best_some (l : List Hd) : ∀ j i, i < j → oAt l i = false → 0 ≤ bestN l j
  | j + 1, i, hi, ho => by
    rw [bestN]
    split
    · omega
    · rename_i hc
      rcases Nat.lt_or_ge i j with h | h
      · exact best_some l j i h ho
      · obtain rfl : i = j := by omega
        have hr := bestN_range l i
        by_cases hb : bestN l i < 0
        · exact absurd (by rw [ho, decide_eq_true hb]; rfl) hc
        · omega
theorem best_min (l : List Hd) : ∀ j, 0 ≤ bestN l j → ∀ i, i < j → oAt l i = false → ltS (sAt l i) (sAt l (bestN l j).toNat) = false
  | 0, _, i, hi, _ => by omega
  | j + 1, h, i, hi, ho => by
    rw [bestN] at h ⊢
    split at h
    · rename_i hc
      rw [if_pos hc, Int.toNat_natCast]
      simp only [Bool.and_eq_true, Bool.or_eq_true, Bool.not_eq_true', decide_eq_true_eq] at hc
      rcases Nat.lt_or_ge i j with hij | hij
      · rcases hc.2 with hb | hb
        · have := best_some l j i hij ho; omega
        · have hr := bestN_range l j
          by_cases h0 : 0 ≤ bestN l j
          · have h1 := best_min l j h0 i hij ho
            cases h2 : ltS (sAt l i) (sAt l j)
            · rfl
            · rw [lt_trans15 h2 hb] at h1; cases h1
          · have := best_some l j i hij ho; omega
      · obtain rfl : i = j := by omega
        exact lt_irrefl15 _
    · rename_i hc
      rw [if_neg hc]
      rcases Nat.lt_or_ge i j with hij | hij
      · exact best_min l j h i hij ho
      · obtain rfl : i = j := by omega
        simp only [Bool.and_eq_true, Bool.or_eq_true, Bool.not_eq_true', decide_eq_true_eq, not_and, not_or] at hc
        have := (hc ho).2
        simpa using this
theorem least_some {l : List Hd} {i : Nat} (hi : i < l.length) (ho : oAt l i = false) : leastB l = true := by
  unfold leastB leastN
  rw [decide_eq_true_iff]
  exact best_some l _ i hi ho
theorem least_min {l : List Hd} (h : leastB l = true) {i : Nat} (hi : i < l.length) (ho : oAt l i = false) : ltS (sAt l i) (sAt l (leastN l).toNat) = false := by
  unfold leastB leastN at h
  rw [decide_eq_true_iff] at h
  exact best_min l _ h i hi ho
theorem least_on {l : List Hd} (h : leastB l = true) : oAt l (leastN l).toNat = false := by
  unfold leastB leastN at h
  rw [decide_eq_true_iff] at h
  exact bestN_on l _ h
end LoPlain
end Go.Proofs.YtjplkmmhjfpdaaaGreatDoor
/- Texts in order: whoever sorts them, they are the same; plain. -/
namespace Go.Proofs.YtjplkmmhjfpdaaaGreatDoor
open Go.RowKit LoPlain
set_option linter.unusedVariables false
set_option linter.unusedSimpArgs false
set_option maxRecDepth 20000
namespace RnPlain
theorem bl_total : ∀ {a b : List UInt8}, Op.bytesLess a b = false → Op.bytesLess b a = false → a = b
  | [], [], _, _ => rfl
  | [], _ :: _, h, _ => by simp [Op.bytesLess] at h
  | _ :: _, [], _, h => by simp [Op.bytesLess] at h
  | x :: a, y :: b, h, k => by
    simp only [Op.bytesLess, Bool.or_eq_false_iff, Bool.and_eq_false_imp, decide_eq_false_iff_not, beq_iff_eq] at h k
    have hxy : x = y := by
      have h1 := h.1
      have h2 := k.1
      rw [UInt8.not_lt] at h1 h2
      exact UInt8.le_antisymm h2 h1
    subst hxy
    rw [bl_total (h.2 rfl) (k.2 rfl)]
theorem toList_inj {a b : ByteArray} (h : a.toList = b.toList) : a = b := by
  rw [Lib.toList_data, Lib.toList_data] at h
  exact ByteArray.ext (Array.toList_inj.1 h)
theorem le_iff {a b : ByteArray} : leT a b = true ↔ ltT b a = false := by
  unfold leT ltT
  simp only [Bool.or_eq_true, beq_iff_eq]
  constructor
  · rintro (h | h)
    · cases h2 : Op.bytesLess b.toList a.toList
      · rfl
      · have := bl_trans h h2
        rw [bl_irrefl] at this; cases this
    · rw [h]; exact bl_irrefl _
  · intro h
    cases h2 : Op.bytesLess a.toList b.toList
    · exact .inr (bl_total h2 h)
    · exact .inl rfl
theorem le_refl16 (a : ByteArray) : leT a a = true := by unfold leT; simp
theorem le_total {a b : ByteArray} (h : leT a b = false) : leT b a = true := by
  rw [le_iff]
  unfold leT at h
  rw [Bool.or_eq_false_iff] at h
  exact h.1
theorem le_antisymm {a b : ByteArray} (h : leT a b = true) (k : leT b a = true) : a = b := by
  rw [le_iff] at h k
  exact toList_inj (bl_total k h)
theorem le_trans {a b c : ByteArray} (h : leT a b = true) (k : leT b c = true) : leT a c = true := by
  unfold leT at h k ⊢
  simp only [Bool.or_eq_true, beq_iff_eq] at h k ⊢
  rcases h with h | h
  · rcases k with k | k
    · exact .inl (bl_trans h k)
    · exact .inl (by unfold ltT at *; rw [← k]; exact h)
  · rcases k with k | k
    · exact .inl (by unfold ltT at *; rw [h]; exact k)
    · exact .inr (h.trans k)
def Srt (l : List ByteArray) : Prop := l.Pairwise fun a b => leT a b = true
theorem insT_perm (l : List ByteArray) (s : ByteArray) : (insT l s).Perm (s :: l) := by
  unfold insT
  refine List.perm_middle.trans (List.Perm.cons _ ?_)
  rw [List.takeWhile_append_dropWhile]
theorem insT_srt : ∀ {l : List ByteArray} {s : ByteArray}, Srt l → Srt (insT l s)
  | [], s, _ => by simp [insT, Srt]
  | x :: r, s, h => by
    have hr : Srt r := (List.pairwise_cons.1 h).2
    have hx := (List.pairwise_cons.1 h).1
    cases hle : leT x s
    · have e : insT (x :: r) s = s :: x :: r := by simp [insT, List.takeWhile, List.dropWhile, hle]
      rw [e]
      refine List.pairwise_cons.2 ⟨fun y hy => ?_, h⟩
      rcases List.mem_cons.1 hy with rfl | hy
      · exact le_total hle
      · exact le_trans (le_total hle) (hx y hy)
    · have e : insT (x :: r) s = x :: insT r s := by simp [insT, List.takeWhile_cons, List.dropWhile_cons, hle]
      rw [e]
      refine List.pairwise_cons.2 ⟨fun y hy => ?_, insT_srt hr⟩
      rcases List.mem_cons.1 ((insT_perm r s).subset hy) with rfl | hy
      · exact hle
      · exact hx y hy
theorem putT_srt {u : Bool} {l : List ByteArray} {s : ByteArray} (h : Srt l) : Srt (putT u l s) := by
  unfold putT
  split
  · exact insT_srt h
  · exact h
theorem foldl_srt {u : Bool} : ∀ (l acc : List ByteArray), Srt acc → Srt (l.foldl (putT u) acc)
  | [], acc, h => h
  | x :: r, acc, h => foldl_srt r _ (putT_srt h)
theorem sortT_srt (l : List ByteArray) (u : Bool) : Srt (sortT l u) := foldl_srt l [] (by simp [Srt])
theorem sortT_perm (l : List ByteArray) : (sortT l false).Perm l := by
  have key : ∀ (l acc : List ByteArray), (l.foldl (putT false) acc).Perm (acc ++ l) := by
    intro l
    induction l with
    | nil => intro acc; simp
    | cons x r ih =>
      intro acc
      have h1 : putT false acc x = insT acc x := by unfold putT; simp
      rw [List.foldl_cons, h1]
      exact (ih _).trans (((insT_perm acc x).append_right r).trans (List.perm_middle.symm))
  simpa [sortT] using key l []
theorem srt_unique : ∀ {a b : List ByteArray}, Srt a → Srt b → a.Perm b → a = b
  | [], b, _, _, h => (List.nil_perm.1 h).symm ▸ rfl
  | x :: a, [], _, _, h => by simp at h
  | x :: a, y :: b, ha, hb, h => by
    have hxy : x = y := by
      have h1 := (List.pairwise_cons.1 ha).1
      have h2 := (List.pairwise_cons.1 hb).1
      have hx : x ∈ y :: b := h.subset (by simp)
      have hy : y ∈ x :: a := h.symm.subset (by simp)
      rcases List.mem_cons.1 hx with e | hx
      · exact e
      · rcases List.mem_cons.1 hy with e | hy
        · exact e.symm
        · exact le_antisymm (h1 y hy) (h2 x hx)
    subst hxy
    rw [srt_unique (List.pairwise_cons.1 ha).2 (List.pairwise_cons.1 hb).2 (List.Perm.cons_inv h)]
theorem sortT_is {l r : List ByteArray} (h : Srt r) (p : r.Perm l) : r = sortT l false := srt_unique h (sortT_srt l false) (p.trans (sortT_perm l).symm)
theorem hasT_iff {l : List ByteArray} {s : ByteArray} : hasT l s = true ↔ s ∈ l := by
  unfold hasT
  rw [List.any_eq_true]
  constructor
  · rintro ⟨x, hx, e⟩
    rw [decide_eq_true_iff] at e
    exact e ▸ hx
  · exact fun h => ⟨s, h, by simp⟩
theorem sortU (l : List ByteArray) : (sortT l true).Nodup ∧ ∀ x, x ∈ sortT l true ↔ x ∈ l := by
  have key : ∀ (l acc : List ByteArray), acc.Nodup → (l.foldl (putT true) acc).Nodup ∧ ∀ x, x ∈ l.foldl (putT true) acc ↔ x ∈ acc ∨ x ∈ l := by
    intro l
    induction l with
    | nil => intro acc h; exact ⟨h, by simp⟩
    | cons y r ih =>
      intro acc h
      rw [List.foldl_cons]
      cases hh : hasT acc y
      · have h1 : putT true acc y = insT acc y := by unfold putT; rw [hh]; rfl
        rw [h1]
        have hn : y ∉ acc := fun e => by rw [hasT_iff.2 e] at hh; cases hh
        obtain ⟨k1, k2⟩ := ih (insT acc y) ((insT_perm acc y).nodup_iff.2 (List.nodup_cons.2 ⟨hn, h⟩))
        refine ⟨k1, fun x => ?_⟩
        rw [k2 x, (insT_perm acc y).mem_iff, List.mem_cons, List.mem_cons]
        constructor
        · rintro ((h | h) | h) <;> simp [h]
        · rintro (h | h | h) <;> simp [h]
      · have h1 : putT true acc y = acc := by unfold putT; rw [hh]; rfl
        rw [h1]
        obtain ⟨k1, k2⟩ := ih acc h
        refine ⟨k1, fun x => ?_⟩
        rw [k2 x, List.mem_cons]
        have hy := hasT_iff.1 hh
        constructor
        · rintro (h | h) <;> simp [h]
        · rintro (h | rfl | h)
          · exact .inl h
          · exact .inl hy
          · exact .inr h
  obtain ⟨h1, h2⟩ := key l [] (by simp)
  exact ⟨h1, fun x => by rw [show sortT l true = l.foldl (putT true) [] from rfl, h2 x]; simp⟩
theorem sortT_isU {l r : List ByteArray} (h : Srt r) (n : r.Nodup) (m : ∀ x, x ∈ r ↔ x ∈ l) : r = sortT l true :=
  srt_unique h (sortT_srt l true) ((List.perm_ext_iff_of_nodup n (sortU l).1).2 fun x => by rw [m x, (sortU l).2 x])
end RnPlain
end Go.Proofs.YtjplkmmhjfpdaaaGreatDoor
/- What holds of a world in some of its blocks, and of two parts that lie apart: a call that turns the one part leaves the other. -/
namespace Go.Proofs.YtjplkmmhjfpdaaaGreatDoor
open Go.RowKit
set_option linter.unusedVariables false
set_option linter.unusedSimpArgs false
set_option maxRecDepth 20000
abbrev Asn := World → (Nat → Prop) → Prop
structure Fr (P : Asn) : Prop where
  fr : ∀ {w w' : World} {B C : Nat → Prop}, P w B → Only C w w' → (∀ b, B b → ¬ C b) → P w' B
  lo : ∀ {w : World} {B : Nat → Prop}, P w B → ∀ b, B b → b < w.heap.size
structure Nx (B : Nat → Prop) (w : World) (B' : Nat → Prop) (w' : World) : Prop where
  only : Only B w w'
  new : ∀ b, B' b → B b ∨ w.heap.size ≤ b
theorem Nx.refl (B : Nat → Prop) (w : World) : Nx B w B w := ⟨Only.refl _ _, fun _ h => .inl h⟩
theorem Nx.trans {B B1 B2 : Nat → Prop} {w w1 w2 : World} (h : Nx B w B1 w1) (k : Nx B1 w1 B2 w2) : Nx B w B2 w2 :=
  ⟨h.only.andThen k.only h.new, fun b hb => by
    rcases k.new b hb with h1 | h1
    · exact h.new b h1
    · exact .inr (Nat.le_trans h.only.size h1)⟩
theorem Nx.gr {B : Nat → Prop} {w w' : World} (g : Gr w w') : Nx B w B w' := ⟨Only.ofGr g, fun _ h => .inl h⟩
theorem Nx.of {B C : Nat → Prop} {w w' : World} (g : Only C w w') (hC : ∀ b, C b → B b) : Nx B w B w' := ⟨g.mono hC, fun _ h => .inl h⟩
def star (P Q : Asn) : Asn := fun w B => ∃ B1 B2, P w B1 ∧ Q w B2 ∧ (∀ b, B1 b → ¬ B2 b) ∧ ∀ b, B b ↔ B1 b ∨ B2 b
theorem Fr.star {P Q : Asn} (h : Fr P) (k : Fr Q) : Fr (star P Q) where
  fr := fun ⟨B1, B2, p, q, a, e⟩ o d => ⟨B1, B2, h.fr p o fun b hb => d b ((e b).2 (.inl hb)), k.fr q o fun b hb => d b ((e b).2 (.inr hb)), a, e⟩
  lo := fun ⟨B1, B2, p, q, a, e⟩ b hb => by
    rcases (e b).1 hb with h1 | h1
    · exact h.lo p b h1
    · exact k.lo q b h1
theorem star_swap {P Q : Asn} {w : World} {B : Nat → Prop} (h : star P Q w B) : star Q P w B := by
  obtain ⟨B1, B2, p, q, a, e⟩ := h
  exact ⟨B2, B1, q, p, fun b h2 h1 => a b h1 h2, fun b => (e b).trans Or.comm⟩
theorem star_left {P Q R : Asn} {w : World} {B : Nat → Prop} (h : star (star P Q) R w B) : star P (star Q R) w B := by
  obtain ⟨B1, B2, ⟨C1, C2, p, q, a1, e1⟩, r, a, e⟩ := h
  refine ⟨C1, fun b => C2 b ∨ B2 b, p, ⟨C2, B2, q, r, fun b h2 => a b ((e1 b).2 (.inr h2)), fun _ => Iff.rfl⟩, fun b h1 h2 => ?_, fun b => ?_⟩
  · rcases h2 with h2 | h2
    · exact a1 b h1 h2
    · exact a b ((e1 b).2 (.inl h1)) h2
  · rw [e b, e1 b, or_assoc]
theorem star_right {P Q R : Asn} {w : World} {B : Nat → Prop} (h : star P (star Q R) w B) : star (star P Q) R w B :=
  star_swap (star_left (star_swap (star_left (star_swap h))))
theorem star_two {P Q R : Asn} {w : World} {B : Nat → Prop} (h : star P (star Q R) w B) : star Q (star P R) w B := by
  obtain ⟨B1, B2, p, ⟨C1, C2, q, r, a1, e1⟩, a, e⟩ := h
  refine ⟨C1, fun b => B1 b ∨ C2 b, q, ⟨B1, C2, p, r, fun b h1 h2 => a b h1 ((e1 b).2 (.inr h2)), fun _ => Iff.rfl⟩, fun b h1 h2 => ?_, fun b => ?_⟩
  · rcases h2 with h2 | h2
    · exact a b h2 ((e1 b).2 (.inl h1))
    · exact a1 b h1 h2
  · rw [e b, e1 b]; exact ⟨fun h => by rcases h with h | h | h <;> simp [h], fun h => by rcases h with h | h | h <;> simp [h]⟩
def Does (w : World) (B : Nat → Prop) (Q : Asn) (v : Value) (e : Ending) (w' : World) : Prop := e = .returned v ∧ ∃ B', Q w' B' ∧ Nx B w B' w'
theorem star_of {Q R : Asn} (hR : Fr R) {w w' : World} {B B1 B2 B' : Nat → Prop} (r : R w B2) (a : ∀ b, B1 b → ¬ B2 b) (e : ∀ b, B b ↔ B1 b ∨ B2 b) (q : Q w' B') (n : Nx B1 w B' w') : ∃ B', star Q R w' B' ∧ Nx B w B' w' := by
  refine ⟨fun b => B' b ∨ B2 b, ⟨B', B2, q, hR.fr r n.only fun b h2 h1 => a b h1 h2, fun b h1 h2 => ?_, fun _ => Iff.rfl⟩, n.only.mono fun b h1 => (e b).2 (.inl h1), fun b hb => ?_⟩
  · rcases n.new b h1 with h3 | h3
    · exact a b h3 h2
    · have := hR.lo r b h2; omega
  · rcases hb with hb | hb
    · rcases n.new b hb with h3 | h3
      · exact .inl ((e b).2 (.inl h3))
      · exact .inr h3
    · exact .inl ((e b).2 (.inr hb))
theorem star_step {P Q R : Asn} (hR : Fr R) {w w' : World} {B : Nat → Prop} (h : star P R w B) (k : ∀ B1, P w B1 → ∃ B', Q w' B' ∧ Nx B1 w B' w') : ∃ B', star Q R w' B' ∧ Nx B w B' w' := by
  obtain ⟨B1, B2, p, r, a, e⟩ := h
  obtain ⟨B', q, n⟩ := k B1 p
  exact star_of hR r a e q n
theorem does_star {Pr : Program} {P Q R : Asn} {w : World} {B : Nat → Prop} {f : FuncId} {args : Array Value} {v : Value} (hR : Fr R) (h : star P R w B) (k : ∀ B1, P w B1 → Calls Pr f args w (Does w B1 Q v)) :
    Calls Pr f args w (Does w B (star Q R) v) := by
  obtain ⟨B1, B2, p, r, a, e⟩ := h
  refine (k B1 p).mono ?_
  rintro x w' ⟨he, B', q, n⟩
  exact ⟨he, star_of hR r a e q n⟩
theorem star_gr {P : Asn} (hP : Fr P) {w w' : World} {B : Nat → Prop} (h : P w B) (g : Gr w w') : P w' B := hP.fr h (Only.ofGr (B := fun _ => False) g) (fun _ _ e => e)
def Blk (p : Nat) (c : Array Value) (T : TypeId) : Asn := fun w B => w.heap[p]? = some (.cells c T (0, 0)) ∧ ∀ b, B b ↔ b = p
theorem fr_blk (p : Nat) (c : Array Value) (T : TypeId) : Fr (Blk p c T) where
  fr := fun ⟨h, e⟩ o d => ⟨by rw [o.block p (lt_of_block h) (d p ((e p).2 rfl))]; exact h, e⟩
  lo := fun ⟨h, e⟩ b hb => by rw [(e b).1 hb]; exact lt_of_block h
theorem Does.imp {w w' : World} {B : Nat → Prop} {Q Q' : Asn} {v : Value} {e : Ending} (h : Does w B Q v e w') (k : ∀ B', Q w' B' → Q' w' B') : Does w B Q' v e w' := by
  obtain ⟨he, B', q, n⟩ := h
  exact ⟨he, B', k _ q, n⟩
def emp : Asn := fun _ B => ∀ b, ¬ B b
theorem fr_emp : Fr emp := ⟨fun h _ _ => h, fun h b hb => absurd hb (h b)⟩
def stars : List Asn → Asn
  | [] => emp
  | P :: L => star P (stars L)
def Frs : List Asn → Prop
  | [] => True
  | P :: L => Fr P ∧ Frs L
theorem fr_stars : ∀ {L : List Asn}, Frs L → Fr (stars L)
  | [], _ => fr_emp
  | _ :: _, h => h.1.star (fr_stars h.2)
theorem does_at {Pr : Program} {f : FuncId} {args : Array Value} {v : Value} {w : World} {P Q : Asn} : ∀ {L : List Asn} (i : Nat) {B : Nat → Prop}, L[i]? = some P → Frs L → stars L w B → (∀ B1, P w B1 → Calls Pr f args w (Does w B1 Q v)) → Calls Pr f args w (Does w B (stars (L.set i Q)) v)
  | [], i, B, hi, _, _, _ => by simp at hi
  | A :: L, 0, B, hi, hF, h, k => by
    obtain rfl : A = P := by simpa using hi
    exact does_star (fr_stars hF.2) h k
  | A :: L, i + 1, B, hi, hF, h, k =>
    (does_star (P := stars L) (Q := stars (L.set i Q)) hF.1 (star_swap h) fun B1 h1 => does_at i (by simpa using hi) hF.2 h1 k).mono fun e w' hd => hd.imp fun B' q => star_swap q
theorem step_at {w w' : World} {P Q : Asn} : ∀ {L : List Asn} (i : Nat) {B : Nat → Prop}, L[i]? = some P → Frs L → stars L w B → (∀ B1, P w B1 → ∃ B', Q w' B' ∧ Nx B1 w B' w') → ∃ B', stars (L.set i Q) w' B' ∧ Nx B w B' w'
  | [], i, B, hi, _, _, _ => by simp at hi
  | A :: L, 0, B, hi, hF, h, k => by
    obtain rfl : A = P := by simpa using hi
    exact star_step (fr_stars hF.2) h k
  | A :: L, i + 1, B, hi, hF, h, k => by
    obtain ⟨B', q, n⟩ := star_step (P := stars L) (Q := stars (L.set i Q)) hF.1 (star_swap h) fun B1 h1 => step_at i (by simpa using hi) hF.2 h1 k
    exact ⟨B', star_swap q, n⟩
theorem part_at {w : World} {P : Asn} : ∀ {L : List Asn} (i : Nat) {B : Nat → Prop}, L[i]? = some P → stars L w B → ∃ B1, P w B1 ∧ ∀ b, B1 b → B b
  | [], i, B, hi, _ => by simp at hi
  | A :: L, 0, B, hi, h => by
    obtain rfl : A = P := by simpa using hi
    obtain ⟨B1, B2, p, _, _, e⟩ := h
    exact ⟨B1, p, fun b hb => (e b).2 (.inl hb)⟩
  | A :: L, i + 1, B, hi, h => by
    obtain ⟨B1, B2, _, q, _, e⟩ := h
    obtain ⟨B3, p, hB⟩ := part_at i (by simpa using hi) q
    exact ⟨B3, p, fun b hb => (e b).2 (.inr (hB b hb))⟩
theorem stars_gr {L : List Asn} (hF : Frs L) {w w' : World} {B : Nat → Prop} (h : stars L w B) (g : Gr w w') : stars L w' B := star_gr (fr_stars hF) h g
theorem stars_app : ∀ {L M : List Asn} {w : World} {B : Nat → Prop}, stars (L ++ M) w B ↔ star (stars L) (stars M) w B
  | [], M, w, B => ⟨fun h => ⟨fun _ => False, B, (fun b h => h), h, (fun b h => h.elim), fun b => (false_or _).symm ▸ Iff.rfl⟩, fun ⟨B1, B2, p, q, _, e⟩ => by
      have : B2 = B := by funext b; rw [eq_iff_iff, e b]; exact ⟨.inr, fun h => h.resolve_left (p b)⟩
      rw [← this]; exact q⟩
  | A :: L, M, w, B => ⟨fun ⟨B1, B2, p, q, a, e⟩ => star_right ⟨B1, B2, p, stars_app.1 q, a, e⟩, fun h => by
      obtain ⟨B1, B2, p, q, a, e⟩ := star_left h
      exact ⟨B1, B2, p, stars_app.2 q, a, e⟩⟩
theorem does_pre {Pr : Program} {f : FuncId} {args : Array Value} {v : Value} {w : World} {B : Nat → Prop} (L : List Asn) {L' M : List Asn} (hM : Frs M) (h : stars (L ++ M) w B) (k : ∀ B1, stars L w B1 → Calls Pr f args w (Does w B1 (stars L') v)) : Calls Pr f args w (Does w B (stars (L' ++ M)) v) :=
  (does_star (fr_stars hM) (stars_app.1 h) k).mono fun e w' hd => hd.imp fun B' q => stars_app.2 q
theorem does_suf {Pr : Program} {f : FuncId} {args : Array Value} {v : Value} {w : World} {B : Nat → Prop} (L : List Asn) {M M' : List Asn} (hL : Frs L) (h : stars (L ++ M) w B) (k : ∀ B1, stars M w B1 → Calls Pr f args w (Does w B1 (stars M') v)) : Calls Pr f args w (Does w B (stars (L ++ M')) v) :=
  (does_star (fr_stars hL) (star_swap (stars_app.1 h)) k).mono fun e w' hd => hd.imp fun B' q => stars_app.2 (star_swap q)
theorem pre_next {w : World} {B : Nat → Prop} (L : List Asn) {M : List Asn} (hM : Frs M) (h : stars (L ++ M) w B) : ∃ B1, stars L w B1 ∧ ∀ {L' : List Asn} {w' : World} {B' : Nat → Prop}, stars L' w' B' → Nx B1 w B' w' → ∃ B3, stars (L' ++ M) w' B3 ∧ Nx B w B3 w' := by
  obtain ⟨B1, B2, h1, h2, a, e⟩ := stars_app.1 h
  refine ⟨B1, h1, fun {L' w' B'} q n => ?_⟩
  obtain ⟨B3, r, n3⟩ := star_of (fr_stars hM) h2 a e q n
  exact ⟨B3, stars_app.2 r, n3⟩
theorem part_new {w w' : World} {P : Asn} {L : List Asn} {B B' : Nat → Prop} (hL : Frs L) (h : stars L w B) (g : Gr w w') (p : P w' B') (hn : ∀ b, B' b → w.heap.size ≤ b) : ∃ B2, stars (P :: L) w' B2 ∧ Nx B w B2 w' :=
  ⟨fun b => B' b ∨ B b, ⟨B', B, p, stars_gr hL h g, fun b h1 h2 => by have := hn b h1; have := (fr_stars hL).lo h b h2; omega, fun _ => Iff.rfl⟩, Only.ofGr g, fun b hb => hb.elim (fun h1 => .inr (hn b h1)) .inl⟩
theorem stars_perm {L M : List Asn} (h : L.Perm M) : ∀ {w : World} {B : Nat → Prop}, stars L w B → stars M w B := by
  induction h with
  | nil => exact fun h => h
  | cons P _ ih => exact fun ⟨B1, B2, p, q, a, e⟩ => ⟨B1, B2, p, ih q, a, e⟩
  | swap P Q L => exact fun h => star_two h
  | trans _ _ h1 h2 => exact fun h => h2 (h1 h)
theorem nx_gr {w w' : World} {B : Nat → Prop} (h : Nx (fun _ => False) w B w') : Gr w w' := h.only.toBelow (Nat.le_refl _) fun _ h => h.elim
end Go.Proofs.YtjplkmmhjfpdaaaGreatDoor
/- A name; more on parts that lie apart. -/
namespace Go.Proofs.YtjplkmmhjfpdaaaGreatDoor
open Go.RowKit FsPlain
set_option linter.unusedVariables false
set_option linter.unusedSimpArgs false
set_option maxRecDepth 20000
def nmA : ByteArray := ⟨#[97]⟩
theorem nmA_right : rightB nmA.data.toList = true := by decide
theorem nmA_size : nmA.size ≤ 24 := by decide
theorem pre_nx {w : World} {B : Nat → Prop} (L : List Asn) {M : List Asn} (hM : Frs M) (h : stars (L ++ M) w B) : ∃ B1, stars L w B1 ∧ ∀ (L' : List Asn) (w' : World) (B' : Nat → Prop), stars L' w' B' → Nx B1 w B' w' → ∃ B3, stars (L' ++ M) w' B3 ∧ Nx B w B3 w' := by
  obtain ⟨B1, h1, k⟩ := pre_next L hM h
  exact ⟨B1, h1, fun _ _ _ => k⟩
theorem frs_app : ∀ {L M : List Asn}, Frs L → Frs M → Frs (L ++ M)
  | [], _, _, h => h
  | _ :: _, _, h, k => ⟨h.1, frs_app h.2 k⟩
theorem stars_one {P : Asn} {w : World} {B : Nat → Prop} (h : P w B) : stars [P] w B := ⟨B, fun _ => False, h, (fun _ h => h), (fun _ _ h => h), fun b => (or_false _).symm ▸ Iff.rfl⟩
theorem stars_drop {P : Asn} {L : List Asn} {w : World} {B : Nat → Prop} (h : stars (P :: L) w B) : ∃ B', stars L w B' ∧ Nx B w B' w := by
  obtain ⟨B1, B2, _, q, _, e⟩ := h
  exact ⟨B2, q, Only.refl _ _, fun b hb => .inl ((e b).2 (.inr hb))⟩
end Go.Proofs.YtjplkmmhjfpdaaaGreatDoor
/- A disk in memory: its block, the map of its files, each file's block and row; what a call may write, and what stays. -/
namespace Go.Proofs.YtjplkmmhjfpdaaaGreatDoor
open Go.RowKit FsPlain Go.Maps
set_option linter.unusedVariables false
set_option linter.unusedSimpArgs false
set_option maxRecDepth 20000
def ptrElem : Value → Option (DataW Unit × List MemPlace)
  | .pointer (some ⟨b, 0, none⟩) => some (.lit (.int .i64 (b : Int)), [])
  | .pointer none => some (.lit (.int .i64 (-1)), [])
  | _ => none
theorem ptr_mk (b : Nat) : ptrElem (.pointer (some ⟨b, 0, none⟩)) = some (.lit (.int .i64 (b : Int)), []) := rfl
theorem ptr_nil : ptrElem (.pointer none) = some (.lit (.int .i64 (-1)), []) := rfl
theorem ptr_inv {v : Value} {y : DataW Unit × List MemPlace} (h : ptrElem v = some y) : (∃ b : Nat, v = .pointer (some ⟨b, 0, none⟩) ∧ y = (.lit (.int .i64 (b : Int)), [])) ∨ (v = .pointer none ∧ y = (.lit (.int .i64 (-1)), [])) := by
  unfold ptrElem at h
  split at h
  · cases h; exact .inl ⟨_, rfl, rfl⟩
  · cases h; exact .inr ⟨rfl, rfl⟩
  · cases h
theorem ptr_some {v : Value} {b : Nat} {ps : List MemPlace} (h : ptrElem v = some (.lit (.int .i64 (b : Int)), ps)) : v = .pointer (some ⟨b, 0, none⟩) := by
  rcases ptr_inv h with ⟨c, rfl, e⟩ | ⟨rfl, e⟩
  · simp at e; have e2 : b = c := by omega
    rw [e2]
  · simp at e
theorem ptr_none {v : Value} {ps : List MemPlace} (h : ptrElem v = some (.lit (.int .i64 (-1)), ps)) : v = .pointer none := by
  rcases ptr_inv h with ⟨c, rfl, e⟩ | ⟨rfl, e⟩
  · simp at e
  · rfl
theorem lawS : Keyed Tryz.prog 9 := string_keyed Tryz.underlying9
theorem zeroP (w : World) : (zeroValue 69).run Tryz.prog w = .ok (.pointer none) w := by kernel_rfl
theorem infoB : (Tryz.prog.info? 5).map (fun i => (i.zero, i.size, i.bytes)) = some (some (.int .u8 0), 1, 1) := by kernel_rfl
structure Pl where
  f : F
  blk : Nat
  v : Value
def plBlocks (x : Pl) : List Nat := x.blk :: x.v.ownBlock.toList
def ents (L : List Pl) : DataW Unit := .map (L.map fun x => (.string x.f.name, .lit (.int .i64 (x.blk : Int))))
def FileAt (w : World) (x : Pl) : Prop :=
  w.heap[x.blk]? = some (.cells #[x.v, .int .i64 (x.f.kept : Int)] 73 (0, 0)) ∧ w.ownsRow 0 5 1 x.v x.f.data.length (Lib.byteCells x.f.data)
def dcells (s : St) (m : Nat) : Array Value := #[.int .i64 s.room, .map (some m), .int .i64 s.calls, .int .i64 s.ahead, .bool s.down]
def blocks (L : List Pl) : List Nat := L.flatMap plBlocks
theorem mem_blocks {L : List Pl} {x : Pl} {b : Nat} (hx : x ∈ L) (hb : b ∈ plBlocks x) : b ∈ blocks L := List.mem_flatMap.2 ⟨x, hx, hb⟩
structure DiskAt (w : World) (p : Nat) (s : St) (B : Nat → Prop) (m : Nat) (L : List Pl) : Prop where
  heap : w.heap[p]? = some (.cells (dcells s m) 66 (0, 0))
  own : w.ownsMap Tryz.prog 9 ptrElem m L.length (ents L)
  fs : L.map (·.f) = s.fs
  file : ∀ x ∈ L, FileAt w x
  apart : (p :: m :: blocks L).Nodup
  mine : ∀ b ∈ p :: m :: blocks L, B b
  low : ∀ b, B b → b < w.heap.size
def Disk (w : World) (p : Nat) (s : St) (B : Nat → Prop) : Prop := s.ok ∧ ∃ m L, DiskAt w p s B m L
theorem row_shape {w : World} {v : Value} {n : Nat} {xs : List Value} (h : w.ownsRow 0 5 1 v n xs) : ∃ a c, v = .slice a n c ∧ (a = none → n = 0) ∧ ∀ b, a = some b → b.off = 0 ∧ b.spot = none ∧ b.block < w.heap.size := by
  rcases h.2 with ⟨rfl, rfl⟩ | ⟨g, cap, cur, rfl, _, hg, _⟩
  · exact ⟨none, 0, rfl, fun _ => rfl, fun b hb => by cases hb⟩
  · exact ⟨some ⟨g, 0, none⟩, cap, rfl, (fun h => by cases h), fun b hb => by cases hb; exact ⟨rfl, rfl, (Array.getElem?_eq_some_iff.1 hg).1⟩⟩
theorem FileAt.only {w w' : World} {x : Pl} {C : Nat → Prop} (h : FileAt w x) (g : Only C w w') (hC : ∀ b ∈ plBlocks x, ¬ C b) : FileAt w' x := by
  obtain ⟨h1, h2⟩ := h
  have hb1 : x.blk ∈ plBlocks x := by simp [plBlocks]
  refine ⟨by rw [g.block _ (lt_of_block h1) (hC _ hb1)]; exact h1, h2.1, ?_⟩
  rcases h2.2 with h3 | ⟨r, cap, cur, hv, h4, h5, h6⟩
  · exact .inl h3
  · refine .inr ⟨r, cap, cur, hv, h4, ?_, h6⟩
    rw [g.block _ (lt_of_block h5) (hC _ (by simp [plBlocks, hv, Value.ownBlock]))]; exact h5
theorem own_only {w w' : World} {b n : Nat} {D : DataW Unit} {C : Nat → Prop} (h : w.ownsMap Tryz.prog 9 ptrElem b n D) (g : Only C w w') (hC : ¬ C b) : w'.ownsMap Tryz.prog 9 ptrElem b n D := by
  have hlt := h.lt
  obtain ⟨es, clock, hb, r⟩ := h
  exact ⟨es, clock, by rw [g.block b hlt hC]; exact hb, r⟩
theorem tight {w : World} {b n : Nat} {D : DataW Unit} (h : w.ownsMap Tryz.prog 9 ptrElem b n D) : w.ownsMap Tryz.prog 9 ptrElem b (Maps.size D) D := by
  obtain ⟨es, clock, hb, F, hs, rfl⟩ := h
  exact ⟨es, clock, hb, F, by simp [Maps.size, length_sorted], rfl⟩
theorem ents_size (L : List Pl) : Maps.size (ents L) = L.length := by simp [ents, Maps.size]
theorem DiskAt.only {w w' : World} {p m : Nat} {s : St} {B C : Nat → Prop} {L : List Pl} (h : DiskAt w p s B m L) (g : Only C w w') (hC : ∀ b, B b → ¬ C b) : DiskAt w' p s B m L :=
  ⟨by rw [g.block p (lt_of_block h.heap) (hC _ (h.mine p (by simp)))]; exact h.heap, own_only h.own g (hC _ (h.mine m (by simp))), h.fs,
    fun x hx => (h.file x hx).only g fun b hb => hC b (h.mine b (List.mem_cons_of_mem _ (List.mem_cons_of_mem _ (mem_blocks hx hb)))), h.apart, h.mine, fun b hb => Nat.lt_of_lt_of_le (h.low b hb) g.size⟩
theorem Disk.only {w w' : World} {p : Nat} {s : St} {B C : Nat → Prop} (h : Disk w p s B) (g : Only C w w') (hC : ∀ b, B b → ¬ C b) : Disk w' p s B := by
  obtain ⟨h0, m, L, h⟩ := h
  exact ⟨h0, m, L, h.only g hC⟩
theorem Disk.low {w : World} {p : Nat} {s : St} {B : Nat → Prop} (h : Disk w p s B) (b : Nat) (hb : B b) : b < w.heap.size := by obtain ⟨_, m, L, d⟩ := h; exact d.low b hb
theorem DiskAt.own_block {w w' : World} {p m : Nat} {s s' : St} {B : Nat → Prop} {L : List Pl} (h : DiskAt w p s B m L) (g : Only (fun i => i = p) w w') (hp : w'.heap[p]? = some (.cells (dcells s' m) 66 (0, 0))) (hf : s'.fs = s.fs) : DiskAt w' p s' B m L := by
  have ha := h.apart
  simp only [List.nodup_cons, List.mem_cons, not_or] at ha
  refine ⟨hp, own_only h.own g (fun e => ha.1.1 e.symm), by rw [hf]; exact h.fs, fun x hx => (h.file x hx).only g fun b hb e => ?_, h.apart, h.mine, fun b hb => Nat.lt_of_lt_of_le (h.low b hb) g.size⟩
  subst e
  exact ha.1.2 (mem_blocks hx hb)
theorem names_apart {w : World} {b n : Nat} {L : List Pl} (h : w.ownsMap Tryz.prog 9 ptrElem b n (ents L)) : L.Pairwise (fun x y => x.f.name ≠ y.f.name) := by
  obtain ⟨es, he, hp, _⟩ := h.entries lawS
  unfold ents at he
  simp only [DataW.map.injEq] at he
  subst he
  rw [List.pairwise_map] at hp
  exact hp.imp fun h e => h (by rw [e])
theorem at_some {L : List Pl} {x : Pl} {n : List UInt8} (h : L.find? (fun x => x.f.name == n) = some x) (z : DataW Unit) : (ents L).atKey (.string n) z = .lit (.int .i64 (x.blk : Int)) := by
  have e : ((L.map fun x : Pl => ((.string x.f.name : Lit), (DataW.lit (.int .i64 (x.blk : Int)) : DataW Unit))).find? fun p => p.1.sameKey (.string n)) = some (.string x.f.name, .lit (.int .i64 (x.blk : Int))) := by
    rw [List.find?_map]
    have : ((fun p : Lit × DataW Unit => p.1.sameKey (.string n)) ∘ fun x : Pl => ((.string x.f.name : Lit), (DataW.lit (.int .i64 (x.blk : Int)) : DataW Unit))) = fun x : Pl => x.f.name == n := by funext y; rfl
    rw [this, h]; rfl
  unfold ents DataW.atKey
  simp only [e]
theorem at_none {L : List Pl} {n : List UInt8} (h : L.find? (fun x => x.f.name == n) = none) (z : DataW Unit) : (ents L).atKey (.string n) z = z := by
  have e : ((L.map fun x : Pl => ((.string x.f.name : Lit), (DataW.lit (.int .i64 (x.blk : Int)) : DataW Unit))).find? fun p => p.1.sameKey (.string n)) = none := by
    rw [List.find?_map]
    have : ((fun p : Lit × DataW Unit => p.1.sameKey (.string n)) ∘ fun x : Pl => ((.string x.f.name : Lit), (DataW.lit (.int .i64 (x.blk : Int)) : DataW Unit))) = fun x : Pl => x.f.name == n := by funext y; rfl
    rw [this, h]; rfl
  unfold ents DataW.atKey
  simp only [e]
theorem has_is (L : List Pl) (n : List UInt8) : Maps.has (ents L) (.string n) = L.any (fun x => x.f.name == n) := by
  unfold ents
  rw [has_eq, List.any_map]; rfl
theorem DiskAt.look {w : World} {p m : Nat} {s : St} {B : Nat → Prop} {L : List Pl} (h : DiskAt w p s B m L) (n : ByteArray) (hn : n.size ≤ maxLen) :
    (s.get n.data.toList = none ∧ L.find? (fun x => x.f.name == n.data.toList) = none ∧ ∀ w2 : World, w2.ownsMap Tryz.prog 9 ptrElem m L.length (ents L) → (Instr.lookup 64 (.map (some m)) (.string n) false).run Tryz.prog w2 = .ok (.pointer none) w2) ∨
    ∃ x, s.get n.data.toList = some x.f ∧ L.find? (fun x => x.f.name == n.data.toList) = some x ∧ ∀ w2 : World, w2.ownsMap Tryz.prog 9 ptrElem m L.length (ents L) → (Instr.lookup 64 (.map (some m)) (.string n) false).run Tryz.prog w2 = .ok (.pointer (some ⟨x.blk, 0, none⟩)) w2 := by
  have hkey := WideMaps.keyOf_string_mk (P := Tryz.prog) (k := 9) Tryz.underlying9 hn
  have hget : s.get n.data.toList = (L.find? (fun x => x.f.name == n.data.toList)).map (·.f) := by
    unfold St.get; rw [← h.fs, List.find?_map]; rfl
  cases hf : L.find? (fun x => x.f.name == n.data.toList) with
  | none =>
    refine .inl ⟨by rw [hget, hf]; rfl, rfl, fun w2 h2 => ?_⟩
    obtain ⟨v, ps, hrun, hv⟩ := h2.lookup lawS Tryz.underlying64 (zeroP w2) ptr_nil hkey
    rw [at_none hf] at hv
    rw [hrun, ptr_none hv]
  | some x =>
    refine .inr ⟨x, by rw [hget, hf]; rfl, rfl, fun w2 h2 => ?_⟩
    obtain ⟨v, ps, hrun, hv⟩ := h2.lookup lawS Tryz.underlying64 (zeroP w2) ptr_nil hkey
    rw [at_some hf] at hv
    rw [hrun, ptr_some hv]
end Go.Proofs.YtjplkmmhjfpdaaaGreatDoor
