/- In one text: Rfs, RfsPut, RfsOut, RfsFacts, RfsDisk, RfsLook, RfsUsed. -/
import Derived.Test.YtckmciafonnohaaP01
import Derived.Laws.AppendOwn
import Derived.Laws.AppendOwnNone
import Derived.RegionTactic
import Derived.BigRegion
import Derived.Lib.Strings
import Derived.Sort.Walk0
import Derived.WideAt
import Derived.WideShapes
import Derived.Test.YtckmciafonnohaaP02
import Derived.Test.YtckmciafonnohaaP08
/- The document's own disk: files in a slice, by their names' order; what lays one among others, and what leaves one out. -/
namespace Go.Proofs.Ytckmciafonnohaa
open Go.RowKit FsPlain
set_option linter.unusedVariables false
set_option linter.unusedSimpArgs false
set_option maxRecDepth 20000
def fcells (f : F) : List Value := [.string (bs f.name), .string (bs f.data), .int .i64 (f.kept : Int)]
def fagg (f : F) : Value := .agg #[.string (bs f.name), .string (bs f.data), .int .i64 (f.kept : Int)]
def fall3 (l : List F) : List Value := l.flatMap fcells
theorem fall3_snoc (l : List F) (f : F) : fall3 (l ++ [f]) = fall3 l ++ fcells f := by simp [fall3]
theorem fall3_app (a b : List F) : fall3 (a ++ b) = fall3 a ++ fall3 b := by simp [fall3]
theorem fall3_length : ∀ l : List F, (fall3 l).length = l.length * 3
  | [] => rfl
  | f :: r => by rw [show fall3 (f :: r) = fcells f ++ fall3 r from rfl, List.length_append, fall3_length r, List.length_cons]; simp [fcells]; omega
theorem fall3_at : ∀ (l : List F) (j : Nat) (f : F), l[j]? = some f → (fall3 l)[3 * j]? = some (.string (bs f.name)) ∧ (fall3 l)[3 * j + 1]? = some (.string (bs f.data)) ∧ (fall3 l)[3 * j + 2]? = some (.int .i64 (f.kept : Int))
  | [], j, f, h => by simp at h
  | g :: r, 0, f, h => by simp at h; subst h; exact ⟨rfl, rfl, rfl⟩
  | g :: r, j + 1, f, h => by
    have e : fall3 (g :: r) = fcells g ++ fall3 r := rfl
    have hl : (fcells g).length = 3 := rfl
    have := fall3_at r j f (by simpa using h)
    rw [e]
    refine ⟨?_, ?_, ?_⟩
    · rw [List.getElem?_append_right (by omega), hl, show 3 * (j + 1) - 3 = 3 * j by omega]; exact this.1
    · rw [List.getElem?_append_right (by omega), hl, show 3 * (j + 1) + 1 - 3 = 3 * j + 1 by omega]; exact this.2.1
    · rw [List.getElem?_append_right (by omega), hl, show 3 * (j + 1) + 2 - 3 = 3 * j + 2 by omega]; exact this.2.2
/-- Files lie at b, from off on. -/
def FCells (w : World) (b off : Nat) (l : List F) : Prop := b < w.heap.size ∧ ∀ j x, (fall3 l)[j]? = some x → w.cell? ⟨b, off + j, none⟩ = some x
theorem FCells.gr {w w' : World} {b off : Nat} {l : List F} (h : FCells w b off l) (g : Gr w w') : FCells w' b off l :=
  ⟨Nat.lt_of_lt_of_le h.1 g.size, fun j x hj => by rw [Below.cell g (p := ⟨b, off + j, none⟩) h.1]; exact h.2 j x hj⟩
/-- Where v lies is new since w. -/
def NewV (w : World) (v : Value) : Prop := ∀ x, v.ownBlock = some x → w.heap.size ≤ x
theorem own_len (a : Option Addr) (n m c : Nat) : (Value.slice a n c).ownBlock = (Value.slice a m c).ownBlock := by cases a <;> rfl
/-- v is a slice of these files. -/
def FLies (w : World) (v : Value) (l : List F) : Prop := (l = [] ∧ v = .slice none 0 0) ∨ ∃ b off c, v = .slice (some ⟨b, off, none⟩) l.length c ∧ l.length ≤ c ∧ FCells w b off l
theorem FLies.gr {w w' : World} {v : Value} {l : List F} (h : FLies w v l) (g : Gr w w') : FLies w' v l :=
  h.imp id fun ⟨b, off, c, h1, h2, h3⟩ => ⟨b, off, c, h1, h2, h3.gr g⟩
/-- Is a's name ahead of b's? -/
def lessF (a b : F) : Bool := Op.bytesLess a.name b.name
def putF (f : F) (l : List F) : List F := l.takeWhile (fun y => lessF y f) ++ f :: l.dropWhile (fun y => lessF y f)
theorem putF_at {f : F} {l : List F} {k : Nat} (h1 : ∀ y ∈ l.take k, lessF y f = true) (h2 : ∀ y, l[k]? = some y → lessF y f = false) : putF f l = l.take k ++ f :: l.drop k := by
  have e1 : l.takeWhile (fun y => lessF y f) = l.take k ∧ l.dropWhile (fun y => lessF y f) = l.drop k := by
    have : l.take k ++ l.drop k = l := List.take_append_drop k l
    constructor
    · conv => lhs; rw [← this]
      rw [List.takeWhile_append_of_pos h1]
      have : (l.drop k).takeWhile (fun y => lessF y f) = [] := by
        cases hd : l.drop k with
        | nil => rfl
        | cons y r =>
          have hy : l[k]? = some y := by have := congrArg List.head? hd; simpa using this
          rw [List.takeWhile_cons, h2 y hy]; rfl
      rw [this, List.append_nil]
    · conv => lhs; rw [← this]
      rw [List.dropWhile_append_of_pos h1]
      cases hd : l.drop k with
      | nil => rfl
      | cons y r =>
        have hy : l[k]? = some y := by have := congrArg List.head? hd; simpa using this
        rw [List.dropWhile_cons, h2 y hy]; rfl
  unfold putF
  rw [e1.1, e1.2]
end Go.Proofs.Ytckmciafonnohaa
/- The document's disk: a file laid among others. -/
namespace Go.Proofs.Ytckmciafonnohaa
open Go.RowKit FsPlain
set_option linter.unusedVariables false
set_option linter.unusedSimpArgs false
set_option maxRecDepth 20000
theorem heap_cell {w : World} {b : Nat} {c : Array Value} {T : TypeId} (h : w.heap[b]? = some (.cells c T (0, 0))) (i : Nat) : w.cell? ⟨b, i, none⟩ = c[i]? := by simp [World.cell?, h]
theorem blk_lt2 {w : World} {b : Nat} {o : Obj} (h : w.heap[b]? = some o) : b < w.heap.size := (Array.getElem?_eq_some_iff.1 h).1
theorem less_run (a b : F) : Op.bytesLess (bs a.name).toList (bs b.name).toList = lessF a b := by
  unfold lessF
  rw [Lib.toList_data, Lib.toList_data]
  simp [bs]
theorem fall3_one (l : List F) : ∀ u ∈ fall3 l, u.oneCell' = true := by
  intro u hu
  obtain ⟨f, _, h⟩ := List.mem_flatMap.1 hu
  simp [fcells] at h
  rcases h with rfl | rfl | rfl <;> rfl
theorem fall3_drop (l : List F) (k : Nat) (h : k ≤ l.length) : fall3 (l.drop k) = (fall3 l).drop (3 * k) := by
  have e : fall3 l = fall3 (l.take k) ++ fall3 (l.drop k) := by rw [← fall3_app, List.take_append_drop]
  rw [e, List.drop_left' (by rw [fall3_length, List.length_take]; omega)]
theorem drop_lies {w : World} {b off : Nat} {l : List F} (h : FCells w b off l) (k : Nat) (hk : k ≤ l.length) : ∀ j u, (fall3 (l.drop k))[j]? = some u → w.cell? (Addr.add ⟨b, off + 3 * k, none⟩ j) = some u := by
  intro j u hj
  rw [fall3_drop l k hk, List.getElem?_drop] at hj
  have := h.2 _ _ hj
  have ea : Addr.add ⟨b, off + 3 * k, none⟩ j = ⟨b, off + (3 * k + j), none⟩ := by
    by_cases h : j = 0
    · simp [Addr.add, h]
    · unfold Addr.add; simp [h]; omega
  rw [ea]; exact this
end Go.Proofs.Ytckmciafonnohaa
/- The document's disk: files without one, and a file's place. -/
namespace Go.Proofs.Ytckmciafonnohaa
open Go.RowKit FsPlain
set_option linter.unusedVariables false
set_option linter.unusedSimpArgs false
set_option maxRecDepth 20000
def outF (n : List UInt8) (l : List F) : List F := l.filter fun y => decide (y.name ≠ n)
theorem outF_len (n : List UInt8) (l : List F) (k : Nat) : (outF n (l.take k)).length ≤ l.length := by
  refine Nat.le_trans (List.length_filter_le _ _) ?_
  rw [List.length_take]; omega
end Go.Proofs.Ytckmciafonnohaa
/- Plain facts on files by their names' order. -/
namespace Go.Proofs.Ytckmciafonnohaa
open FsPlain Go.WideAt
set_option linter.unusedVariables false
set_option linter.unusedSimpArgs false
set_option maxRecDepth 20000
theorem less_before : ∀ a b : List UInt8, Op.bytesLess a b = bytesBefore a b
  | [], [] => rfl
  | [], _ :: _ => rfl
  | _ :: _, [] => rfl
  | a :: r, b :: t => by unfold Op.bytesLess bytesBefore; rw [less_before r t]
theorem lessF_before (a b : F) : lessF a b = bytesBefore a.name b.name := less_before _ _
theorem lessF_irrefl (a : F) : lessF a a = false := by rw [lessF_before]; exact bytes_irrefl _
theorem lessF_trans {a b c : F} (h : lessF a b = true) (k : lessF b c = true) : lessF a c = true := by rw [lessF_before] at *; exact WideShapes.bytes_trans _ _ _ h k
theorem lessF_asymm {a b : F} (h : lessF a b = true) : lessF b a = false := by
  cases k : lessF b a
  · rfl
  · have := lessF_trans h k; rw [lessF_irrefl] at this; cases this
theorem lessF_name {a b c : F} (h : b.name = c.name) : lessF a b = lessF a c := by unfold lessF; rw [h]
theorem lessF_name' {a b c : F} (h : b.name = c.name) : lessF b a = lessF c a := by unfold lessF; rw [h]
def SortF (l : List F) : Prop := l.Pairwise fun a b => lessF a b = true
theorem ins_put (f : F) : ∀ l : List F, (∀ y ∈ l, y.name ≠ f.name) → insF f l = putF f l
  | [], _ => rfl
  | y :: r, h => by
    have hb : (Lit.string f.name).before (.string y.name) = bytesBefore f.name y.name := rfl
    unfold insF
    by_cases hc : bytesBefore f.name y.name = true
    · rw [if_pos (by rw [hb]; exact hc)]
      have : lessF y f = false := lessF_asymm (by rw [lessF_before]; exact hc)
      unfold putF
      simp [this]
    · rw [if_neg (by rw [hb]; exact hc), ins_put f r fun z hz => h z (List.mem_cons_of_mem _ hz)]
      have : lessF y f = true := by
        rw [lessF_before]
        exact (bytes_total y.name f.name (h y (List.mem_cons_self ..))).resolve_right hc
      unfold putF
      simp [this]
theorem put_mid {f : F} {A C : List F} (hA : ∀ y ∈ A, lessF y f = true) (hC : ∀ y ∈ C, lessF f y = true) : putF f (A ++ C) = A ++ f :: C := by
  have h1 : (A ++ C).take A.length = A := by simp
  have h2 : (A ++ C).drop A.length = C := by simp
  have := putF_at (f := f) (l := A ++ C) (k := A.length) (by rw [h1]; exact hA) (fun y hy => by
    rw [List.getElem?_append_right (Nat.le_refl _), Nat.sub_self] at hy
    exact lessF_asymm (hC y (List.mem_of_getElem? hy)))
  rw [h1, h2] at this
  exact this
theorem out_mid {n : List UInt8} {f : F} {A C : List F} (hf : f.name = n) (hA : ∀ y ∈ A, y.name ≠ n) (hC : ∀ y ∈ C, y.name ≠ n) : outF n (A ++ f :: C) = A ++ C := by
  have e : ∀ l : List F, (∀ y ∈ l, y.name ≠ n) → outF n l = l := fun l h => List.filter_eq_self.2 fun y hy => by simpa using h y hy
  unfold outF
  rw [List.filter_append, List.filter_cons_of_neg (by simp [hf])]
  have := e A hA
  have := e C hC
  unfold outF at *
  simp only [*]
theorem upd_put {s : St} (h : s.ok) (hs : SortF s.fs) {n : List UInt8} {f : F} (hf : s.get n = some f) (g : F → F) (hg : (g f).name = f.name) : putF (g f) (outF n s.fs) = (s.upd n g).fs ∧ SortF (s.upd n g).fs := by
  obtain ⟨A, C, he, hn, hA, hC, hu⟩ := get_split h hf
  unfold SortF at hs
  rw [he] at hs
  have hp := List.pairwise_append.1 hs
  have h1 : ∀ y ∈ A, lessF y (g f) = true := fun y hy => by rw [lessF_name hg]; exact hp.2.2 y hy f (List.mem_cons_self ..)
  have h2 : ∀ y ∈ C, lessF (g f) y = true := fun y hy => by rw [lessF_name' hg]; exact (List.pairwise_cons.1 hp.2.1).1 y hy
  rw [hu g, he, out_mid hn hA hC]
  refine ⟨put_mid h1 h2, ?_⟩
  unfold SortF
  refine List.pairwise_append.2 ⟨hp.1, List.pairwise_cons.2 ⟨h2, (List.pairwise_cons.1 hp.2.1).2⟩, fun a ha b hb => ?_⟩
  rcases List.mem_cons.1 hb with rfl | hb
  · exact h1 a ha
  · exact hp.2.2 a ha b (List.mem_cons_of_mem _ hb)
theorem take_less (f : F) (l : List F) : ∀ y ∈ l.takeWhile (fun y => lessF y f), lessF y f = true := fun y hy => by
  induction l with
  | nil => cases hy
  | cons a r ih =>
    rw [List.takeWhile_cons] at hy
    split at hy
    · rename_i h
      rcases List.mem_cons.1 hy with rfl | hy
      · exact h
      · exact ih hy
    · cases hy
theorem sort_put {f : F} : ∀ {l : List F}, SortF l → (∀ y ∈ l, y.name ≠ f.name) → SortF (putF f l)
  | [], _, _ => List.pairwise_singleton _ _
  | y :: r, hs, hn => by
    have hp := List.pairwise_cons.1 hs
    by_cases hc : lessF y f = true
    · have e : putF f (y :: r) = y :: putF f r := by unfold putF; simp [hc]
      rw [e]
      refine List.pairwise_cons.2 ⟨fun z hz => ?_, sort_put hp.2 fun z hz => hn z (List.mem_cons_of_mem _ hz)⟩
      have : z ∈ f :: r := by
        have hperm := insF_perm f r
        rw [ins_put f r fun z hz => hn z (List.mem_cons_of_mem _ hz)] at hperm
        exact hperm.mem_iff.1 hz
      rcases List.mem_cons.1 this with rfl | h
      · exact hc
      · exact hp.1 z h
    · have e : putF f (y :: r) = f :: y :: r := by unfold putF; simp [hc]
      rw [e]
      have hfy : lessF f y = true := by
        rw [lessF_before] at *
        exact (bytes_total y.name f.name (hn y (List.mem_cons_self ..))).resolve_left hc
      refine List.pairwise_cons.2 ⟨fun z hz => ?_, hs⟩
      rcases List.mem_cons.1 hz with rfl | h
      · exact hfy
      · exact lessF_trans hfy (hp.1 z h)
end Go.Proofs.Ytckmciafonnohaa
/- The document's disk: its block, a call, a file's place. -/
namespace Go.Proofs.Ytckmciafonnohaa
open Go.RowKit FsPlain
set_option linter.unusedVariables false
set_option linter.unusedSimpArgs false
set_option maxRecDepth 20000
def rcells (s : St) (v : Value) : Array Value := #[.int .i64 s.room, v, .int .i64 s.ahead, .bool s.down, .int .i64 s.calls]
/-- A disk lies in blocks of B. -/
def RB (w : World) (d : Nat) (v : Value) (B : Nat → Prop) : Prop := (∀ x, B x → x < w.heap.size) ∧ B d ∧ ∀ x, v.ownBlock = some x → B x
theorem FLies.slice {w : World} {v : Value} {l : List F} (h : FLies w v l) : ∃ a c, v = .slice a l.length c := by
  rcases h with ⟨rfl, rfl⟩ | ⟨b, off, c, rfl, _⟩
  · exact ⟨_, _, rfl⟩
  · exact ⟨_, _, rfl⟩
end Go.Proofs.Ytckmciafonnohaa
/- The document's disk: a file's place, its bytes, what is used. -/
namespace Go.Proofs.Ytckmciafonnohaa
open Go.RowKit FsPlain
set_option linter.unusedVariables false
set_option linter.unusedSimpArgs false
set_option maxRecDepth 20000
def placeF (n : List UInt8) (l : List F) : Int := if l.any (fun y => y.name == n) then (l.findIdx (fun y => y.name == n) : Int) else -1
theorem place_none {n : List UInt8} {l : List F} (h : ∀ y ∈ l, y.name ≠ n) : placeF n l = -1 := by
  unfold placeF
  rw [if_neg (by simpa using h)]
theorem place_some {n : List UInt8} {l : List F} {k : Nat} {y : F} (h : ∀ y ∈ l.take k, y.name ≠ n) (hy : l[k]? = some y) (hn : y.name = n) : placeF n l = k := by
  have hk := (List.getElem?_eq_some_iff.1 hy).1
  have hs : l = l.take k ++ y :: l.drop (k + 1) := by
    conv => lhs; rw [← List.take_append_drop k l]
    congr 1
    rw [List.drop_eq_getElem_cons hk]
    rw [(List.getElem?_eq_some_iff.1 hy).2]
  unfold placeF
  rw [if_pos (by simp only [List.any_eq_true]; exact ⟨y, List.mem_of_getElem? hy, by simp [hn]⟩)]
  rw [hs, List.findIdx_append, if_neg]
  · have : (l.take k).length = k := by rw [List.length_take]; omega
    rw [List.findIdx_cons]; simp [hn]; omega
  · rw [List.findIdx_lt_length]; simpa using h
theorem str_eq (a b : List UInt8) : ((bs a).toList == (bs b).toList) = decide (a = b) := by rw [Lib.toList_data, Lib.toList_data]; by_cases h : a = b <;> simp [bs, h]
def PlAt (n : List UInt8) (l : List F) (w : World) (i : Value) (wr : World) : Prop := ∃ k : Nat, k ≤ l.length ∧ i = .int .i64 k ∧ (∀ y ∈ l.take k, y.name ≠ n) ∧ Gr w wr
end Go.Proofs.Ytckmciafonnohaa
/- The document's disk: is there a file, what is used. -/
namespace Go.Proofs.Ytckmciafonnohaa
open Go.RowKit FsPlain
set_option linter.unusedVariables false
set_option linter.unusedSimpArgs false
set_option maxRecDepth 20000
theorem place_of_none {s : St} {n : List UInt8} (h : s.get n = none) : placeF n s.fs = -1 :=
  place_none fun y hy hn => by
    have := List.find?_eq_none.1 h y hy
    simp [hn] at this
theorem place_of_some {s : St} {n : List UInt8} {f : F} (h : s.get n = some f) : ∃ k, placeF n s.fs = (k : Nat) ∧ s.fs[k]? = some f ∧ f.name = n := by
  obtain ⟨A, C, he, hp, hA⟩ := find_split h
  have hn : f.name = n := by simpa using hp
  refine ⟨A.length, ?_, by rw [he]; simp, hn⟩
  exact place_some (y := f) (by rw [he]; simp; intro y hy; simpa using hA y hy) (by rw [he]; simp) hn
theorem used_take {l : List F} {k : Nat} {y : F} (h : l[k]? = some y) : used (l.take (k + 1)) = used (l.take k) + y.data.length := by
  rw [List.take_add_one, h]; simp [used]
theorem used_take_le (l : List F) (k : Nat) : used (l.take k) ≤ used l := by
  have : used l = used (l.take k) + used (l.drop k) := by
    unfold used
    rw [← List.sum_append, ← List.map_append, List.take_append_drop]
  omega
def UsAt (l : List F) (w : World) (u i : Value) (wr : World) : Prop := ∃ k : Nat, k ≤ l.length ∧ i = .int .i64 k ∧ u = .int .i64 (used (l.take k) : Int) ∧ Gr w wr
end Go.Proofs.Ytckmciafonnohaa
