/- The program's tree and the document's, side by side. -/
import Derived.Test.YtifpiekajbcoiaaLoAwake
import Derived.Test.YtifpiekajbcoiaaFew
import Derived.Test.YtifpiekajbcoiaaText
import Derived.Deep.RegionHeld3
namespace Go.Proofs.Ytifpiekajbcoiaa
open Go.RowKit LoPlain
set_option linter.unusedVariables false
set_option linter.unusedSimpArgs false
set_option maxRecDepth 20000
/-- Both trees, made since w: the program's of l', the document's of l. -/
def Bo (p q : Nat) (v1 v2 : Value) (l' l : List Hd) (w v : World) : Prop := ∃ B, star (LoA p l') (stars (rlps q v1 v2 l)) v B ∧ Nx (fun _ => False) w B v
theorem frs_bo (q : Nat) (v1 v2 : Value) (l : List Hd) : Fr (stars (rlps q v1 v2 l)) := fr_stars (frs_rlps q v1 v2 l)
theorem bo_call {p q : Nat} {v1 v2 : Value} {l' l2 l : List Hd} {w v : World} {f : FuncId} {args : Array Value} {x : Value} (h : Bo p q v1 v2 l' l w v) (k : ∀ B, LoA p l' v B → Calls Try.prog f args v (Does v B (LoA p l2) x)) :
    Calls Try.prog f args v fun e v' => e = .returned x ∧ Bo p q v1 v2 l2 l w v' := by
  obtain ⟨B, hs, n⟩ := h
  refine (does_star (frs_bo q v1 v2 l) hs k).mono ?_
  rintro e v' ⟨he, B', h', n'⟩
  exact ⟨he, B', h', n.trans n'⟩
theorem bo_gr {p q : Nat} {v1 v2 : Value} {l' l : List Hd} {w v v' : World} (h : Bo p q v1 v2 l' l w v) (g : Gr v v') : Bo p q v1 v2 l' l w v' := by
  obtain ⟨B, hs, n⟩ := h
  exact ⟨B, star_gr ((fr_lo p l').star (frs_bo q v1 v2 l)) hs g, n.trans (Nx.gr g)⟩
theorem bo_rlo {p q : Nat} {v1 v2 : Value} {l' l : List Hd} {w v : World} (h : Bo p q v1 v2 l' l w v) : ∃ B, RLoA q l v B := by
  obtain ⟨B, ⟨B1, B2, _, h2, _, _⟩, n⟩ := h
  exact ⟨B2, v1, v2, h2⟩
theorem bo_least {p q : Nat} {v1 v2 : Value} {l' l : List Hd} (hl : l'.length ≤ 64) {w v : World} (h : Bo p q v1 v2 l' l w v) :
    Calls Try.prog 9 #[.pointer (some ⟨p, 0, none⟩)] v fun e v' => e = .returned (.tuple #[.int .i64 (leastI l'), .bool (leastB l')]) ∧ Bo p q v1 v2 l' l w v' := bo_call h fun B k => lo_least_c hl k
theorem bo_left {p q : Nat} {v1 v2 : Value} {l' l : List Hd} (hl : l'.length ≤ 64) {w v : World} (h : Bo p q v1 v2 l' l w v) :
    Calls Try.prog 11 #[.pointer (some ⟨p, 0, none⟩)] v fun e v' => e = .returned (.int .i64 ((leftN l' : Nat) : Int)) ∧ Bo p q v1 v2 l' l w v' := bo_call h fun B k => lo_left_c hl k
theorem bo_head {p q : Nat} {v1 v2 : Value} {l' l : List Hd} (hl : l'.length ≤ 64) {w v : World} (h : Bo p q v1 v2 l' l w v) :
    Calls Try.prog 13 #[.pointer (some ⟨p, 0, none⟩)] v fun e v' => e = .returned (.string (headS l')) ∧ Bo p q v1 v2 l' l w v' := bo_call h fun B k => lo_head_c hl k
theorem bo_next {p q : Nat} {v1 v2 : Value} {l' l : List Hd} (hl : l'.length ≤ 64) (s : ByteArray) (o : Bool) (hz : s.size ≤ 1000) {w v : World} (h : Bo p q v1 v2 l' l w v) :
    Calls Try.prog 14 #[.pointer (some ⟨p, 0, none⟩), .string s, .bool o] v fun e v' => e = .returned (.tuple #[]) ∧ Bo p q v1 v2 (nextL l' s o) l w v' := bo_call h fun B k => lo_next_c hl s o hz k
theorem bo_rleast {p q : Nat} {v1 v2 : Value} {l' l : List Hd} (hl : l.length ≤ 1000) {w v : World} (h : Bo p q v1 v2 l' l w v) :
    Calls Try.prog 10 #[.pointer (some ⟨q, 0, none⟩)] v fun e v' => e = .returned (.tuple #[.int .i64 (leastI l), .bool (leastB l)]) ∧ Bo p q v1 v2 l' l w v' := by
  obtain ⟨B, k⟩ := bo_rlo h
  refine (rlo_least_c hl (rlo_cells k)).mono ?_
  rintro e v' ⟨he, g⟩
  exact ⟨he, bo_gr h g⟩
theorem bo_rleft {p q : Nat} {v1 v2 : Value} {l' l : List Hd} (hl : l.length ≤ 1000) {w v : World} (h : Bo p q v1 v2 l' l w v) :
    Calls Try.prog 12 #[.pointer (some ⟨q, 0, none⟩)] v fun e v' => e = .returned (.int .i64 ((leftN l : Nat) : Int)) ∧ Bo p q v1 v2 l' l w v' := by
  obtain ⟨B, k⟩ := bo_rlo h
  refine (rlo_left_c hl (rlo_cells k)).mono ?_
  rintro e v' ⟨he, rfl⟩
  exact ⟨he, h⟩
theorem bo_rnext {p q : Nat} {v1 v2 : Value} {l' l : List Hd} (hl : l.length ≤ 1000) (s : ByteArray) (o : Bool) {w v : World} (h : Bo p q v1 v2 l' l w v) :
    Calls Try.prog 15 #[.pointer (some ⟨q, 0, none⟩), .string s, .bool o] v fun e v' => e = .returned (.tuple #[]) ∧ ∃ v1' v2', Bo p q v1' v2' l' (nextL l s o) w v' := by
  obtain ⟨B, hs, n⟩ := h
  refine (does_star (Q := RLoA q (nextL l s o)) (fr_lo p l') (star_swap hs) (fun B1 k => rlo_next_c hl s o ⟨v1, v2, k⟩)).mono ?_
  rintro e v' ⟨he, B', h', n'⟩
  obtain ⟨B1, B2, ⟨v1', v2', h1⟩, h2, a, ee⟩ := h'
  exact ⟨he, v1', v2', B', star_swap ⟨B1, B2, h1, h2, a, ee⟩, n.trans n'⟩
/-- Where the document's heads lie. -/
theorem bo_cells {p q : Nat} {v1 v2 : Value} {l' l : List Hd} {w v : World} (h : Bo p q v1 v2 l' l w v) {i : Nat} {x : Hd} (hx : l[i]? = some x) :
    ∃ g c, v1 = .slice (some ⟨g, 0, none⟩) l.length c ∧ ∀ u, Bo p q v1 v2 l' l w u → u.cell? ⟨q, 0, none⟩ = some (.slice (some ⟨g, 0, none⟩) l.length c) ∧ u.cell? ⟨g, i, none⟩ = some (.string x.s) := by
  obtain ⟨B, ⟨B1, B2, _, h2, _, _⟩, n⟩ := h
  obtain ⟨_, h1, _⟩ := part_at 1 rfl h2
  have hlt : i < l.length := (List.getElem?_eq_some_iff.1 hx).1
  obtain ⟨g, c, rfl, _⟩ := rowE_form h1 (by omega)
  refine ⟨g, c, rfl, fun u hu => ?_⟩
  obtain ⟨B', ⟨B3, B4, _, h4, _, _⟩, n'⟩ := hu
  obtain ⟨_, hb, _⟩ := part_at 0 rfl h4
  obtain ⟨_, hr, _⟩ := part_at 1 rfl h4
  exact ⟨by rw [cells_at hb.1]; rfl, (rowE_at hr rfl (hdS_at hx)).1⟩
theorem bo_made {p q : Nat} {l : List Hd} {w u v : World} {B1 B2 : Nat → Prop} (h1 : LoA p l u B1) (n1 : ∀ b, B1 b → w.heap.size ≤ b) (g1 : Gr w u) (h2 : RLoA q l v B2) (n2 : ∀ b, B2 b → u.heap.size ≤ b) (g2 : Gr u v) : ∃ v1 v2, Bo p q v1 v2 l l w v := by
  obtain ⟨v1, v2, h2⟩ := h2
  refine ⟨v1, v2, fun b => B1 b ∨ B2 b, ⟨B1, B2, star_gr (fr_lo p l) h1 g2, h2, fun b hb hb2 => ?_, fun _ => Iff.rfl⟩, Only.ofGr (g1.trans g2), fun b hb => .inr ?_⟩
  · have := (fr_lo p l).lo h1 b hb
    have := n2 b hb2
    omega
  · rcases hb with hb | hb
    · exact n1 b hb
    · have := n2 b hb
      have := g1.size
      omega
theorem bo_end {p q : Nat} {v1 v2 : Value} {l' l : List Hd} {w v : World} (h : Bo p q v1 v2 l' l w v) : Gr w v := by
  obtain ⟨B, _, n⟩ := h
  exact nx_gr n
theorem bo_steps {p q : Nat} {v1 v2 : Value} {l' l : List Hd} {w v : World} {b o : Nat} {st : List Hd} (h : Bo p q v1 v2 l' l w v) (k : StRow w b o st) : StRow v b o st := by
  obtain ⟨B, _, n⟩ := h
  exact k.only n.only (fun _ _ e => e)
end Go.Proofs.Ytifpiekajbcoiaa
