/- Places, pairs, edges and draws as arguments; blocks that hold them. -/
import Derived.Test.YtnmddnhllfojeaaArgs
import Derived.Test.YtnmddnhllfojeaaRcRef5
namespace Go.Proofs.Ytnmddnhllfojeaa
open Go.RowKit Go.ChangeShapes Go.WideShapes Go.Deep OctPlain RcPlain
set_option linter.unusedVariables false
set_option linter.unusedSimpArgs false
set_option maxRecDepth 20000
theorem place_in {w : World} {v : Value} (h : RdAgg Try.prog w 23 v) : ∃ x y : Int, v = .agg #[.int .i64 x, .int .i64 y] ∧ I64 x ∧ I64 y := by
  obtain ⟨fs, cs, hu, rfl, hsz, hf⟩ := h
  rw [Try.underlying23] at hu
  simp only [Option.some.injEq, TypeDesc.struct.injEq] at hu
  subst hu
  obtain ⟨l⟩ := cs
  match l, hsz with
  | [c0, c1], _ =>
    obtain ⟨d0, e0, r0⟩ := hf 0 _ rfl
    obtain ⟨d1, e1, r1⟩ := hf 1 _ rfl
    simp at e0 e1
    subst e0 e1
    obtain ⟨n, rfl, hn⟩ := rd_int Try.underlying3 r0
    obtain ⟨k, rfl, hk⟩ := rd_int Try.underlying3 r1
    exact ⟨n, k, rfl, bounds_i64 hn, bounds_i64 hk⟩
theorem pair_in {w : World} {v : Value} (h : RdAgg Try.prog w 25 v) : ∃ x y : Int, v = .agg #[.int .i64 x, .int .i64 y] ∧ I64 x ∧ I64 y := by
  obtain ⟨fs, cs, hu, rfl, hsz, hf⟩ := h
  rw [Try.underlying25] at hu
  simp only [Option.some.injEq, TypeDesc.struct.injEq] at hu
  subst hu
  obtain ⟨l⟩ := cs
  match l, hsz with
  | [c0, c1], _ =>
    obtain ⟨d0, e0, r0⟩ := hf 0 _ rfl
    obtain ⟨d1, e1, r1⟩ := hf 1 _ rfl
    simp at e0 e1
    subst e0 e1
    obtain ⟨n, rfl, hn⟩ := rd_int Try.underlying3 r0
    obtain ⟨k, rfl, hk⟩ := rd_int Try.underlying3 r1
    exact ⟨n, k, rfl, bounds_i64 hn, bounds_i64 hk⟩
theorem draw_in {w : World} {v : Value} (h : RdAgg Try.prog w 31 v) : ∃ x y z t : Int, v = .agg #[.int .i64 x, .int .i64 y, .int .i64 z, .int .i64 t] ∧ I64 x ∧ I64 y ∧ I64 z ∧ I64 t := by
  obtain ⟨fs, cs, hu, rfl, hsz, hf⟩ := h
  rw [Try.underlying31] at hu
  simp only [Option.some.injEq, TypeDesc.struct.injEq] at hu
  subst hu
  obtain ⟨l⟩ := cs
  match l, hsz with
  | [c0, c1, c2, c3], _ =>
    obtain ⟨d0, e0, r0⟩ := hf 0 _ rfl
    obtain ⟨d1, e1, r1⟩ := hf 1 _ rfl
    obtain ⟨d2, e2, r2⟩ := hf 2 _ rfl
    obtain ⟨d3, e3, r3⟩ := hf 3 _ rfl
    simp at e0 e1 e2 e3
    subst e0 e1 e2 e3
    obtain ⟨n, rfl, hn⟩ := rd_int Try.underlying3 r0
    obtain ⟨k, rfl, hk⟩ := rd_int Try.underlying3 r1
    obtain ⟨l, rfl, hl⟩ := rd_int Try.underlying3 r2
    obtain ⟨m, rfl, hm⟩ := rd_int Try.underlying3 r3
    exact ⟨n, k, l, m, rfl, bounds_i64 hn, bounds_i64 hk, bounds_i64 hl, bounds_i64 hm⟩
theorem edge_in {w : World} {v : Value} (h : RdS Try.prog w 29 v) : ∃ (f d i : Int) (nw : Bool), v = .agg #[.int .i64 f, .int .i64 d, .int .i64 i, .bool nw] ∧ I64 f ∧ I64 d ∧ I64 i := by
  obtain ⟨cs, H, enc, fuel, y, rfl, hsz, h⟩ := h
  rw [show Try.prog.cellsOf 29 = 4 by kernel_rfl] at hsz
  obtain ⟨l⟩ := cs
  match l, hsz with
  | [c0, c1, c2, c3], _ =>
    obtain ⟨xs, n, _, hx, _, hlen, hg⟩ := DataW.trod_struct Try.underlying29 h
    have k0 : Try.prog.cellsOf 3 = 1 := by kernel_rfl
    have k1 : Try.prog.cellsOf 4 = 1 := by kernel_rfl
    have k3 : Try.prog.cellsOf 27 = 3 := by kernel_rfl
    have g0 : DataW.trod enc Try.prog w 0 (fun _ => true) true n 3 ((([c0, c1, c2, c3] : List Value).drop 0).take (Try.prog.cellsOf 3)) = xs[0]? := hg 0 _ rfl
    have g1 : DataW.trod enc Try.prog w 0 (fun _ => true) true n 27 ((([c0, c1, c2, c3] : List Value).drop 1).take (Try.prog.cellsOf 27)) = xs[1]? := hg 1 _ rfl
    have hl : xs.length = 2 := hlen
    rw [k0, List.getElem?_eq_getElem (by omega)] at g0
    rw [k3, List.getElem?_eq_getElem (by omega)] at g1
    obtain ⟨ys, m, _, hy, _, hlen2, hh⟩ := DataW.trod_struct Try.underlying27 g1
    have h0 : DataW.trod enc Try.prog w 0 (fun _ => true) true m 3 ((([c1, c2, c3] : List Value).drop 0).take (Try.prog.cellsOf 3)) = ys[0]? := hh 0 _ rfl
    have h1 : DataW.trod enc Try.prog w 0 (fun _ => true) true m 3 ((([c1, c2, c3] : List Value).drop 1).take (Try.prog.cellsOf 3)) = ys[1]? := hh 1 _ rfl
    have h2 : DataW.trod enc Try.prog w 0 (fun _ => true) true m 4 ((([c1, c2, c3] : List Value).drop 2).take (Try.prog.cellsOf 4)) = ys[2]? := hh 2 _ rfl
    have hl2 : ys.length = 3 := hlen2
    rw [k0, List.getElem?_eq_getElem (by omega)] at h0 h1
    rw [k1, List.getElem?_eq_getElem (by omega)] at h2
    obtain ⟨f, e0, b0⟩ := rd_int Try.underlying3 ⟨H, enc, n, _, g0⟩
    obtain ⟨d, e1, b1⟩ := rd_int Try.underlying3 ⟨H, enc, m, _, h0⟩
    obtain ⟨i, e2, b2⟩ := rd_int Try.underlying3 ⟨H, enc, m, _, h1⟩
    obtain ⟨nw, e3⟩ := rd_bool Try.underlying4 ⟨H, enc, m, _, h2⟩
    subst e0 e1 e2 e3
    exact ⟨f, d, i, nw, rfl, bounds_i64 b0, bounds_i64 b1, bounds_i64 b2⟩
/-- Two cells, where they are known. -/
def Two14 (p : Nat) (T : TypeId) (a b : Value) (u : World) : Prop := u.heap[p]? = some (.cells #[a, b] T (0, 0))
theorem Two14.gr {p : Nat} {T : TypeId} {a b : Value} {u v : World} (h : Two14 p T a b u) (g : Gr u v) : Two14 p T a b v := (g.block _ (lt_of_block h)).trans h
theorem Two14.at {p : Nat} {T : TypeId} {a b : Value} {u : World} (h : Two14 p T a b u) : u.cell? ⟨p, 0, none⟩ = some a ∧ u.cell? ⟨p, 1, none⟩ = some b := by
  unfold Two14 at h
  constructor <;> (rw [cells_at h]; rfl)
theorem Two14.new (w : World) (T : TypeId) (a b : Value) : Two14 w.heap.size T a b (w.alloc (.cells #[a, b] T)) := heap_alloc_new w _
end Go.Proofs.Ytnmddnhllfojeaa
