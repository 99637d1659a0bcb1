/- In one text: MnLaw, CmRef, Parts. -/
import Derived.Test.YtckmciafonnohaaP27
import Derived.Test.YtckmciafonnohaaP34
import Derived.Test.YtckmciafonnohaaP11
import Derived.Test.YtckmciafonnohaaP13
import Derived.Test.YtckmciafonnohaaP21
/- For the statements of layer 19: arguments, and contracts in the form that a walk wants. -/
namespace Go.Proofs.Ytckmciafonnohaa
open Go.RowKit Go.ChangeShapes Go.WideShapes Go.Deep FsPlain CrcPlain OctPlain MnPlain
set_option linter.unusedVariables false
set_option linter.unusedSimpArgs false
set_option maxRecDepth 20000
theorem mn_in {w : World} {v : Value} (h : RdAgg Try.prog w 31 v) : ∃ (m : Mn) (a : Option Addr) (c : Nat), v = .agg #[.int .i64 m.stage, .int .i64 m.pass, .slice a m.files.length c] ∧ LiesFl w (.slice a m.files.length c) m.files ∧ m.files.length ≤ maxLen ∧ (∀ f ∈ m.files, flK f) ∧ I64 m.stage ∧ I64 m.pass := by
  obtain ⟨fs, cs, hu, rfl, hsz, hf⟩ := h
  rw [Try.underlying31] at hu
  simp only [Option.some.injEq, TypeDesc.struct.injEq] at hu
  subst hu
  obtain ⟨l⟩ := cs
  match l, hsz with
  | [c0, c1, c2], _ =>
    obtain ⟨d0, e0, r0⟩ := hf 0 _ rfl
    obtain ⟨d1, e1, r1⟩ := hf 1 _ rfl
    obtain ⟨d2, e2, r2⟩ := hf 2 _ rfl
    simp at e0 e1 e2
    subst e0 e1 e2
    obtain ⟨n, rfl, hn⟩ := rd_int Try.underlying3 r0
    obtain ⟨k, rfl, hk⟩ := rd_int Try.underlying3 r1
    obtain ⟨L, hL, hl, hK⟩ := liesFl_in Try.underlying29 r2
    obtain ⟨a, c, e, _⟩ := id hL
    subst e
    exact ⟨⟨n, k, L⟩, a, c, rfl, hL, hl, hK, bounds_i64 hn, bounds_i64 hk⟩
theorem fl_in {w : World} {v : Value} (h : RdAgg Try.prog w 61 v) : ∃ f : Fl, v = .agg #[.string f.name, .int .i64 f.size, .int .i64 f.count, .int .u32 f.sum] ∧ flK f := by
  obtain ⟨fs, cs, hu, rfl, hsz, hf⟩ := h
  rw [Try.underlying61] at hu
  simp only [Option.some.injEq, TypeDesc.struct.injEq] at hu
  subst hu
  obtain ⟨l⟩ := cs
  match l, hsz with
  | [c0, c1, c2, c3], _ =>
    obtain ⟨d0, e0, r0⟩ := hf 0 _ rfl
    obtain ⟨d1, e1, r1⟩ := hf 1 _ rfl
    obtain ⟨d2, e2, r2⟩ := hf 2 _ rfl
    obtain ⟨d3, e3, r3⟩ := hf 3 _ rfl
    simp at e0 e1 e2 e3
    subst e0 e1 e2 e3
    obtain ⟨s, rfl, hs⟩ := rd_string Try.underlying9 r0
    obtain ⟨n, rfl, hn⟩ := rd_int Try.underlying3 r1
    obtain ⟨k, rfl, hk⟩ := rd_int Try.underlying3 r2
    obtain ⟨q, rfl, hq⟩ := rd_int Try.underlying59 r3
    have b3 := bounds_u32 hq
    exact ⟨⟨s, n, k, q⟩, rfl, hs, bounds_i64 hn, bounds_i64 hk, b3.1, by show q < 4294967296; omega⟩
namespace MnPlain
theorem few_mn {l : List Fl} (h : fewB l = true) : l.length ≤ 20 ∧ ∀ f ∈ l, f.name.size ≤ 40 := by
  unfold fewB at h
  rw [Bool.and_eq_true, decide_eq_true_iff, List.all_eq_true] at h
  refine ⟨h.2, fun f hf => ?_⟩
  have := h.1 f (by rw [List.take_of_length_le h.2]; exact hf)
  simpa using this
/-- The bytes that Put tells. -/
def ptS (m : Mn) : ByteArray := if mnB m = true then mnS m else ⟨#[]⟩
theorem ptS_size {m : Mn} : (ptS m).size ≤ 1000 := by
  unfold ptS
  split
  · next h =>
    have hb : newB [] m.files = true := by unfold mnB at h; rw [Bool.and_eq_true] at h; exact h.2
    have h16 : m.files.length ≤ 16 := by
      unfold mnB at h
      simp only [Bool.and_eq_true, decide_eq_true_eq] at h
      exact h.1.2.2
    have := flatl_le (l := m.files) fun f hf => by
      have := newB_all hb f hf
      unfold flB rightB at this
      simp only [Bool.and_eq_true, decide_eq_true_eq] at this
      have e : f.name.data.toList.length = f.name.size := rfl
      omega
    rw [mnS_size, ← flat_length]
    omega
  · show (0 : Nat) ≤ 1000
    omega
/-- What Get tells. -/
def gtIs (s : ByteArray) (m : Mn) (b : Bool) : Prop := (b = true ∧ mnIs s m) ∨ (b = false ∧ m = ⟨0, 0, []⟩ ∧ ∀ m', ¬ mnIs s m')
theorem gtIs_one {s : ByteArray} {m m' : Mn} {b b' : Bool} (h : gtIs s m b) (h' : gtIs s m' b') : m' = m ∧ b' = b := by
  rcases h with ⟨rfl, h⟩ | ⟨rfl, rfl, h⟩ <;> rcases h' with ⟨rfl, h'⟩ | ⟨rfl, rfl, h'⟩
  · exact ⟨mnIs_one h' h, rfl⟩
  · exact absurd h (h' _)
  · exact absurd h' (h _)
  · exact ⟨rfl, rfl⟩
end MnPlain
theorem gt_cases2 {s : ByteArray} {w w' : World} {e : Ending} (h : GtSays s w e w') : ∃ (m : Mn) (a : Option Addr) (c : Nat) (b : Bool), e = .returned (.tuple #[.agg #[.int .i64 m.stage, .int .i64 m.pass, .slice a m.files.length c], .bool b]) ∧ LiesFl w' (.slice a m.files.length c) m.files ∧ m.files.length ≤ maxLen ∧ gtIs s m b ∧ Gr w w' ∧ NewFl w (.slice a m.files.length c) := by
  obtain ⟨h | h, g⟩ := h
  · obtain ⟨m, v, hm, rfl, hl, _, hn⟩ := h
    obtain ⟨a, c, e, _⟩ := id hl
    subst e
    have h16 : m.files.length ≤ 16 := by
      have h := hm.1
      unfold mnB at h
      simp only [Bool.and_eq_true, decide_eq_true_eq] at h
      exact h.1.2.2
    exact ⟨m, a, c, true, rfl, hl, by unfold maxLen; omega, .inl ⟨rfl, hm⟩, g, hn⟩
  · exact ⟨⟨0, 0, []⟩, none, 0, false, h.2, liesFl_nil w', by unfold maxLen; simp, .inr ⟨rfl, rfl, h.1⟩, g, newFl_nil w _ _⟩
theorem gt_cases {s : ByteArray} {w w' : World} {e : Ending} (h : GtSays s w e w') : ∃ (m : Mn) (a : Option Addr) (c : Nat) (b : Bool), e = .returned (.tuple #[.agg #[.int .i64 m.stage, .int .i64 m.pass, .slice a m.files.length c], .bool b]) ∧ LiesFl w' (.slice a m.files.length c) m.files ∧ m.files.length ≤ maxLen ∧ gtIs s m b ∧ Gr w w' := by
  obtain ⟨m, a, c, b, h1, h2, h3, h4, h5, _⟩ := gt_cases2 h
  exact ⟨m, a, c, b, h1, h2, h3, h4, h5⟩
theorem put19_c (m : Mn) {a : Option Addr} {n c : Nat} (w : World) (h : LiesFl w (.slice a n c) m.files) (hl : m.files.length ≤ maxLen) (hK : ∀ f ∈ m.files, flK f) :
    Calls Try.prog 15 #[.agg #[.int .i64 m.stage, .int .i64 m.pass, .slice a n c]] w fun e w' => e = .returned (.tuple #[.string (ptS m), .bool (mnB m)]) ∧ Gr w w' := by
  unfold ptS
  cases hm : mnB m
  · exact put19_no m w h hl hK hm
  · exact put19_yes m w h hK hm
theorem fl_eql (x : Fl) (w : World) : (binOp .eql 61 (.agg #[.string x.name, .int .i64 x.size, .int .i64 x.count, .int .u32 x.sum]) (.agg #[.string x.name, .int .i64 x.size, .int .i64 x.count, .int .u32 x.sum])).run Try.prog w = .ok (.bool true) w := by
  rw [run_eql_struct, fl_equal, flEq_iff.2 rfl]
  simp
/-- Same of two that are one. -/
theorem rsame_one (m : Mn) {v v' : Value} (w : World) (h : LiesFl w v m.files) (h' : LiesFl w v' m.files) (hl : m.files.length ≤ maxLen) :
    Calls Try.prog 11 #[.agg #[.int .i64 m.stage, .int .i64 m.pass, v], .agg #[.int .i64 m.stage, .int .i64 m.pass, v']] w fun e w' => e = .returned (.bool true) ∧ Gr w w' := by
  obtain ⟨a, c, e, _⟩ := id h
  obtain ⟨a', c', e', _⟩ := id h'
  subst e e'
  have := rsame19_c m.stage m.pass m.stage m.pass a a' _ _ c c' m.files m.files w h h' hl hl
  rwa [show mnEq ⟨m.stage, m.pass, m.files⟩ ⟨m.stage, m.pass, m.files⟩ = true from mnEq_iff.2 rfl] at this
/-- The cells of a file, of a manifest, in a block of their own. -/
def FlB (u : World) (p : Nat) (f : Fl) : Prop := u.cell? ⟨p, 0, none⟩ = some (.string f.name) ∧ u.cell? ⟨p, 1, none⟩ = some (.int .i64 f.size) ∧ u.cell? ⟨p, 2, none⟩ = some (.int .i64 f.count) ∧ u.cell? ⟨p, 3, none⟩ = some (.int .u32 f.sum)
def MnB (u : World) (p : Nat) (x y : Int) (v : Value) : Prop := u.cell? ⟨p, 0, none⟩ = some (.int .i64 x) ∧ u.cell? ⟨p, 1, none⟩ = some (.int .i64 y) ∧ u.cell? ⟨p, 2, none⟩ = some v
theorem flB_at {u : World} {p : Nat} {f : Fl} (h : u.heap[p]? = some (.cells #[.string f.name, .int .i64 f.size, .int .i64 f.count, .int .u32 f.sum] 61 (0, 0))) : FlB u p f := ⟨by rw [cells_at h]; rfl, by rw [cells_at h]; rfl, by rw [cells_at h]; rfl, by rw [cells_at h]; rfl⟩
theorem mnB_at {u : World} {p : Nat} {x y : Int} {v : Value} (h : u.heap[p]? = some (.cells #[.int .i64 x, .int .i64 y, v] 31 (0, 0))) : MnB u p x y v := ⟨by rw [cells_at h]; rfl, by rw [cells_at h]; rfl, by rw [cells_at h]; rfl⟩
theorem flB_gr {u u' : World} {p : Nat} {f : Fl} (h : FlB u p f) (g : Gr u u') : FlB u' p f := by
  have hb : p < u.heap.size := World.block_lt_of_cell? u _ h.1
  exact ⟨(Below.cell g (p := ⟨p, 0, none⟩) hb).trans h.1, (Below.cell g (p := ⟨p, 1, none⟩) hb).trans h.2.1, (Below.cell g (p := ⟨p, 2, none⟩) hb).trans h.2.2.1, (Below.cell g (p := ⟨p, 3, none⟩) hb).trans h.2.2.2⟩
theorem mnB_gr {u u' : World} {p : Nat} {x y : Int} {v : Value} (h : MnB u p x y v) (g : Gr u u') : MnB u' p x y v := by
  have hb : p < u.heap.size := World.block_lt_of_cell? u _ h.1
  exact ⟨(Below.cell g (p := ⟨p, 0, none⟩) hb).trans h.1, (Below.cell g (p := ⟨p, 1, none⟩) hb).trans h.2.1, (Below.cell g (p := ⟨p, 2, none⟩) hb).trans h.2.2⟩
end Go.Proofs.Ytckmciafonnohaa
/- The document's answers of layer 20: Save. -/
namespace Go.Proofs.Ytckmciafonnohaa
open Go.RowKit FsPlain CrcPlain OctPlain MnPlain CmPlain
set_option linter.unusedVariables false
set_option linter.unusedSimpArgs false
set_option maxRecDepth 20000
namespace CmPlain
/-- Save of a manifest. -/
def saveR (s : St) (m : Mn) : St × Int := if mnB m = true then saveS s (ptS m).data.toList else (s, 1)
end CmPlain
def wayS : ByteArray := ⟨#[109, 97, 110, 105, 102, 101, 115, 116, 46, 110, 101, 119]⟩
def nameS : ByteArray := ⟨#[109, 97, 110, 105, 102, 101, 115, 116]⟩
end Go.Proofs.Ytckmciafonnohaa
/- Whatever parts, all made since w but for what is in B: a call on the first or the second one, a part more, a store into a block, a part less. -/
namespace Go.Proofs.Ytckmciafonnohaa
open Go.RowKit
set_option linter.unusedVariables false
set_option linter.unusedSimpArgs false
set_option maxRecDepth 20000
def Qs (A : Nat → Prop) (L : List Asn) (w u : World) : Prop := Frs L ∧ ∃ B, stars L u B ∧ Nx A w B u
abbrev Ps (L : List Asn) (w u : World) : Prop := Qs (fun _ => False) L w u
theorem frs_iff : ∀ {L : List Asn}, Frs L ↔ ∀ P ∈ L, Fr P
  | [] => ⟨fun _ P h => (by cases h), fun _ => trivial⟩
  | A :: L => ⟨fun h P hP => by
      rcases List.mem_cons.1 hP with rfl | hP
      · exact h.1
      · exact frs_iff.1 h.2 P hP, fun h => ⟨h A List.mem_cons_self, frs_iff.2 fun P hP => h P (List.mem_cons_of_mem _ hP)⟩⟩
theorem Qs.gr {L : List Asn} {w u : World} (h : Ps L w u) : Gr w u := by
  obtain ⟨_, B, _, n⟩ := h
  exact nx_gr n
theorem Qs.on {A : Nat → Prop} {L : List Asn} {w u v : World} (h : Qs A L w u) (g : Gr u v) : Qs A L w v := by
  obtain ⟨hF, B, k, n⟩ := h
  exact ⟨hF, B, stars_gr hF k g, n.trans (Nx.gr g)⟩
theorem Qs.nil (w : World) : Ps [] w w := ⟨trivial, fun _ => False, fun _ h => h, Nx.refl _ _⟩
theorem Qs.one {A B : Nat → Prop} {P : Asn} {w u : World} (hP : Fr P) (p : P u B) (n : Nx A w B u) : Qs A [P] w u := ⟨⟨hP, trivial⟩, B, ⟨B, fun _ => False, p, (fun _ h => h), (fun _ _ h => h), fun b => (or_false _).symm ▸ Iff.rfl⟩, n⟩
theorem Qs.perm {A : Nat → Prop} {L M : List Asn} {w u : World} (h : Qs A L w u) (p : L.Perm M) : Qs A M w u := by
  obtain ⟨hF, B, k, n⟩ := h
  exact ⟨frs_iff.2 fun P hP => frs_iff.1 hF P (p.mem_iff.2 hP), B, stars_perm p k, n⟩
/-- A part less. -/
theorem Qs.tail {A : Nat → Prop} {P : Asn} {L : List Asn} {w u : World} (h : Qs A (P :: L) w u) : Qs A L w u := by
  obtain ⟨hF, B, ⟨B1, B2, _, q, _, e⟩, n⟩ := h
  exact ⟨hF.2, B2, q, n.trans ⟨Only.refl _ _, fun b hb => .inl ((e b).2 (.inr hb))⟩⟩
theorem Qs.part {A : Nat → Prop} {L : List Asn} {w u : World} {Q : Asn} (h : Qs A L w u) (i : Nat) (hi : L[i]? = some Q) : ∃ B, Q u B := by
  obtain ⟨_, B, k, _⟩ := h
  obtain ⟨B1, q, _⟩ := part_at i hi k
  exact ⟨B1, q⟩
theorem Qs.blk {A : Nat → Prop} {L : List Asn} {w u : World} {X : Nat} {c : Array Value} {T : TypeId} (h : Qs A L w u) (i : Nat) (hi : L[i]? = some (Blk X c T)) : u.heap[X]? = some (.cells c T (0, 0)) := by
  obtain ⟨_, q, _⟩ := h.part i hi
  exact q
/-- A part more, ahead of all. -/
theorem Qs.new {A : Nat → Prop} {L : List Asn} {w u v : World} {Q : Asn} {B' : Nat → Prop} (h : Qs A L w u) (g : Gr u v) (hQ : Fr Q) (q : Q v B') (hn : ∀ x, B' x → u.heap.size ≤ x) : Qs A (Q :: L) w v := by
  obtain ⟨hF, B, k, n⟩ := h
  obtain ⟨B3, k3, n3⟩ := part_new (P := Q) hF k g q hn
  exact ⟨⟨hQ, hF⟩, B3, k3, n.trans n3⟩
theorem Qs.blk_new {A : Nat → Prop} {L : List Asn} {w u v : World} (h : Qs A L w u) (c : Array Value) (T : TypeId) (hv : v = u.alloc (.cells c T)) : Qs A (Blk u.heap.size c T :: L) w v := by
  subst hv
  exact h.new (B' := fun b => b = u.heap.size) (Below.alloc (Below.refl _ _) (Nat.le_refl _) _) (fr_blk _ _ _) ⟨heap_alloc_new u _, fun _ => Iff.rfl⟩ (fun b hb => by rw [hb]; exact Nat.le_refl _)
theorem frs_set {Q : Asn} (hQ : Fr Q) : ∀ {L : List Asn} (i : Nat), Frs L → Frs (L.set i Q)
  | [], _, h => h
  | _ :: _, 0, h => ⟨hQ, h.2⟩
  | _ :: _, i + 1, h => ⟨h.1, frs_set hQ i h.2⟩
/-- A store into a block. -/
theorem Qs.set {A : Nat → Prop} {L : List Asn} {w u : World} {X : Nat} {c : Array Value} {T : TypeId} (h : Qs A L w u) (i : Nat) (hi : L[i]? = some (Blk X c T)) (j : Nat) (x : Value) : Qs A (L.set i (Blk X (c.setIfInBounds j x) T)) w (u.setCell ⟨X, j, none⟩ x) := by
  obtain ⟨hF, B, k, n⟩ := h
  obtain ⟨B', k', n'⟩ := step_at i hi hF k fun B1 hb => blk_next (i := j) hb x
  exact ⟨frs_set (fr_blk _ _ _) i hF, B', k', n.trans n'⟩
/-- Three stores. -/
theorem Qs.set3 {A : Nat → Prop} {L : List Asn} {w u : World} {X : Nat} {c : Array Value} {T : TypeId} (h : Qs A L w u) (i : Nat) (hi : L[i]? = some (Blk X c T)) (hc : c.size = 3) (x y z : Value) : Qs A (L.set i (Blk X #[x, y, z] T)) w (((u.setCell ⟨X, 0, none⟩ x).setCell ⟨X, 1, none⟩ y).setCell ⟨X, 2, none⟩ z) := by
  have il : i < L.length := by
    rcases Nat.lt_or_ge i L.length with h | h
    · exact h
    · rw [List.getElem?_eq_none h] at hi; cases hi
  have h1 := h.set i hi 0 x
  have h2 := h1.set i (by rw [List.getElem?_set_self il]) 1 y
  have h3 := h2.set i (by rw [List.getElem?_set_self (by simpa using il)]) 2 z
  rw [List.set_set, List.set_set] at h3
  match c, hc with
  | ⟨[_, _, _]⟩, _ => exact h3
/-- A call on the first part. -/
theorem Qs.call0 {A : Nat → Prop} {Pr : Program} {f : FuncId} {args : Array Value} {P Q : Asn} {L : List Asn} {X : Ending → World → Prop} {w u : World} (h : Qs A (P :: L) w u) (hQ : Fr Q) (C : ∀ B1, P u B1 → Calls Pr f args u fun e w' => X e w' ∧ ∃ B', Q w' B' ∧ Nx B1 u B' w') :
    Calls Pr f args u fun e w' => X e w' ∧ Qs A (Q :: L) w w' := by
  obtain ⟨hF, B, ⟨B1, B2, p, r, a, e⟩, n⟩ := h
  refine (C B1 p).mono fun e' w' ⟨hx, B', q, n1⟩ => ⟨hx, ⟨hQ, hF.2⟩, ?_⟩
  obtain ⟨B3, h3, n3⟩ := star_of (fr_stars hF.2) r a e q n1
  exact ⟨B3, h3, n.trans n3⟩
/-- A call on the second part. -/
theorem Qs.call1 {A : Nat → Prop} {Pr : Program} {f : FuncId} {args : Array Value} {O P Q : Asn} {L : List Asn} {X : Ending → World → Prop} {w u : World} (h : Qs A (O :: P :: L) w u) (hQ : Fr Q) (C : ∀ B1, P u B1 → Calls Pr f args u fun e w' => X e w' ∧ ∃ B', Q w' B' ∧ Nx B1 u B' w') :
    Calls Pr f args u fun e w' => X e w' ∧ Qs A (O :: Q :: L) w w' :=
  ((h.perm (List.Perm.swap P O L)).call0 hQ C).mono fun _ _ ⟨hx, k⟩ => ⟨hx, k.perm (List.Perm.swap O Q L)⟩
end Go.Proofs.Ytckmciafonnohaa
