/- In one text: RfsRiseK, CmArg. -/
import Derived.Test.YtckmciafonnohaaP13
import Derived.BigQuiet
import Derived.Test.YtckmciafonnohaaP18
/- The document's disk: Rise with whatever stays. -/
namespace Go.Proofs.Ytckmciafonnohaa
open Go.RowKit FsPlain
set_option linter.unusedVariables false
set_option linter.unusedSimpArgs false
set_option maxRecDepth 20000
/-- What stays, as an argument. -/
def KeepR (w : World) (a : Option Addr) (ks : List Int) : Prop := ks = [] ∨ ∃ kb ko, a = some ⟨kb, ko, none⟩ ∧ kb < w.heap.size ∧ ∀ j k, ks[j]? = some k → w.cell? ⟨kb, ko + j, none⟩ = some (.int .i64 k)
theorem KeepR.gr {w w' : World} {a : Option Addr} {ks : List Int} (h : KeepR w a ks) (g : Gr w w') : KeepR w' a ks := h.imp id fun ⟨kb, ko, e, hb, hc⟩ => ⟨kb, ko, e, Nat.lt_of_lt_of_le hb g.size, fun j k hk => by rw [Below.cell g (p := ⟨kb, ko + j, none⟩) hb]; exact hc j k hk⟩
/-- How many bytes more stay. -/
def moreN (y : F) (k : Int) : Nat := min (max k 0).toNat (y.data.length - y.kept)
theorem fallk_cells (y : F) (k : Int) (h : y.kept ≤ y.data.length) : fcells (fall y k) = [Value.string (bs y.name), Value.string ((bs y.data).extract 0 (y.kept + moreN y k)), Value.int IntKind.i64 ((y.kept + moreN y k : Nat) : Int)] := by
  have e : (bs y.data).extract 0 (y.kept + moreN y k) = bs (y.data.take (y.kept + moreN y k)) := by
    apply ByteArray.ext
    simp [bs, ByteArray.data_extract]
  rw [e]
  simp [fcells, fall, moreN]
theorem moreN_is {y : F} {k : Int} (h : y.kept ≤ y.data.length) : max 0 (min k ((y.data.length : Int) - (y.kept : Int))) = (moreN y k : Int) := by
  unfold moreN
  omega
end Go.Proofs.Ytckmciafonnohaa
/- An argument that is a slice of tries: a manifest, a fall, what stays. -/
namespace Go.Proofs.Ytckmciafonnohaa
open Go.RowKit Go.ChangeShapes Go.WideShapes Go.Deep MnPlain
set_option linter.unusedVariables false
set_option linter.unusedSimpArgs false
set_option maxRecDepth 20000
structure Ty where
  m : Mn
  fuse : Int
  keep : List Int
/-- A try lies at b, from o on. -/
def TyAt (w : World) (b o : Nat) (x : Ty) : Prop := ∃ (fa : Option Addr) (fc : Nat) (ka : Option Addr) (kc : Nat), w.cell? ⟨b, o, none⟩ = some (.int .i64 x.m.stage) ∧ w.cell? ⟨b, o + 1, none⟩ = some (.int .i64 x.m.pass) ∧ w.cell? ⟨b, o + 2, none⟩ = some (.slice fa x.m.files.length fc) ∧ w.cell? ⟨b, o + 3, none⟩ = some (.int .i64 x.fuse) ∧ w.cell? ⟨b, o + 4, none⟩ = some (.slice ka x.keep.length kc) ∧ LiesFl w (.slice fa x.m.files.length fc) x.m.files ∧ KeepR w ka x.keep
def LiesTy (w : World) (v : Value) (l : List Ty) : Prop := ∃ a c, v = .slice a l.length c ∧ l.length ≤ c ∧ (l = [] ∨ ∃ b o, a = some ⟨b, o, none⟩ ∧ b < w.heap.size ∧ ∀ (j : Nat) (x : Ty), l[j]? = some x → TyAt w b (o + j * 5) x)
/-- What its kinds say of a try. -/
def tyK (x : Ty) : Prop := (x.m.files.length ≤ maxLen ∧ (∀ f ∈ x.m.files, flK f) ∧ I64 x.m.stage ∧ I64 x.m.pass) ∧ I64 x.fuse ∧ x.keep.length ≤ maxLen ∧ ∀ k ∈ x.keep, I64 k
theorem TyAt.gr {w w' : World} {b o : Nat} {x : Ty} (h : TyAt w b o x) (hb : b < w.heap.size) (g : Gr w w') : TyAt w' b o x := by
  obtain ⟨fa, fc, ka, kc, h0, h1, h2, h3, h4, h5, h6⟩ := h
  exact ⟨fa, fc, ka, kc, (Below.cell g (p := ⟨b, _, none⟩) hb).trans h0, (Below.cell g (p := ⟨b, _, none⟩) hb).trans h1, (Below.cell g (p := ⟨b, _, none⟩) hb).trans h2, (Below.cell g (p := ⟨b, _, none⟩) hb).trans h3, (Below.cell g (p := ⟨b, _, none⟩) hb).trans h4, h5.gr g, h6.gr g⟩
theorem LiesTy.gr {w w' : World} {v : Value} {l : List Ty} (h : LiesTy w v l) (g : Gr w w') : LiesTy w' v l := by
  obtain ⟨a, c, e, hc, h⟩ := h
  exact ⟨a, c, e, hc, h.imp id fun ⟨b, o, e2, hb, k⟩ => ⟨b, o, e2, Nat.lt_of_lt_of_le hb g.size, fun j x hj => (k j x hj).gr hb g⟩⟩
theorem ty_get {w : World} {a : Option Addr} {n c : Nat} {l : List Ty} (h : LiesTy w (.slice a n c) l) {i : Nat} (hi : i < l.length) : n = l.length ∧ n ≤ c ∧ ∃ b o, a = some ⟨b, o, none⟩ ∧ b < w.heap.size ∧ TyAt w b (o + i * 5) l[i] := by
  obtain ⟨a', c', e, hc, h⟩ := h
  simp only [Value.slice.injEq] at e
  obtain ⟨rfl, rfl, rfl⟩ := e
  rcases h with rfl | ⟨b, o, rfl, h1, h2⟩
  · simp at hi
  · exact ⟨rfl, hc, b, o, rfl, h1, h2 i _ (List.getElem?_eq_getElem hi)⟩
theorem ty_of {W : World} {H : Type} {enc : TypeId × Value → H} {fuel : Nat} {y : DataW H × List MemPlace} {c0 c1 c2 c3 c4 : Value} (h : DataW.trod enc Try.prog W 0 (fun _ => true) true fuel 35 [c0, c1, c2, c3, c4] = some y) :
    ∃ (x : Ty) (fa : Option Addr) (fc : Nat) (ka : Option Addr) (kc : Nat), c0 = .int .i64 x.m.stage ∧ c1 = .int .i64 x.m.pass ∧ c2 = .slice fa x.m.files.length fc ∧ c3 = .int .i64 x.fuse ∧ c4 = .slice ka x.keep.length kc ∧ LiesFl W (.slice fa x.m.files.length fc) x.m.files ∧ KeepR W ka x.keep ∧ tyK x := by
  obtain ⟨xs, n, _, hx, _, hlen, hg⟩ := DataW.trod_struct Try.underlying35 h
  have k0 : Try.prog.cellsOf 31 = 3 := by kernel_rfl
  have k1 : Try.prog.cellsOf 3 = 1 := by kernel_rfl
  have k2 : Try.prog.cellsOf 33 = 1 := by kernel_rfl
  have k3 : Try.prog.cellsOf 29 = 1 := by kernel_rfl
  have g0 : DataW.trod enc Try.prog W 0 (fun _ => true) true n 31 ((([c0, c1, c2, c3, c4] : List Value).drop 0).take (Try.prog.cellsOf 31)) = xs[0]? := hg 0 _ rfl
  have g1 : DataW.trod enc Try.prog W 0 (fun _ => true) true n 3 ((([c0, c1, c2, c3, c4] : List Value).drop 3).take (Try.prog.cellsOf 3)) = xs[1]? := hg 1 _ rfl
  have g2 : DataW.trod enc Try.prog W 0 (fun _ => true) true n 33 ((([c0, c1, c2, c3, c4] : List Value).drop 4).take (Try.prog.cellsOf 33)) = xs[2]? := hg 2 _ rfl
  have hl : xs.length = 3 := hlen
  rw [k0, List.getElem?_eq_getElem (by omega)] at g0
  rw [k1, List.getElem?_eq_getElem (by omega)] at g1
  rw [k2, List.getElem?_eq_getElem (by omega)] at g2
  have g0' : DataW.trod enc Try.prog W 0 (fun _ => true) true n 31 [c0, c1, c2] = some xs[0] := g0
  obtain ⟨zs, n2, _, hz, _, hlen2, hg2⟩ := DataW.trod_struct Try.underlying31 g0'
  have q0 : DataW.trod enc Try.prog W 0 (fun _ => true) true n2 3 ((([c0, c1, c2] : List Value).drop 0).take (Try.prog.cellsOf 3)) = zs[0]? := hg2 0 _ rfl
  have q1 : DataW.trod enc Try.prog W 0 (fun _ => true) true n2 3 ((([c0, c1, c2] : List Value).drop 1).take (Try.prog.cellsOf 3)) = zs[1]? := hg2 1 _ rfl
  have q2 : DataW.trod enc Try.prog W 0 (fun _ => true) true n2 29 ((([c0, c1, c2] : List Value).drop 2).take (Try.prog.cellsOf 29)) = zs[2]? := hg2 2 _ rfl
  have hl2 : zs.length = 3 := hlen2
  rw [k1, List.getElem?_eq_getElem (by omega)] at q0
  rw [k1, List.getElem?_eq_getElem (by omega)] at q1
  rw [k3, List.getElem?_eq_getElem (by omega)] at q2
  obtain ⟨i0, e0, b0⟩ := rd_int Try.underlying3 ⟨H, enc, n2, _, q0⟩
  obtain ⟨i1, e1, b1⟩ := rd_int Try.underlying3 ⟨H, enc, n2, _, q1⟩
  obtain ⟨L, hL, hLl, hLK⟩ := liesFl_in Try.underlying29 ⟨H, enc, n2, _, q2⟩
  obtain ⟨i3, e3, b3⟩ := rd_int Try.underlying3 ⟨H, enc, n, _, g1⟩
  obtain ⟨ka, kc, ks, e4, hks, hrow, hwf⟩ := rd_ints Try.underlying33 Try.underlying3 k1 ⟨H, enc, n, _, g2⟩
  obtain ⟨fa, fc, e2, _⟩ := id hL
  subst e2
  refine ⟨⟨⟨i0, i1, L⟩, i3, ks⟩, fa, fc, ka, kc, e0, e1, rfl, e3, e4, hL, ?_, ⟨hLl, hLK, bounds_i64 b0, bounds_i64 b1⟩, bounds_i64 b3, hks, fun k hk => bounds_i64 (hwf k hk)⟩
  rcases hrow with h0 | ⟨b, off, e, hb, hc⟩
  · exact .inl (by cases ks with | nil => rfl | cons a r => cases h0)
  · exact .inr ⟨b, off, e, hb, fun j k hk => hc j _ (by rw [List.getElem?_map, hk]; rfl)⟩
theorem liesTy_in {w : World} {t : TypeId} {v : Value} (ht : Try.prog.underlying t = some (.slice 35)) (h : Rd Try.prog w t v) : ∃ l : List Ty, LiesTy w v l ∧ l.length ≤ maxLen ∧ ∀ x ∈ l, tyK x := by
  obtain ⟨H, enc, fuel, y, h⟩ := h
  rcases open_slice ht h with ⟨h1, _⟩ | ⟨a, len, cap, m, n, D, Pl, h1, hb, hl, hm, hmm, _, hi⟩
  · exact ⟨[], ⟨none, 0, by simpa using h1, Nat.le_refl _, .inl rfl⟩, by simp, by simp⟩
  · have hv : v = .slice (some a) len cap := by simpa using h1
    simp only [if_true] at hmm
    subst hmm
    have k3 : Try.prog.cellsOf 35 = 5 := by kernel_rfl
    have el : ∀ i, i < len → ∃ x : Ty, (∃ (fa : Option Addr) (fc : Nat) (ka : Option Addr) (kc : Nat), w.cell? (a.add (i * 5)) = some (.int .i64 x.m.stage) ∧ w.cell? (a.add (i * 5 + 1)) = some (.int .i64 x.m.pass) ∧ w.cell? (a.add (i * 5 + 2)) = some (.slice fa x.m.files.length fc) ∧ w.cell? (a.add (i * 5 + 3)) = some (.int .i64 x.fuse) ∧ w.cell? (a.add (i * 5 + 4)) = some (.slice ka x.keep.length kc) ∧ LiesFl w (.slice fa x.m.files.length fc) x.m.files ∧ KeepR w ka x.keep) ∧ tyK x := by
      intro i hlt
      obtain ⟨cs', hcs, htr⟩ := hi i (by omega)
      rw [k3] at hcs
      obtain ⟨_, hcl, hat⟩ := World.cells?_some hcs
      match cs', hcl with
      | [c0, c1, c2, c3, c4], _ =>
        obtain ⟨x, fa, fc, ka, kc, rfl, rfl, rfl, rfl, rfl, h5, h6, h7⟩ := ty_of htr
        refine ⟨x, ⟨fa, fc, ka, kc, ?_, ?_, ?_, ?_, ?_, h5, h6⟩, h7⟩
        · have := hat (i := 0) (by omega); rw [Go.Deep.add_add] at this; simpa using this
        · have := hat (i := 1) (by omega); rw [Go.Deep.add_add] at this; simpa using this
        · have := hat (i := 2) (by omega); rw [Go.Deep.add_add] at this; simpa using this
        · have := hat (i := 3) (by omega); rw [Go.Deep.add_add] at this; simpa using this
        · have := hat (i := 4) (by omega); rw [Go.Deep.add_add] at this; simpa using this
    by_cases h0 : len = 0
    · subst h0
      exact ⟨[], ⟨some a, m, hv, Nat.zero_le _, .inl rfl⟩, by simp, by simp⟩
    · obtain ⟨x0, ⟨_, _, _, _, hx0, _⟩, _⟩ := el 0 (by omega)
      have hspot : a.spot = none := by simpa [Addr.add] using World.cell?_spot hx0
      have hlt : a.block < w.heap.size := by simpa [Addr.add] using World.block_lt_of_cell? w _ hx0
      obtain ⟨b, off, spot⟩ := a
      simp only at hspot hlt
      subst hspot
      have hex : ∀ i : Nat, ∃ x : Ty, i < len → TyAt w b (off + i * 5) x ∧ tyK x := by
        intro i
        by_cases h : i < len
        · obtain ⟨x, ⟨fa, fc, ka, kc, q0, q1, q2, q3, q4, q5, q6⟩, hx⟩ := el i h
          rw [add_lit19] at q0 q1 q2 q3 q4
          exact ⟨x, fun _ => ⟨⟨fa, fc, ka, kc, q0, by rw [Nat.add_assoc]; exact q1, by rw [Nat.add_assoc]; exact q2, by rw [Nat.add_assoc]; exact q3, by rw [Nat.add_assoc]; exact q4, q5, q6⟩, hx⟩⟩
        · exact ⟨x0, fun h' => absurd h' h⟩
      obtain ⟨f, hf⟩ := Classical.axiomOfChoice hex
      refine ⟨(List.range len).map f, ⟨some ⟨b, off, none⟩, m, by rw [hv]; simp, by simpa using hl, .inr ⟨b, off, rfl, hlt, ?_⟩⟩, by simp; omega, ?_⟩
      · intro j x hj
        rw [List.getElem?_map, Option.map_eq_some_iff] at hj
        obtain ⟨i, hi1, rfl⟩ := hj
        obtain ⟨hi2, rfl⟩ := List.getElem?_eq_some_iff.1 hi1
        simp only [List.getElem_range]
        exact (hf j (by simpa using hi2)).1
      · intro x hx
        obtain ⟨i, hi1, rfl⟩ := List.mem_map.1 hx
        exact (hf i (List.mem_range.1 hi1)).2
end Go.Proofs.Ytckmciafonnohaa
