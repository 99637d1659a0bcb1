/- In one text: CmArg, FsNames. -/
import Derived.Test.YtckmciafonnohaaGreatP17
import Derived.Test.YtckmciafonnohaaGreatP37
import Derived.Shelf.SlIter.Nil
import Derived.Shelf.SortM.Plain
import Derived.Shelf.SortM.SortNone
import Derived.Ground.GgzProg
import Derived.Ground.SlgmProg
import Derived.Sort.OwnSorted
import Derived.Test.YtckmciafonnohaaGreatP04
/- An argument that is a slice of tries: a manifest, a fall, what stays. -/
namespace Go.Proofs.YtckmciafonnohaaGreat
open Go.RowKit Go.ChangeShapes Go.WideShapes Go.Deep MnPlain
set_option linter.unusedVariables false
set_option linter.unusedSimpArgs false
set_option maxRecDepth 20000
structure Ty where
  m : Mn
  fuse : Int
  keep : List Int
/-- A try lies at b, from o on. -/
def TyAt (w : World) (b o : Nat) (x : Ty) : Prop := ∃ (fa : Option Addr) (fc : Nat) (ka : Option Addr) (kc : Nat), w.cell? ⟨b, o, none⟩ = some (.int .i64 x.m.stage) ∧ w.cell? ⟨b, o + 1, none⟩ = some (.int .i64 x.m.pass) ∧ w.cell? ⟨b, o + 2, none⟩ = some (.slice fa x.m.files.length fc) ∧ w.cell? ⟨b, o + 3, none⟩ = some (.int .i64 x.fuse) ∧ w.cell? ⟨b, o + 4, none⟩ = some (.slice ka x.keep.length kc) ∧ LiesFl w (.slice fa x.m.files.length fc) x.m.files ∧ KeepR w ka x.keep
def LiesTy (w : World) (v : Value) (l : List Ty) : Prop := ∃ a c, v = .slice a l.length c ∧ l.length ≤ c ∧ (l = [] ∨ ∃ b o, a = some ⟨b, o, none⟩ ∧ b < w.heap.size ∧ ∀ (j : Nat) (x : Ty), l[j]? = some x → TyAt w b (o + j * 5) x)
/-- What its kinds say of a try. -/
def tyK (x : Ty) : Prop := (x.m.files.length ≤ maxLen ∧ (∀ f ∈ x.m.files, flK f) ∧ I64 x.m.stage ∧ I64 x.m.pass) ∧ I64 x.fuse ∧ x.keep.length ≤ maxLen ∧ ∀ k ∈ x.keep, I64 k
theorem TyAt.gr {w w' : World} {b o : Nat} {x : Ty} (h : TyAt w b o x) (hb : b < w.heap.size) (g : Gr w w') : TyAt w' b o x := by
  obtain ⟨fa, fc, ka, kc, h0, h1, h2, h3, h4, h5, h6⟩ := h
  exact ⟨fa, fc, ka, kc, (Below.cell g (p := ⟨b, _, none⟩) hb).trans h0, (Below.cell g (p := ⟨b, _, none⟩) hb).trans h1, (Below.cell g (p := ⟨b, _, none⟩) hb).trans h2, (Below.cell g (p := ⟨b, _, none⟩) hb).trans h3, (Below.cell g (p := ⟨b, _, none⟩) hb).trans h4, h5.gr g, h6.gr g⟩
theorem LiesTy.gr {w w' : World} {v : Value} {l : List Ty} (h : LiesTy w v l) (g : Gr w w') : LiesTy w' v l := by
  obtain ⟨a, c, e, hc, h⟩ := h
  exact ⟨a, c, e, hc, h.imp id fun ⟨b, o, e2, hb, k⟩ => ⟨b, o, e2, Nat.lt_of_lt_of_le hb g.size, fun j x hj => (k j x hj).gr hb g⟩⟩
theorem ty_get {w : World} {a : Option Addr} {n c : Nat} {l : List Ty} (h : LiesTy w (.slice a n c) l) {i : Nat} (hi : i < l.length) : n = l.length ∧ n ≤ c ∧ ∃ b o, a = some ⟨b, o, none⟩ ∧ b < w.heap.size ∧ TyAt w b (o + i * 5) l[i] := by
  obtain ⟨a', c', e, hc, h⟩ := h
  simp only [Value.slice.injEq] at e
  obtain ⟨rfl, rfl, rfl⟩ := e
  rcases h with rfl | ⟨b, o, rfl, h1, h2⟩
  · simp at hi
  · exact ⟨rfl, hc, b, o, rfl, h1, h2 i _ (List.getElem?_eq_getElem hi)⟩
theorem ty_of {W : World} {H : Type} {enc : TypeId × Value → H} {fuel : Nat} {y : DataW H × List MemPlace} {c0 c1 c2 c3 c4 : Value} (h : DataW.trod enc Tryz.prog W 0 (fun _ => true) true fuel 39 [c0, c1, c2, c3, c4] = some y) :
    ∃ (x : Ty) (fa : Option Addr) (fc : Nat) (ka : Option Addr) (kc : Nat), c0 = .int .i64 x.m.stage ∧ c1 = .int .i64 x.m.pass ∧ c2 = .slice fa x.m.files.length fc ∧ c3 = .int .i64 x.fuse ∧ c4 = .slice ka x.keep.length kc ∧ LiesFl W (.slice fa x.m.files.length fc) x.m.files ∧ KeepR W ka x.keep ∧ tyK x := by
  obtain ⟨xs, n, _, hx, _, hlen, hg⟩ := DataW.trod_struct Tryz.underlying39 h
  have k0 : Tryz.prog.cellsOf 36 = 3 := by kernel_rfl
  have k1 : Tryz.prog.cellsOf 3 = 1 := by kernel_rfl
  have k2 : Tryz.prog.cellsOf 37 = 1 := by kernel_rfl
  have k3 : Tryz.prog.cellsOf 34 = 1 := by kernel_rfl
  have g0 : DataW.trod enc Tryz.prog W 0 (fun _ => true) true n 36 ((([c0, c1, c2, c3, c4] : List Value).drop 0).take (Tryz.prog.cellsOf 36)) = xs[0]? := hg 0 _ rfl
  have g1 : DataW.trod enc Tryz.prog W 0 (fun _ => true) true n 3 ((([c0, c1, c2, c3, c4] : List Value).drop 3).take (Tryz.prog.cellsOf 3)) = xs[1]? := hg 1 _ rfl
  have g2 : DataW.trod enc Tryz.prog W 0 (fun _ => true) true n 37 ((([c0, c1, c2, c3, c4] : List Value).drop 4).take (Tryz.prog.cellsOf 37)) = xs[2]? := hg 2 _ rfl
  have hl : xs.length = 3 := hlen
  rw [k0, List.getElem?_eq_getElem (by omega)] at g0
  rw [k1, List.getElem?_eq_getElem (by omega)] at g1
  rw [k2, List.getElem?_eq_getElem (by omega)] at g2
  have g0' : DataW.trod enc Tryz.prog W 0 (fun _ => true) true n 36 [c0, c1, c2] = some xs[0] := g0
  obtain ⟨zs, n2, _, hz, _, hlen2, hg2⟩ := DataW.trod_struct Tryz.underlying36 g0'
  have q0 : DataW.trod enc Tryz.prog W 0 (fun _ => true) true n2 3 ((([c0, c1, c2] : List Value).drop 0).take (Tryz.prog.cellsOf 3)) = zs[0]? := hg2 0 _ rfl
  have q1 : DataW.trod enc Tryz.prog W 0 (fun _ => true) true n2 3 ((([c0, c1, c2] : List Value).drop 1).take (Tryz.prog.cellsOf 3)) = zs[1]? := hg2 1 _ rfl
  have q2 : DataW.trod enc Tryz.prog W 0 (fun _ => true) true n2 34 ((([c0, c1, c2] : List Value).drop 2).take (Tryz.prog.cellsOf 34)) = zs[2]? := hg2 2 _ rfl
  have hl2 : zs.length = 3 := hlen2
  rw [k1, List.getElem?_eq_getElem (by omega)] at q0
  rw [k1, List.getElem?_eq_getElem (by omega)] at q1
  rw [k3, List.getElem?_eq_getElem (by omega)] at q2
  obtain ⟨i0, e0, b0⟩ := rd_int Tryz.underlying3 ⟨H, enc, n2, _, q0⟩
  obtain ⟨i1, e1, b1⟩ := rd_int Tryz.underlying3 ⟨H, enc, n2, _, q1⟩
  obtain ⟨L, hL, hLl, hLK⟩ := liesFl_in Tryz.underlying34 ⟨H, enc, n2, _, q2⟩
  obtain ⟨i3, e3, b3⟩ := rd_int Tryz.underlying3 ⟨H, enc, n, _, g1⟩
  obtain ⟨ka, kc, ks, e4, hks, hrow, hwf⟩ := rd_ints Tryz.underlying37 Tryz.underlying3 k1 ⟨H, enc, n, _, g2⟩
  obtain ⟨fa, fc, e2, _⟩ := id hL
  subst e2
  refine ⟨⟨⟨i0, i1, L⟩, i3, ks⟩, fa, fc, ka, kc, e0, e1, rfl, e3, e4, hL, ?_, ⟨hLl, hLK, bounds_i64 b0, bounds_i64 b1⟩, bounds_i64 b3, hks, fun k hk => bounds_i64 (hwf k hk)⟩
  rcases hrow with h0 | ⟨b, off, e, hb, hc⟩
  · exact .inl (by cases ks with | nil => rfl | cons a r => cases h0)
  · exact .inr ⟨b, off, e, hb, fun j k hk => hc j _ (by rw [List.getElem?_map, hk]; rfl)⟩
theorem liesTy_in {w : World} {t : TypeId} {v : Value} (ht : Tryz.prog.underlying t = some (.slice 39)) (h : Rd Tryz.prog w t v) : ∃ l : List Ty, LiesTy w v l ∧ l.length ≤ maxLen ∧ ∀ x ∈ l, tyK x := by
  obtain ⟨H, enc, fuel, y, h⟩ := h
  rcases open_slice ht h with ⟨h1, _⟩ | ⟨a, len, cap, m, n, D, Pl, h1, hb, hl, hm, hmm, _, hi⟩
  · exact ⟨[], ⟨none, 0, by simpa using h1, Nat.le_refl _, .inl rfl⟩, by simp, by simp⟩
  · have hv : v = .slice (some a) len cap := by simpa using h1
    simp only [if_true] at hmm
    subst hmm
    have k3 : Tryz.prog.cellsOf 39 = 5 := by kernel_rfl
    have el : ∀ i, i < len → ∃ x : Ty, (∃ (fa : Option Addr) (fc : Nat) (ka : Option Addr) (kc : Nat), w.cell? (a.add (i * 5)) = some (.int .i64 x.m.stage) ∧ w.cell? (a.add (i * 5 + 1)) = some (.int .i64 x.m.pass) ∧ w.cell? (a.add (i * 5 + 2)) = some (.slice fa x.m.files.length fc) ∧ w.cell? (a.add (i * 5 + 3)) = some (.int .i64 x.fuse) ∧ w.cell? (a.add (i * 5 + 4)) = some (.slice ka x.keep.length kc) ∧ LiesFl w (.slice fa x.m.files.length fc) x.m.files ∧ KeepR w ka x.keep) ∧ tyK x := by
      intro i hlt
      obtain ⟨cs', hcs, htr⟩ := hi i (by omega)
      rw [k3] at hcs
      obtain ⟨_, hcl, hat⟩ := World.cells?_some hcs
      match cs', hcl with
      | [c0, c1, c2, c3, c4], _ =>
        obtain ⟨x, fa, fc, ka, kc, rfl, rfl, rfl, rfl, rfl, h5, h6, h7⟩ := ty_of htr
        refine ⟨x, ⟨fa, fc, ka, kc, ?_, ?_, ?_, ?_, ?_, h5, h6⟩, h7⟩
        · have := hat (i := 0) (by omega); rw [Go.Deep.add_add] at this; simpa using this
        · have := hat (i := 1) (by omega); rw [Go.Deep.add_add] at this; simpa using this
        · have := hat (i := 2) (by omega); rw [Go.Deep.add_add] at this; simpa using this
        · have := hat (i := 3) (by omega); rw [Go.Deep.add_add] at this; simpa using this
        · have := hat (i := 4) (by omega); rw [Go.Deep.add_add] at this; simpa using this
    by_cases h0 : len = 0
    · subst h0
      exact ⟨[], ⟨some a, m, hv, Nat.zero_le _, .inl rfl⟩, by simp, by simp⟩
    · obtain ⟨x0, ⟨_, _, _, _, hx0, _⟩, _⟩ := el 0 (by omega)
      have hspot : a.spot = none := by simpa [Addr.add] using World.cell?_spot hx0
      have hlt : a.block < w.heap.size := by simpa [Addr.add] using World.block_lt_of_cell? w _ hx0
      obtain ⟨b, off, spot⟩ := a
      simp only at hspot hlt
      subst hspot
      have hex : ∀ i : Nat, ∃ x : Ty, i < len → TyAt w b (off + i * 5) x ∧ tyK x := by
        intro i
        by_cases h : i < len
        · obtain ⟨x, ⟨fa, fc, ka, kc, q0, q1, q2, q3, q4, q5, q6⟩, hx⟩ := el i h
          rw [add_lit19] at q0 q1 q2 q3 q4
          exact ⟨x, fun _ => ⟨⟨fa, fc, ka, kc, q0, by rw [Nat.add_assoc]; exact q1, by rw [Nat.add_assoc]; exact q2, by rw [Nat.add_assoc]; exact q3, by rw [Nat.add_assoc]; exact q4, q5, q6⟩, hx⟩⟩
        · exact ⟨x0, fun h' => absurd h' h⟩
      obtain ⟨f, hf⟩ := Classical.axiomOfChoice hex
      refine ⟨(List.range len).map f, ⟨some ⟨b, off, none⟩, m, by rw [hv]; simp, by simpa using hl, .inr ⟨b, off, rfl, hlt, ?_⟩⟩, by simp; omega, ?_⟩
      · intro j x hj
        rw [List.getElem?_map, Option.map_eq_some_iff] at hj
        obtain ⟨i, hi1, rfl⟩ := hj
        obtain ⟨hi2, rfl⟩ := List.getElem?_eq_some_iff.1 hi1
        simp only [List.getElem_range]
        exact (hf j (by simpa using hi2)).1
      · intro x hx
        obtain ⟨i, hi1, rfl⟩ := List.mem_map.1 hx
        exact (hf i (List.mem_range.1 hi1)).2
end Go.Proofs.YtckmciafonnohaaGreat
/- The names of a map of files, sorted: the library's contracts of slices.Sorted and maps.Keys, laid at this program's numbers; and the contract of names. -/
namespace Go.Proofs.YtckmciafonnohaaGreat
open Go.RowKit Go.Maps Go.Sort Go.Shelf FsPlain
set_option linter.unusedVariables false
set_option linter.unusedSimpArgs false
set_option maxRecDepth 20000
def keysLaid_ren : Go.Shelf.Ren := ⟨fun | 7 => 75 | 10 => 90 | n => n, fun | 23 => 53 | 26 => 9 | 3 => 58 | 28 => 102 | 0 => 0 | 27 => 101 | 33 => 57 | 4 => 4 | n => n, fun | n => n⟩
theorem keysLaid : Go.Proofs.SlLaysZ.n7 Tryz.prog keysLaid_ren := {
  mixed := by kernel_rfl
  f7 := ⟨Tryz.f75.name, by decide, Tryz.func75.trans (congrArg some (by kernel_rfl))⟩
  f10 := ⟨Tryz.f90.name, by decide, Tryz.func90.trans (congrArg some (by kernel_rfl))⟩
  t0 := Tryz.underlying0
  a0 := Tryz.isAgg0
  z0 := Tryz.sizeOf0
  v0 := Tryz.zeroValue0
  t4 := Tryz.underlying4
  a4 := Tryz.isAgg4
  z4 := Tryz.sizeOf4
  v4 := Tryz.zeroValue4
  t23 := Tryz.underlying53
  a23 := Tryz.isAgg53
  z23 := Tryz.sizeOf53
  v23 := Tryz.zeroValue53
  t26 := Tryz.underlying9
  a26 := Tryz.isAgg9
  z26 := Tryz.sizeOf9
  v26 := Tryz.zeroValue9
  t27 := Tryz.underlying101
  a27 := Tryz.isAgg101
  z27 := Tryz.sizeOf101
  v27 := Tryz.zeroValue101
  t28 := Tryz.underlying102
  a28 := Tryz.isAgg102
  z28 := Tryz.sizeOf102
  v28 := Tryz.zeroValue102
  t33 := Tryz.underlying57
  a33 := Tryz.isAgg57
  z33 := Tryz.sizeOf57
  v33 := Tryz.zeroValue57 }
def sortedLaid_ren : Go.Shelf.Ren := ⟨fun | 6 => 74 | 8 => 88 | 9 => 89 | 11 => 99 | 13 => 101 | 12 => 100 | 23 => 116 | 24 => 117 | 14 => 107 | 15 => 108 | 16 => 109 | 17 => 110 | 18 => 111 | 19 => 112 | 20 => 113 | 21 => 114 | 22 => 115 | 25 => 119 | 26 => 120 | 27 => 121 | 28 => 122 | 29 => 123 | 30 => 124 | 31 => 125 | n => n, fun | 26 => 9 | 28 => 102 | 24 => 86 | 0 => 0 | 3 => 3 | 37 => 110 | 48 => 83 | 50 => 141 | 4 => 4 | 40 => 133 | 39 => 132 | 45 => 98 | 5 => 5 | 9 => 9 | 51 => 143 | 55 => 147 | 57 => 149 | 58 => 150 | 33 => 57 | n => n, fun | n => n⟩
theorem sortedLaid : Go.Proofs.SlLaysZ.n6 Tryz.prog sortedLaid_ren := {
  mixed := by kernel_rfl
  f6 := ⟨Tryz.f74.name, by decide, Tryz.func74.trans (congrArg some (by kernel_rfl))⟩
  f8 := ⟨Tryz.f88.name, by decide, Tryz.func88.trans (congrArg some (by kernel_rfl))⟩
  f11 := ⟨Tryz.f99.name, by decide, Tryz.func99.trans (congrArg some (by kernel_rfl))⟩
  t0 := Tryz.underlying0
  a0 := Tryz.isAgg0
  z0 := Tryz.sizeOf0
  v0 := Tryz.zeroValue0
  t24 := Tryz.underlying86
  a24 := Tryz.isAgg86
  z24 := Tryz.sizeOf86
  v24 := Tryz.zeroValue86
  t26 := Tryz.underlying9
  a26 := Tryz.isAgg9
  z26 := Tryz.sizeOf9
  v26 := Tryz.zeroValue9
  t28 := Tryz.underlying102
  a28 := Tryz.isAgg102
  z28 := Tryz.sizeOf102
  v28 := Tryz.zeroValue102
  i26 := by kernel_rfl }
def sortLaid_ren : Go.Shelf.Ren := ⟨fun | 6 => 89 | 8 => 101 | 9 => 100 | 19 => 116 | 20 => 117 | 21 => 107 | 22 => 108 | 23 => 109 | 24 => 110 | 25 => 111 | 26 => 112 | 27 => 113 | 28 => 114 | 29 => 115 | 36 => 119 | 31 => 120 | 32 => 121 | 37 => 122 | 38 => 123 | 39 => 124 | 41 => 125 | n => n, fun | 27 => 86 | 29 => 9 | 3 => 3 | 32 => 110 | 26 => 86 | 0 => 0 | 44 => 83 | 46 => 141 | 4 => 4 | 36 => 133 | 35 => 132 | 41 => 98 | 5 => 5 | 9 => 9 | 53 => 143 | 57 => 147 | 63 => 149 | 64 => 150 | n => n, fun | n => n⟩
theorem sortLaid : Go.Proofs.SlLaysM.n6 Tryz.prog sortLaid_ren := {
  mixed := by kernel_rfl
  f6 := ⟨Tryz.f89.name, by decide, Tryz.func89.trans (congrArg some (by kernel_rfl))⟩
  f8 := Tryz.func101.trans (congrArg some (by kernel_rfl))
  f9 := ⟨Tryz.f100.name, by decide, Tryz.func100.trans (congrArg some (by kernel_rfl))⟩
  f19 := Tryz.func116.trans (congrArg some (by kernel_rfl))
  f20 := Tryz.func117.trans (congrArg some (by kernel_rfl))
  f21 := ⟨Tryz.f107.name, by decide, Tryz.func107.trans (congrArg some (by kernel_rfl))⟩
  f22 := ⟨Tryz.f108.name, by decide, Tryz.func108.trans (congrArg some (by kernel_rfl))⟩
  f23 := ⟨Tryz.f109.name, by decide, Tryz.func109.trans (congrArg some (by kernel_rfl))⟩
  f24 := ⟨Tryz.f110.name, by decide, Tryz.func110.trans (congrArg some (by kernel_rfl))⟩
  f25 := ⟨Tryz.f111.name, by decide, Tryz.func111.trans (congrArg some (by kernel_rfl))⟩
  f26 := ⟨Tryz.f112.name, by decide, Tryz.func112.trans (congrArg some (by kernel_rfl))⟩
  f27 := ⟨Tryz.f113.name, by decide, Tryz.func113.trans (congrArg some (by kernel_rfl))⟩
  f28 := ⟨Tryz.f114.name, by decide, Tryz.func114.trans (congrArg some (by kernel_rfl))⟩
  f29 := ⟨Tryz.f115.name, by decide, Tryz.func115.trans (congrArg some (by kernel_rfl))⟩
  f31 := Tryz.func120.trans (congrArg some (by kernel_rfl))
  f32 := Tryz.func121.trans (congrArg some (by kernel_rfl))
  f36 := ⟨Tryz.f119.name, by decide, Tryz.func119.trans (congrArg some (by kernel_rfl))⟩
  f37 := ⟨Tryz.f122.name, by decide, Tryz.func122.trans (congrArg some (by kernel_rfl))⟩
  f38 := ⟨Tryz.f123.name, by decide, Tryz.func123.trans (congrArg some (by kernel_rfl))⟩
  f39 := ⟨Tryz.f124.name, by decide, Tryz.func124.trans (congrArg some (by kernel_rfl))⟩
  f41 := ⟨Tryz.f125.name, by decide, Tryz.func125.trans (congrArg some (by kernel_rfl))⟩
  t0 := Tryz.underlying0
  a0 := Tryz.isAgg0
  z0 := Tryz.sizeOf0
  v0 := Tryz.zeroValue0
  t3 := Tryz.underlying3
  a3 := Tryz.isAgg3
  z3 := Tryz.sizeOf3
  v3 := Tryz.zeroValue3
  t4 := Tryz.underlying4
  a4 := Tryz.isAgg4
  z4 := Tryz.sizeOf4
  v4 := Tryz.zeroValue4
  t5 := Tryz.underlying5
  a5 := Tryz.isAgg5
  z5 := Tryz.sizeOf5
  v5 := Tryz.zeroValue5
  t9 := Tryz.underlying9
  a9 := Tryz.isAgg9
  z9 := Tryz.sizeOf9
  v9 := Tryz.zeroValue9
  t26 := Tryz.underlying86
  a26 := Tryz.isAgg86
  z26 := Tryz.sizeOf86
  v26 := Tryz.zeroValue86
  t27 := Tryz.underlying86
  a27 := Tryz.isAgg86
  z27 := Tryz.sizeOf86
  v27 := Tryz.zeroValue86
  t29 := Tryz.underlying9
  a29 := Tryz.isAgg9
  z29 := Tryz.sizeOf9
  v29 := Tryz.zeroValue9
  t32 := Tryz.underlying110
  a32 := Tryz.isAgg110
  z32 := Tryz.sizeOf110
  v32 := Tryz.zeroValue110
  t35 := Tryz.underlying132
  a35 := Tryz.isAgg132
  z35 := Tryz.sizeOf132
  v35 := Tryz.zeroValue132
  t36 := Tryz.underlying133
  a36 := Tryz.isAgg133
  z36 := Tryz.sizeOf133
  v36 := Tryz.zeroValue133
  t41 := Tryz.underlying98
  a41 := Tryz.isAgg98
  z41 := Tryz.sizeOf98
  v41 := Tryz.zeroValue98
  t44 := Tryz.underlying83
  a44 := Tryz.isAgg83
  z44 := Tryz.sizeOf83
  v44 := Tryz.zeroValue83
  t46 := Tryz.underlying141
  a46 := Tryz.isAgg141
  z46 := Tryz.sizeOf141
  v46 := Tryz.zeroValue141
  t53 := Tryz.underlying143
  a53 := Tryz.isAgg143
  z53 := Tryz.sizeOf143
  v53 := Tryz.zeroValue143
  t57 := Tryz.underlying147
  a57 := Tryz.isAgg147
  z57 := Tryz.sizeOf147
  v57 := Tryz.zeroValue147
  t63 := Tryz.underlying149
  a63 := Tryz.isAgg149
  z63 := Tryz.sizeOf149
  v63 := Tryz.zeroValue149
  t64 := Tryz.underlying150
  a64 := Tryz.isAgg150
  z64 := Tryz.sizeOf150
  v64 := Tryz.zeroValue150 }

theorem sorts_in (k : Nat) : AnyZ.SortsIn Tryz.prog sortedLaid_ren Fence.wide k :=
  ⟨fun blk off cap ss W hH hblk hsz => callsIn_wide.2 (AnyM.slices_Sort_string sortLaid blk off cap ss W hH hblk hsz),
   fun p cap W => callsIn_wide.2 (AnyM.slices_Sort_string_none sortLaid p cap W)⟩

theorem keys_in (mb : Option Nat) (W : World) : CallsIn Fence.wide 5 Tryz.prog 75 #[.map mb] W fun e w' => e = .returned (.func (.func 90) #[] #[.pointer (some ⟨W.heap.size, 0, none⟩)]) ∧ w' = W.alloc (.cells #[.map mb] 53) :=
  AnyZ.keys_in keysLaid Fence.wide 5 trivial rfl mb W

set_option maxRecDepth 20000 in
set_option maxHeartbeats 1000000 in
theorem sorted_in (b nn : Nat) (D0 : DataW Unit) (R : Value → Option (DataW Unit × List MemPlace)) (w : World) (hown : w.ownsMap Tryz.prog 9 R b nn D0) (hmax : Maps.size D0 ≤ maxLen) (hbytes : Maps.size D0 * 16 ≤ 140737488355328) :
    CallsIn Fence.wide 5 Tryz.prog 74 #[.func (.func 90) #[] #[.pointer (some ⟨w.heap.size, 0, none⟩)]] (w.alloc (.cells #[.map (some b)] 53)) fun e w' => ∃ (v : Value) (ss : List (List UInt8)), e = .returned v ∧ ss.Perm (strKeys D0) ∧
      w'.ownsRow (w.alloc (.cells #[.map (some b)] 53)).heap.size 9 1 v ss.length ((ss.mergeSort (fun x y => decide (x ≤ y))).map encStr) ∧ (v = .slice none 0 0 ↔ ss = []) ∧ Below (w.alloc (.cells #[.map (some b)] 53)).heap.size (w.alloc (.cells #[.map (some b)] 53)) w' := by
  have hbl := hown.lt
  have hseq : SeqGives Fence.wide 2 Tryz.prog 90 #[.pointer (some ⟨w.heap.size, 0, none⟩)] encStr (fun ss => ss.Perm (strKeys D0)) (Maps.size D0) (w.alloc (.cells #[.map (some b)] 53)) :=
    AnyZ.keys_gives (ρ := keysLaid_ren) { keysLaid with } Fence.wide _ trivial rfl (by omega) w.heap.size b nn D0 _ (by simp) (by simp) (by
      obtain ⟨es, clock, hb, Ft, hs, hD⟩ := hown
      exact ⟨es, clock, (Below.heap_alloc _ _ b hbl).trans hb, Ft, hs, hD⟩)
  exact AnyZ.sorted_in sortedLaid Fence.wide 5 trivial trivial trivial trivial rfl (by omega) (sorts_in _) (enters_of Tryz.func89 (by kernel_rfl) rfl) 90 #[.pointer (some ⟨w.heap.size, 0, none⟩)] trivial (enters_of Tryz.func90 (by kernel_rfl) rfl) _ _ hmax hbytes _ hseq

/-- The names of the files, in order, in a row of the call's own. -/
def Names (w : World) (l : List (List UInt8)) (e : Ending) (w' : World) : Prop :=
  ∃ v, e = .returned v ∧ w'.ownsRow w.heap.size 9 1 v l.length (l.map encStr) ∧ Gr w w'

theorem str_keys (L : List Pl) : strKeys (ents L) = L.map fun x => x.f.name := by
  unfold ents strKeys
  simp [Function.comp_def]
  intro a _; rfl

set_option maxRecDepth 20000 in
set_option maxHeartbeats 1000000 in
theorem names_c (p m : Nat) (s : St) (B : Nat → Prop) (L : List Pl) (w : World) (hs : s.ok) (h : DiskAt w p s B m L) :
    Calls Tryz.prog 48 #[.pointer (some ⟨p, 0, none⟩)] w (Names w ((L.map fun x => x.f.name).mergeSort (fun x y => decide (x ≤ y)))) := by
  have c1 : w.cell? ⟨p, 1, none⟩ = some (.map (some m)) := by rw [cells_at h.heap]; rfl
  have hLl : L.length = s.fs.length := by rw [← h.fs]; simp
  have hm200 := hs.m
  have CS := sorted_in m L.length (ents L) ptrElem w h.own (by rw [ents_size]; unfold maxLen; omega) (by rw [ents_size]; omega)
  have HS := Lib.hid (str_keys L)
  clear h hs hLl hm200
  refine (callsIn_wide (n := 6)).1 ?_
  have hfK : Fence.wide.fn 75 := trivial
  have hfS : Fence.wide.fn 74 := trivial
  refine callsIn_of_wp Tryz.func48 rfl trivial ?_ rfl
  simp only [Tryz.ntmps48, List.size_toArray, List.length_cons, List.length_nil, Nat.reduceAdd, Nat.reduceSub, Array.replicate_succ, Array.replicate_zero, List.push_toArray, List.append_toArray, List.nil_append, List.cons_append]
  gi_wp2_with (first
    | (gi_at_call 75; refine (keys_in _ _).mono ?_; rintro e w' ⟨rfl, rfl⟩)
    | (gi_at_call 74; refine CS.mono ?_; rintro e w' ⟨v, ss, rfl, hS, hrow, hnil, hb⟩))
  go_ret
  rw [HS.out] at hS
  have hm := mergeSort_of_perm hS
  have hlen : ss.length = (((L.map fun x => x.f.name).mergeSort (fun x y => decide (x ≤ y)))).length := by rw [List.length_mergeSort]; exact hS.length_eq
  refine ⟨v, rfl, ?_, ((Below.refl _ w).alloc (Nat.le_refl _) _).trans (hb.mono (by simp))⟩
  rw [← hlen, ← hm]
  exact ownsRow_base_a hrow (by simp)
end Go.Proofs.YtckmciafonnohaaGreat
