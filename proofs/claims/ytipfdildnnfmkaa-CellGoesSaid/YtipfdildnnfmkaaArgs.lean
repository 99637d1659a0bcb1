/- What a law's arguments are, by their types: numbers, strings, slices of these and of slices, structs. -/
import Derived.Test.YtipfdildnnfmkaaBase
import Derived.Deep.Slices
import Derived.Deep.Fields
import Derived.ChangeSame
import Derived.OpenShut
import Derived.ShutString
import Derived.ChangeOld
import Derived.Carry
namespace Go.Proofs.Ytipfdildnnfmkaa
open Go.RowKit Go.ChangeShapes Go.WideShapes Go.Deep
set_option linter.unusedVariables false
set_option linter.unusedSimpArgs false
set_option maxRecDepth 20000

/-- The cell c reads at type t. -/
def Rd (P : Program) (W : World) (t : TypeId) (c : Value) : Prop := ∃ (H : Type) (enc : TypeId × Value → H) (fuel : Nat) (y : DataW H × List MemPlace), DataW.trod enc P W 0 (fun _ => true) true fuel t [c] = some y
/-- A struct, each field of which is one cell. -/
def RdAgg (P : Program) (W : World) (t : TypeId) (v : Value) : Prop := ∃ (fs : Array Field) (cs : Array Value), P.underlying t = some (.struct fs) ∧ v = .agg cs ∧ cs.size = fs.size ∧ ∀ (j : Nat) (f : Field), fs[j]? = some f → ∃ c, cs[j]? = some c ∧ Rd P W f.type c

theorem rd_int {P : Program} {W : World} {t : TypeId} {k : IntKind} {c : Value} (ht : P.underlying t = some (.int k)) (h : Rd P W t c) : ∃ n, c = .int k n ∧ (Lit.int k n).wf = true := by
  obtain ⟨H, enc, fuel, y, h⟩ := h
  obtain ⟨n, h1, _, h2⟩ := DataW.trod_int ht h
  exact ⟨n, by simpa using h1, h2⟩
theorem rd_bool {P : Program} {W : World} {t : TypeId} {c : Value} (ht : P.underlying t = some .bool) (h : Rd P W t c) : ∃ b, c = .bool b := by
  obtain ⟨H, enc, fuel, y, h⟩ := h
  obtain ⟨n, h1, _⟩ := DataW.trod_bool ht h
  exact ⟨n, by simpa using h1⟩
theorem rd_string {P : Program} {W : World} {t : TypeId} {c : Value} (ht : P.underlying t = some .string) (h : Rd P W t c) : ∃ s : ByteArray, c = .string s ∧ s.size ≤ maxLen := by
  obtain ⟨H, enc, fuel, y, h⟩ := h
  obtain ⟨n, h1, _, h2⟩ := DataW.trod_string ht h
  exact ⟨n, by simpa using h1, h2⟩

theorem rd_cap {P : Program} {W : World} {t e : TypeId} {c : Value} (ht : P.underlying t = some (.slice e)) (h : Rd P W t c) : ∃ a n cap, c = .slice a n cap ∧ n ≤ cap := by
  obtain ⟨H, enc, fuel, y, h⟩ := h
  rcases open_slice ht h with ⟨h1, _⟩ | ⟨a, len, cap, m, n, D, Pl, h1, hb, hl, hm, hmm, _, hi⟩
  · exact ⟨none, 0, 0, by simpa using h1, Nat.le_refl _⟩
  · exact ⟨some a, len, cap, by simpa using h1, hl⟩

/-- The elements of a slice that came in, cell by cell. -/
def RowIn (W : World) (a : Option Addr) (l : List Value) : Prop :=
  l = [] ∨ ∃ b off, a = some ⟨b, off, none⟩ ∧ b < W.heap.size ∧ ∀ j x, l[j]? = some x → W.cell? ⟨b, off + j, none⟩ = some x

theorem rd_slice {P : Program} {W : World} {t e : TypeId} {c : Value} (ht : P.underlying t = some (.slice e)) (hc : P.cellsOf e = 1) (h : Rd P W t c) :
    ∃ a l cap, c = .slice a l.length cap ∧ l.length ≤ maxLen ∧ RowIn W a l ∧ ∀ x ∈ l, Rd P W e x := by
  obtain ⟨H, enc, fuel, y, h⟩ := h
  rcases open_slice ht h with ⟨h1, _⟩ | ⟨a, len, cap, m, n, D, Pl, h1, hb, hl, hm, hmm, _, hi⟩
  · exact ⟨none, [], 0, by simpa using h1, by simp, .inl rfl, by simp⟩
  · have hv : c = .slice (some a) len cap := by simpa using h1
    simp only [if_true] at hmm
    subst hmm
    have cell : ∀ i, i < len → ∃ x, W.cell? (a.add i) = some x ∧ Rd P W e x := by
      intro i hlt
      obtain ⟨cs', hcs, htr⟩ := hi i (by omega)
      rw [hc, Nat.mul_one] at hcs
      obtain ⟨_, hcl, hat⟩ := World.cells?_some hcs
      match cs', hcl with
      | [x], _ =>
        refine ⟨x, ?_, H, enc, n, _, htr⟩
        have := hat (i := 0) (by omega)
        simpa [Addr.add] using this
    by_cases h0 : len = 0
    · subst h0
      exact ⟨some a, [], _, hv, by simp, .inl rfl, by simp⟩
    · obtain ⟨x0, hx0, _⟩ := cell 0 (by omega)
      have hspot : a.spot = none := by simpa [Addr.add] using World.cell?_spot hx0
      have hlt : a.block < W.heap.size := by simpa [Addr.add] using World.block_lt_of_cell? W _ hx0
      obtain ⟨b, off, spot⟩ := a
      simp only at hspot hlt
      subst hspot
      have hex : ∀ i : Nat, ∃ x : Value, i < len → W.cell? ((⟨b, off, none⟩ : Addr).add i) = some x ∧ Rd P W e x := by
        intro i
        by_cases h : i < len
        · obtain ⟨x, hx⟩ := cell i h; exact ⟨x, fun _ => hx⟩
        · exact ⟨undef, fun h' => absurd h' h⟩
      obtain ⟨f, hf⟩ := Classical.axiomOfChoice hex
      refine ⟨some ⟨b, off, none⟩, (List.range len).map f, m, ?_, ?_, .inr ⟨b, off, rfl, hlt, ?_⟩, ?_⟩
      · rw [hv]; simp
      · simp; omega
      · intro j x hj
        rw [List.getElem?_map, Option.map_eq_some_iff] at hj
        obtain ⟨i, hi1, rfl⟩ := hj
        obtain ⟨hi2, rfl⟩ := List.getElem?_eq_some_iff.1 hi1
        simp only [List.getElem_range]
        have := (hf j (by simpa using hi2)).1
        rwa [Addr.add_lit] at this
      · intro x hx
        obtain ⟨i, hi1, rfl⟩ := List.mem_map.1 hx
        exact (hf i (List.mem_range.1 hi1)).2

theorem list_of {α : Type} {mk : α → Value} {ok : α → Prop} : ∀ (l : List Value), (∀ x ∈ l, ∃ y, x = mk y ∧ ok y) → ∃ m : List α, l = m.map mk ∧ ∀ y ∈ m, ok y
  | [], _ => ⟨[], rfl, by simp⟩
  | x :: r, h => by
    obtain ⟨y, rfl, hy⟩ := h x (by simp)
    obtain ⟨m, rfl, hm⟩ := list_of r fun z hz => h z (by simp [hz])
    exact ⟨y :: m, rfl, fun z hz => by rcases List.mem_cons.1 hz with rfl | hz; exact hy; exact hm z hz⟩

theorem rd_ints {P : Program} {W : World} {t e : TypeId} {k : IntKind} {c : Value} (ht : P.underlying t = some (.slice e)) (he : P.underlying e = some (.int k)) (hc : P.cellsOf e = 1) (h : Rd P W t c) :
    ∃ a cap, ∃ l : List Int, c = .slice a l.length cap ∧ l.length ≤ maxLen ∧ RowIn W a (l.map (.int k)) ∧ ∀ n ∈ l, (Lit.int k n).wf = true := by
  obtain ⟨a, l, cap, rfl, h1, h2, h3⟩ := rd_slice ht hc h
  obtain ⟨m, rfl, hm⟩ := list_of (mk := Value.int k) (ok := fun n => (Lit.int k n).wf = true) l fun x hx => rd_int he (h3 x hx)
  exact ⟨a, cap, m, by simp, by simpa using h1, h2, hm⟩
theorem rd_strings {P : Program} {W : World} {t e : TypeId} {c : Value} (ht : P.underlying t = some (.slice e)) (he : P.underlying e = some .string) (hc : P.cellsOf e = 1) (h : Rd P W t c) :
    ∃ a cap, ∃ l : List ByteArray, c = .slice a l.length cap ∧ l.length ≤ maxLen ∧ RowIn W a (l.map .string) ∧ ∀ s ∈ l, s.size ≤ maxLen := by
  obtain ⟨a, l, cap, rfl, h1, h2, h3⟩ := rd_slice ht hc h
  obtain ⟨m, rfl, hm⟩ := list_of (mk := Value.string) (ok := fun s => s.size ≤ maxLen) l fun x hx => rd_string he (h3 x hx)
  exact ⟨a, cap, m, by simp, by simpa using h1, h2, hm⟩
theorem rd_bools {P : Program} {W : World} {t e : TypeId} {c : Value} (ht : P.underlying t = some (.slice e)) (he : P.underlying e = some .bool) (hc : P.cellsOf e = 1) (h : Rd P W t c) :
    ∃ a cap, ∃ l : List Bool, c = .slice a l.length cap ∧ l.length ≤ maxLen ∧ RowIn W a (l.map .bool) := by
  obtain ⟨a, l, cap, rfl, h1, h2, h3⟩ := rd_slice ht hc h
  obtain ⟨m, rfl, _⟩ := list_of (mk := Value.bool) (ok := fun _ => True) l fun x hx => by obtain ⟨b, rfl⟩ := rd_bool he (h3 x hx); exact ⟨b, rfl, trivial⟩
  exact ⟨a, cap, m, by simp, by simpa using h1, h2⟩

theorem rd_agg {H : Type} {enc : TypeId × Value → H} {P : Program} {W : World} {t : TypeId} {fs : Array Field} {v : Value} {d : DataW H} {p : List MemPlace} {r : Reach} {b0 : Nat} (hs : P.underlying t = some (.struct fs)) (hone : oneCellFields P fs = true) (hC : P.cellsOf t = fs.size)
    (hv : Value.okWide P W r b0 t v) (h : DataW.Trod enc P W 0 (fun _ => true) true t v d p) : RdAgg P W t v := by
  obtain ⟨cs, rfl, hsz⟩ := okWide_struct hs hv
  obtain ⟨fuel, hf⟩ := h
  obtain ⟨xs, n, _, hx, _, hlen, hg⟩ := DataW.trod_struct hs hf
  refine ⟨fs, cs, hs, rfl, hsz.trans hC, fun j f hj => ?_⟩
  obtain ⟨ho, hk⟩ := hone_of hone j f hj
  have hjl : j < fs.size := (Array.getElem?_eq_some_iff.1 hj).1
  have hjc : j < cs.size := by rw [hsz, hC]; exact hjl
  refine ⟨cs[j], Array.getElem?_eq_getElem hjc, H, enc, n, xs[j]'(by omega), ?_⟩
  have h1 := hg j f hj
  rw [ho, hk] at h1
  have e1 : ((Value.agg cs).cells.toList.drop j).take 1 = [cs[j]] := by
    show (cs.toList.drop j).take 1 = _
    rw [List.drop_eq_getElem_cons (by simpa using hjc)]
    rfl
  rw [e1] at h1
  rw [h1, List.getElem?_eq_getElem (by omega)]
/-- A struct, whatever its fields are: its cells read at its type. -/
def RdS (P : Program) (W : World) (t : TypeId) (v : Value) : Prop := ∃ (cs : Array Value) (H : Type) (enc : TypeId × Value → H) (fuel : Nat) (y : DataW H × List MemPlace), v = .agg cs ∧ cs.size = P.cellsOf t ∧ DataW.trod enc P W 0 (fun _ => true) true fuel t cs.toList = some y
theorem rd_s {H : Type} {enc : TypeId × Value → H} {P : Program} {W : World} {t : TypeId} {fs : Array Field} {v : Value} {d : DataW H} {p : List MemPlace} {r : Reach} {b0 : Nat} (hs : P.underlying t = some (.struct fs))
    (hv : Value.okWide P W r b0 t v) (h : DataW.Trod enc P W 0 (fun _ => true) true t v d p) : RdS P W t v := by
  obtain ⟨cs, rfl, hsz⟩ := okWide_struct hs hv
  obtain ⟨fuel, hf⟩ := h
  exact ⟨cs, H, enc, fuel, _, rfl, hsz, by simpa [Value.cells] using hf⟩
end Go.Proofs.Ytipfdildnnfmkaa
