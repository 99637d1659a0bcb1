/- In one text: MnRef1, MnRef2, FsLetter. -/
import Derived.Test.YtgopodgjnblgkaaDoorP22
import Derived.Test.YtgopodgjnblgkaaDoorP02
import Derived.WalkSpells
import Derived.Deep.QuietTactic
import Derived.BigQuiet
/- The document's answers of layer 19: Few, Find. -/
namespace Go.Proofs.YtgopodgjnblgkaaDoor
open Go.RowKit FsPlain MnPlain
set_option linter.unusedVariables false
set_option linter.unusedSimpArgs false
set_option maxRecDepth 20000
namespace MnPlain
def fewB (l : List Fl) : Bool := (l.take 20).all (fun f => decide (f.name.size ≤ 40)) && decide (l.length ≤ 20)
end MnPlain
/-- A file of a slice, and where. -/
theorem fl_get {w : World} {a : Option Addr} {n c : Nat} {l : List Fl} (h : LiesFl w (.slice a n c) l) {i : Nat} (hi : i < l.length) : n = l.length ∧ n ≤ c ∧ ∃ b o, a = some ⟨b, o, none⟩ ∧ b < w.heap.size ∧ FlAt w b (o + i * 4) l[i] := by
  obtain ⟨a', c', e, hc, h⟩ := h
  simp only [Value.slice.injEq] at e
  obtain ⟨rfl, rfl, rfl⟩ := e
  rcases h with rfl | ⟨b, o, rfl, h1, h2⟩
  · simp at hi
  · exact ⟨rfl, hc, b, o, rfl, h1, h2 i _ (List.getElem?_eq_getElem hi)⟩
end Go.Proofs.YtgopodgjnblgkaaDoor
/- The document's answers of layer 19: Find. -/
namespace Go.Proofs.YtgopodgjnblgkaaDoor
open Go.RowKit FsPlain MnPlain
set_option linter.unusedVariables false
set_option linter.unusedSimpArgs false
set_option maxRecDepth 20000
def flV (f : Fl) : Value := .agg #[.string f.name, .int .i64 f.size, .int .i64 f.count, .int .u32 f.sum]
def flZ : Fl := ⟨⟨#[]⟩, 0, 0, 0⟩
theorem fl_results {fn : Func} {p u : Tmp} (hfn : fn.results = #[.cell p 43, .tmp u]) {tmps : Array Value} {o : Nat} {f : Fl} {v : Value} {w : World} (hp : tmps.getD p undef = .pointer (some ⟨o, 0, none⟩)) (hu : tmps.getD u undef = v) (c0 : w.cell? ⟨o, 0, none⟩ = some (.string f.name)) (c1 : w.cell? ⟨o, 1, none⟩ = some (.int .i64 f.size)) (c2 : w.cell? ⟨o, 2, none⟩ = some (.int .i64 f.count)) (c3 : w.cell? ⟨o, 3, none⟩ = some (.int .u32 f.sum)) :
    (results fn tmps).run Tryd.prog w = .ok (.tuple #[flV f, v]) w := by
  rw [results_cell_tmp hfn, hp, hu]
  simp [go_sem, c0, c1, c2, c3, flV]
end Go.Proofs.YtgopodgjnblgkaaDoor
/- The contract of letter: is it a letter of a name? -/
namespace Go.Proofs.YtgopodgjnblgkaaDoor
open Go.RowKit FsPlain
set_option linter.unusedVariables false
set_option linter.unusedSimpArgs false
set_option maxRecDepth 20000

/-- A letter of a name. -/
theorem letter_c (c : UInt8) (w : World) : Calls Tryd.prog 26 #[.int .u8 c.toNat] w fun e w' => e = .returned (.bool (letterB c)) ∧ w = w' := by
  have hb : c.toNat < 256 := c.toNat_lt
  obtain ⟨n, hn⟩ : ∃ n, n = letterB c := ⟨_, rfl⟩
  have hn' := hn
  unfold letterB at hn'
  rw [← hn]
  have HN := Lib.hid hn
  have HN' := Lib.hid hn'
  clear hn hn'
  by_cases h1 : 97 ≤ (c.toNat : Int) <;> by_cases h2 : (c.toNat : Int) ≤ 122 <;> by_cases h3 : 48 ≤ (c.toNat : Int) <;> by_cases h4 : (c.toNat : Int) ≤ 57 <;> by_cases h5 : (c.toNat : Int) = 46
  all_goals first
    | (exfalso; omega)
    | (have t5 : ((c.toNat : Int) == 46) = true := by simp [h5]
       go_enter Tryd.func26, Tryd.ntmps26
       go_wp2_with fail
       go_ret
       exact ⟨by rw [HN'.out]; simp [*], rfl⟩)
    | (have t5 : ((c.toNat : Int) == 46) = false := by simp [h5]
       go_enter Tryd.func26, Tryd.ntmps26
       go_wp2_with fail
       go_ret
       exact ⟨by rw [HN'.out]; simp [*], rfl⟩)
end Go.Proofs.YtgopodgjnblgkaaDoor
