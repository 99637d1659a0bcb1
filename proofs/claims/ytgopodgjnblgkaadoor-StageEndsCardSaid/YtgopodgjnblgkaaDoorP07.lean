/- In one text: StPlain. -/
import Derived.Test.YtgopodgjnblgkaaDoorP03
import Derived.Test.YtgopodgjnblgkaaDoorP06
/- Plain facts of stage: what comes next, the files of what is done; from nothing on Done comes. -/
namespace Go.Proofs.YtgopodgjnblgkaaDoor
open Go.RowKit FsPlain MnPlain RnPlain
set_option linter.unusedVariables false
set_option linter.unusedSimpArgs false
set_option maxRecDepth 20000
namespace StPlain
/-- May it be done? -/
def rightP (s p r : Int) : Bool := decide ((1 ≤ r ∧ r ≤ 64) ∧ (((s = 0 ∨ s = 1 ∨ s = 2 ∨ s = 3 ∨ s = 6 ∨ s = 7) ∧ p = 0) ∨ (s = 4 ∧ 1 ≤ p ∧ p < r) ∨ (s = 5 ∧ 1 ≤ p ∧ p ≤ r)))
/-- What comes next, and whether there is anything. -/
def nextP (s p r : Int) (stop : Bool) : Int × Int × Bool :=
  if rightP s p r = false ∨ s = 7 then (0, 0, false)
  else if s = 3 ∨ s = 4 then (if stop = true ∨ r ≤ p + 1 then (5, p + 1, true) else (4, p + 1, true))
  else (s + 1, 0, true)
def gnB (p : Int) : ByteArray := if p < 0 then ⟨#[]⟩ else bs ([103, 114, 97, 112, 104, 46] ++ digB p.toNat)
def pairsO : Fl := ⟨⟨#[112, 97, 105, 114, 115, 46, 111, 117, 116]⟩, 8, 0, 0⟩
def filesP (s p : Int) : List Fl :=
  if p < 0 ∨ 1000 < p then []
  else if s = 1 then [⟨⟨#[99, 101, 108, 108, 115]⟩, 12, 0, 0⟩]
  else if s = 2 then [pairsO]
  else if s = 3 then [pairsO, ⟨gnB 0, 17, 0, 0⟩]
  else if s = 4 ∨ s = 5 then [pairsO, ⟨gnB p, 17, 0, 0⟩]
  else if s = 6 then [pairsO, ⟨⟨#[103, 114, 97, 112, 104, 46, 111, 117, 116]⟩, 17, 0, 0⟩]
  else if s = 7 then [⟨⟨#[112, 97, 105, 114, 115]⟩, 8, 0, 0⟩, ⟨⟨#[103, 114, 97, 112, 104]⟩, 17, 0, 0⟩]
  else []
/-- Names and sizes are one. -/
def nsEq : List Fl → List Fl → Bool
  | [], [] => true
  | x :: a, y :: b => decide (x.name = y.name ∧ x.size = y.size) && nsEq a b
  | _, _ => false
def fitP (m : Mn) (r : Int) : Bool := mnB m && (rightP m.stage m.pass r && (decide (m.stage ≠ 0) && nsEq m.files (filesP m.stage m.pass)))
theorem nsEq_self : ∀ l : List Fl, nsEq l l = true
  | [] => rfl
  | x :: l => by simp [nsEq, nsEq_self l]
theorem rightP_iff {s p r : Int} : rightP s p r = true ↔ ((1 ≤ r ∧ r ≤ 64) ∧ (((s = 0 ∨ s = 1 ∨ s = 2 ∨ s = 3 ∨ s = 6 ∨ s = 7) ∧ p = 0) ∨ (s = 4 ∧ 1 ≤ p ∧ p < r) ∨ (s = 5 ∧ 1 ≤ p ∧ p ≤ r))) := decide_eq_true_iff
/-- Where a step stands on the way: how many steps it is behind nothing. -/
def AtP (s p r : Int) (i : Int) : Prop := rightP s p r = true ∧ s ≠ 7 ∧ ((s ≤ 3 ∧ i = s) ∨ ((s = 4 ∨ s = 5) ∧ i = 3 + p) ∨ (s = 6 ∧ i ≤ r + 4))
theorem at_start {r : Int} (h1 : 1 ≤ r) (h2 : r ≤ 64) : AtP 0 0 r 0 := ⟨rightP_iff.2 ⟨⟨h1, h2⟩, .inl ⟨.inl rfl, rfl⟩⟩, by decide, .inl ⟨by decide, rfl⟩⟩
theorem at_few {s p r i : Int} (h : AtP s p r i) : i < r + 5 := by
  obtain ⟨h1, h7, h⟩ := h
  have h1 := rightP_iff.1 h1
  omega
/-- A step further: it is right, later, and either Done, or on the way. -/
theorem at_next {s p r i : Int} (stop : Bool) (h : AtP s p r i) {t q : Int} {ok : Bool} (e : nextP s p r stop = (t, q, ok)) :
    ok = true ∧ rightP t q r = true ∧ ¬ t < s ∧ ¬ (t = s ∧ q ≤ p) ∧ t ≠ 0 ∧ (t = 7 ∨ AtP t q r (i + 1)) := by
  obtain ⟨h1, h7, h⟩ := h
  have k := rightP_iff.1 h1
  unfold nextP at e
  rw [if_neg (by rintro (h | h); rw [h1] at h; cases h; exact h7 h)] at e
  have mk : ∀ {t q : Int}, ((1 ≤ r ∧ r ≤ 64) ∧ (((t = 0 ∨ t = 1 ∨ t = 2 ∨ t = 3 ∨ t = 6 ∨ t = 7) ∧ q = 0) ∨ (t = 4 ∧ 1 ≤ q ∧ q < r) ∨ (t = 5 ∧ 1 ≤ q ∧ q ≤ r))) → rightP t q r = true := fun h => rightP_iff.2 h
  by_cases h34 : s = 3 ∨ s = 4
  · rw [if_pos h34] at e
    by_cases hs : stop = true ∨ r ≤ p + 1
    · rw [if_pos hs] at e
      simp only [Prod.mk.injEq] at e
      obtain ⟨rfl, rfl, rfl⟩ := e
      refine ⟨rfl, mk (by omega), by omega, by omega, by omega, .inr ⟨mk (by omega), by omega, ?_⟩⟩
      omega
    · rw [if_neg hs] at e
      have hr : ¬ r ≤ p + 1 := fun h => hs (.inr h)
      simp only [Prod.mk.injEq] at e
      obtain ⟨rfl, rfl, rfl⟩ := e
      refine ⟨rfl, mk (by omega), by omega, by omega, by omega, .inr ⟨mk (by omega), by omega, ?_⟩⟩
      omega
  · rw [if_neg h34] at e
    simp only [Prod.mk.injEq] at e
    obtain ⟨rfl, rfl, rfl⟩ := e
    refine ⟨rfl, mk (by omega), by omega, by omega, by omega, ?_⟩
    by_cases h6 : s = 6
    · exact .inl (by omega)
    · refine .inr ⟨mk (by omega), by omega, ?_⟩
      omega
/-- Of Done nothing comes. -/
theorem next_done {p r : Int} (stop : Bool) : nextP 7 p r stop = (0, 0, false) := if_pos (.inr rfl)
theorem gn_name {p : Nat} (h : p < 10000) : rightB (gnB (p : Int)).data.toList = true := by
  unfold gnB
  rw [if_neg (by omega), Int.toNat_natCast]
  obtain ⟨h1, h2⟩ := dig_few p h
  have hd := dig_right (p + 1) p (by omega)
  unfold rightB
  have e : (bs ([103, 114, 97, 112, 104, 46] ++ digB p)).data.toList = [103, 114, 97, 112, 104, 46] ++ digB p := by simp [bs]
  rw [e, List.all_append, hd, List.length_append]
  have : decide (1 ≤ ([103, 114, 97, 112, 104, 46] : List UInt8).length + (digB p).length ∧ ([103, 114, 97, 112, 104, 46] : List UInt8).length + (digB p).length ≤ 24) = true := decide_eq_true (by simp; omega)
  rw [this]
  decide
theorem gn_ne {p : Nat} : gnB (p : Int) ≠ pairsO.name := by
  intro h
  have := congrArg (fun s : ByteArray => s.data.toList[0]?) h
  unfold gnB at this
  rw [if_neg (by omega)] at this
  simp [bs, pairsO] at this
theorem new_one {f : Fl} (h : flB f = true) : newB [] [f] = true := by simp [newB, h]
theorem new_two {f g : Fl} (h : flB f = true) (k : flB g = true) (n : f.name ≠ g.name) : newB [] [f, g] = true := by simp [newB, h, k, n]
theorem gn_flB {p : Nat} (h : p < 10000) : flB ⟨gnB (p : Int), 17, 0, 0⟩ = true := by
  unfold flB
  rw [gn_name h]
  show (true && decide (((1 : Int) ≤ 17 ∧ (17 : Int) ≤ 64) ∧ (0 : Int) ≤ 0 ∧ (0 : Int) ≤ 4611686018427387904)) = true
  decide
/-- The manifest of what is done fits. -/
theorem fit_files {t q r : Int} (h : rightP t q r = true) (h0 : t ≠ 0) : fitP ⟨t, q, filesP t q⟩ r = true := by
  have k := rightP_iff.1 h
  obtain ⟨n, rfl⟩ : ∃ n : Nat, q = (n : Int) := ⟨q.toNat, by omega⟩
  have hn : n ≤ 64 := by omega
  have hne : ∀ m : Nat, pairsO.name ≠ gnB (m : Int) := fun m e => gn_ne e.symm
  have hf : newB [] (filesP t n) = true ∧ (filesP t n).length ≤ 16 := by
    unfold filesP
    rw [if_neg (by omega)]
    by_cases h1 : t = 1
    · rw [if_pos h1]; exact ⟨new_one (by decide), by decide⟩
    rw [if_neg h1]
    by_cases h2 : t = 2
    · rw [if_pos h2]; exact ⟨new_one (by decide), by decide⟩
    rw [if_neg h2]
    by_cases h3 : t = 3
    · rw [if_pos h3]; exact ⟨new_two (by decide) (gn_flB (p := 0) (by omega)) (hne 0), by simp⟩
    rw [if_neg h3]
    by_cases h4 : t = 4 ∨ t = 5
    · rw [if_pos h4]; exact ⟨new_two (by decide) (gn_flB (by omega)) (hne n), by simp⟩
    rw [if_neg h4]
    by_cases h6 : t = 6
    · rw [if_pos h6]; exact ⟨new_two (by decide) (by decide) (by decide), by decide⟩
    rw [if_neg h6]
    by_cases h7 : t = 7
    · rw [if_pos h7]; exact ⟨new_two (by decide) (by decide) (by decide), by decide⟩
    rw [if_neg h7]
    exact ⟨rfl, by decide⟩
  unfold fitP mnB
  rw [h, hf.1, nsEq_self, decide_eq_true h0, decide_eq_true (show ((1 ≤ t ∧ t ≤ 7) ∧ (0 ≤ (n : Int) ∧ (n : Int) ≤ 1000) ∧ (filesP t n).length ≤ 16) from ⟨by omega, by omega, hf.2⟩)]
  rfl
theorem gn_size {p : Int} (h : p ≤ 1000) : (gnB p).size ≤ 24 := by
  by_cases h0 : p < 0
  · unfold gnB; rw [if_pos h0]; decide
  · obtain ⟨n, rfl⟩ : ∃ n : Nat, p = (n : Int) := ⟨p.toNat, by omega⟩
    have := gn_name (p := n) (by omega)
    unfold rightB at this
    simp only [Bool.and_eq_true, decide_eq_true_eq] at this
    exact this.2.2
theorem files_K (t q : Int) : ∀ f ∈ filesP t q, f.name.size ≤ 24 ∧ 1 ≤ f.size ∧ f.size ≤ 64 ∧ f.count = 0 ∧ f.sum = 0 := by
  intro f hf
  unfold filesP at hf
  split at hf
  · cases hf
  · next hq =>
    have g0 := gn_size (p := 0) (by omega)
    have gq := gn_size (p := q) (by omega)
    (repeat' split at hf) <;> simp only [List.mem_cons, List.not_mem_nil, or_false] at hf
    · subst hf; decide
    · subst hf; decide
    · rcases hf with rfl | rfl
      · decide
      · exact ⟨g0, (by show (1 : Int) ≤ 17; decide), (by show (17 : Int) ≤ 64; decide), rfl, rfl⟩
    · rcases hf with rfl | rfl
      · decide
      · exact ⟨gq, (by show (1 : Int) ≤ 17; decide), (by show (17 : Int) ≤ 64; decide), rfl, rfl⟩
    · rcases hf with rfl | rfl <;> decide
    · rcases hf with rfl | rfl <;> decide
theorem files_few (t q : Int) : (filesP t q).length ≤ 2 := by
  unfold filesP
  (repeat' split) <;> simp
end StPlain
end Go.Proofs.YtgopodgjnblgkaaDoor
