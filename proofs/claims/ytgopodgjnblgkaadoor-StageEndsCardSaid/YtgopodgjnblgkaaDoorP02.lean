/- In one text: FsPlain. -/
import Derived.Test.YtgopodgjnblgkaaDoorP00
import Derived.WalkKit
/- Plain facts on a disk of files, without the model: what a disk is, and what each call makes of it. -/
namespace Go.Proofs.YtgopodgjnblgkaaDoor
set_option linter.unusedVariables false
namespace FsPlain

/-- A file: its name, its bytes, how many of them do not wait. -/
structure F where
  name : List UInt8
  data : List UInt8
  kept : Nat

/-- A disk, its files in the order of their names. -/
structure St where
  room : Int
  calls : Int
  ahead : Int
  down : Bool
  fs : List F

def letterB (c : UInt8) : Bool := decide ((97 ≤ (c.toNat : Int) ∧ (c.toNat : Int) ≤ 122) ∨ (48 ≤ (c.toNat : Int) ∧ (c.toNat : Int) ≤ 57) ∨ (c.toNat : Int) = 46)
def rightB (l : List UInt8) : Bool := l.all letterB && decide (1 ≤ l.length ∧ l.length ≤ 24)

/-- A call is noted. -/
def St.call (s : St) : St := { s with calls := s.calls + 1, down := s.down || decide (s.ahead = 0), ahead := max (s.ahead - 1) (-1) }
def St.code (s : St) : Int := if s.down = true then 5 else 0
def St.get (s : St) (n : List UInt8) : Option F := s.fs.find? fun f => f.name == n
def used (l : List F) : Nat := (l.map fun f => f.data.length).sum
def St.upd (s : St) (n : List UInt8) (g : F → F) : St := { s with fs := s.fs.map fun f => if f.name = n then g f else f }
def fall (f : F) (k : Int) : F := { f with kept := f.kept + min (max k 0).toNat (f.data.length - f.kept), data := f.data.take (f.kept + min (max k 0).toNat (f.data.length - f.kept)) }
/-- What holds of each disk on the way. -/
structure St.ok (s : St) : Prop where
  r0 : 0 ≤ s.room
  r1 : s.room ≤ 16777216
  c0 : 0 ≤ s.calls
  a0 : -1 ≤ s.ahead
  a1 : s.ahead ≤ 9223372036854775807
  u : (used s.fs : Int) ≤ s.room
  k : ∀ f ∈ s.fs, f.kept ≤ f.data.length
  n : ∀ f ∈ s.fs, f.name.length ≤ 24
  m : s.fs.length ≤ 200
  d : s.fs.Pairwise fun x y => x.name ≠ y.name

theorem ok_call {s : St} (h : s.ok) : s.call.ok := by
  refine ⟨h.r0, h.r1, ?_, ?_, ?_, h.u, h.k, h.n, h.m, h.d⟩
  · have := h.c0; show 0 ≤ s.calls + 1; omega
  · show -1 ≤ max (s.ahead - 1) (-1); omega
  · have := h.a1; show max (s.ahead - 1) (-1) ≤ _; omega

theorem used_le {l : List F} {f : F} (h : f ∈ l) : f.data.length ≤ used l := by
  unfold used
  induction l with
  | nil => cases h
  | cons a r ih =>
    simp only [List.map_cons, List.sum_cons]
    rcases List.mem_cons.1 h with rfl | h
    · omega
    · have := ih h; omega

theorem find_split {α : Type} {p : α → Bool} {l : List α} {x : α} (h : l.find? p = some x) : ∃ a c, l = a ++ x :: c ∧ p x = true ∧ ∀ y ∈ a, p y = false := by
  obtain ⟨h1, a, c, rfl, h2⟩ := List.find?_eq_some_iff_append.1 h
  exact ⟨a, c, rfl, h1, fun y hy => by simpa using h2 y hy⟩

theorem upd_list {n : List UInt8} {g : F → F} : ∀ {A C : List F} {f : F}, f.name = n → (∀ y ∈ A, y.name ≠ n) → (∀ y ∈ C, y.name ≠ n) →
    (A ++ f :: C).map (fun f => if f.name = n then g f else f) = A ++ g f :: C := by
  intro A C f hf hA hC
  rw [List.map_append, List.map_cons, if_pos hf]
  congr 1
  · rw [List.map_congr_left (g := id) (fun y hy => by rw [if_neg (hA y hy)]; rfl)]; simp
  · congr 1
    rw [List.map_congr_left (g := id) (fun y hy => by rw [if_neg (hC y hy)]; rfl)]; simp

/-- A file that is asked for, and its place. -/
theorem get_split {s : St} (h : s.ok) {n : List UInt8} {f : F} (hf : s.get n = some f) : ∃ A C, s.fs = A ++ f :: C ∧ f.name = n ∧ (∀ y ∈ A, y.name ≠ n) ∧ (∀ y ∈ C, y.name ≠ n) ∧ ∀ g, (s.upd n g).fs = A ++ g f :: C := by
  obtain ⟨A, C, e, h1, h2⟩ := find_split hf
  have hn : f.name = n := by simpa using h1
  have hA : ∀ y ∈ A, y.name ≠ n := fun y hy => by simpa using h2 y hy
  have hC : ∀ y ∈ C, y.name ≠ n := by
    have hp := h.d
    rw [e, List.pairwise_append] at hp
    have := (List.pairwise_cons.1 hp.2.1).1
    intro y hy e2
    exact this y hy (by rw [hn, e2])
  refine ⟨A, C, e, hn, hA, hC, fun g => ?_⟩
  show s.fs.map _ = _
  rw [e]
  exact upd_list hn hA hC

theorem get_mem {s : St} {n : List UInt8} {f : F} (hf : s.get n = some f) : f ∈ s.fs := List.mem_of_find?_eq_some hf

theorem used_split (A C : List F) (f g : F) : used (A ++ g :: C) + f.data.length = used (A ++ f :: C) + g.data.length := by
  unfold used
  simp only [List.map_append, List.map_cons, List.sum_append, List.sum_cons]
  omega

theorem ok_upd {s : St} (h : s.ok) {n : List UInt8} {g : F → F} {f : F} (hf : s.get n = some f) (hn : (g f).name = f.name) (hk : (g f).kept ≤ (g f).data.length) (hu : (used s.fs : Int) + (g f).data.length ≤ s.room + f.data.length) : (s.upd n g).ok := by
  obtain ⟨A, C, e, h1, hA, hC, hg⟩ := get_split h hf
  have hs := used_split A C f (g f)
  have hfu := used_le (get_mem hf)
  refine ⟨h.r0, h.r1, h.c0, h.a0, h.a1, ?_, ?_, ?_, ?_, ?_⟩
  · rw [hg g]; rw [e] at hu hfu; show ((used (A ++ g f :: C) : Nat) : Int) ≤ s.room; omega
  · intro y hy
    rw [hg g] at hy
    rcases List.mem_append.1 hy with hy | hy
    · exact h.k y (by rw [e]; simp [hy])
    · rcases List.mem_cons.1 hy with rfl | hy
      · exact hk
      · exact h.k y (by rw [e]; simp [hy])
  · intro y hy
    rw [hg g] at hy
    rcases List.mem_append.1 hy with hy | hy
    · exact h.n y (by rw [e]; simp [hy])
    · rcases List.mem_cons.1 hy with rfl | hy
      · rw [hn]; exact h.n f (get_mem hf)
      · exact h.n y (by rw [e]; simp [hy])
  · rw [hg g]; have := h.m; rw [e] at this; simpa using this
  · rw [hg g]
    have hp := h.d
    rw [e] at hp
    rw [List.pairwise_append, List.pairwise_cons] at hp ⊢
    refine ⟨hp.1, ⟨fun y hy => by rw [hn]; exact hp.2.1.1 y hy, hp.2.1.2⟩, fun a ha b hb => ?_⟩
    rcases List.mem_cons.1 hb with rfl | hb
    · rw [hn]; exact hp.2.2 a ha f (by simp)
    · exact hp.2.2 a ha b (by simp [hb])

/-! What the calls that ask for a file answer. -/
def sizeR (s : St) (n : List UInt8) : Int × Int := if s.call.down = true then (0, 5) else match s.get n with | none => (0, 2) | some f => (f.data.length, 0)
def syncR (s : St) (n : List UInt8) : St × Int := if s.call.down = true then (s.call, 5) else match s.get n with | none => (s.call, 2) | some f => (s.call.upd n (fun f => { f with kept := f.data.length }), 0)
def readR (s : St) (n : List UInt8) (i k : Nat) : List UInt8 × Int := if s.call.down = true then ([], 5) else match s.get n with | none => ([], 2) | some f => if f.data.length < i + k then ([], 10) else ((f.data.drop i).take k, 0)
def appendR (s : St) (n t : List UInt8) : St × Int := if s.call.down = true then (s.call, 5) else match s.get n with | none => (s.call, 2) | some f => if s.room < used s.fs + t.length then (s.call, 4) else (s.call.upd n (fun f => { f with data := f.data ++ t }), 0)

/-- A file at its place in the names' order. -/
def insF (f : F) : List F → List F
  | [] => [f]
  | y :: r => if (Lit.string f.name).before (.string y.name) = true then f :: y :: r else y :: insF f r
theorem insF_perm (f : F) : ∀ l, (insF f l).Perm (f :: l)
  | [] => List.Perm.refl _
  | y :: r => by
    unfold insF
    split
    · exact List.Perm.refl _
    · exact ((insF_perm f r).cons y).trans (List.Perm.swap _ _ _)
def createR (s : St) (n : List UInt8) : St × Int := if s.call.down = true then (s.call, 5) else match s.get n with | some _ => (s.call, 3) | none => if 200 ≤ s.fs.length then (s.call, 4) else ({ s.call with fs := insF ⟨n, [], 0⟩ s.fs }, 0)
theorem used_perm {l l' : List F} (h : l.Perm l') : used l = used l' := (h.map _).sum_nat
theorem ok_create {s : St} (h : s.ok) {n : List UInt8} (hg : s.get n = none) (hn : n.length ≤ 24) (hm : s.fs.length < 200) : ({ s with fs := insF ⟨n, [], 0⟩ s.fs } : St).ok := by
  have hp := insF_perm ⟨n, [], 0⟩ s.fs
  have hne : ∀ y ∈ s.fs, y.name ≠ n := fun y hy e => by
    have := List.find?_eq_none.1 hg y hy
    simp [e] at this
  refine ⟨h.r0, h.r1, h.c0, h.a0, h.a1, ?_, ?_, ?_, ?_, ?_⟩
  · have := used_perm hp; show ((used (insF _ _) : Nat) : Int) ≤ _; rw [this]; have := h.u; unfold used at *; simp; exact this
  · intro y hy
    rcases List.mem_cons.1 (hp.mem_iff.1 hy) with rfl | hy
    · simp
    · exact h.k y hy
  · intro y hy
    rcases List.mem_cons.1 (hp.mem_iff.1 hy) with rfl | hy
    · exact hn
    · exact h.n y hy
  · have := hp.length_eq; show (insF _ _).length ≤ _; rw [this]; simp; omega
  · show (insF _ _).Pairwise _
    rw [hp.pairwise_iff (fun {a b} (h : a.name ≠ b.name) => h.symm)]
    exact List.pairwise_cons.2 ⟨fun y hy e => hne y hy e.symm, h.d⟩

/-! The fall of all files, by their places. -/
def nameAt (l : List F) (j : Nat) : List UInt8 := (l.map (·.name)).getD j []
def riseN (s : St) (ks : List Int) : Nat → St
  | 0 => s
  | j + 1 => (riseN s ks j).upd (nameAt s.fs j) (fun f => fall f (ks.getD j 0))
def riseR (s : St) (ks : List Int) : St := { riseN s ks s.fs.length with down := false, ahead := -1 }
theorem upd_names (s : St) (n : List UInt8) (g : F → F) (hg : ∀ f, (g f).name = f.name) : (s.upd n g).fs.map (·.name) = s.fs.map (·.name) := by
  show (s.fs.map _).map _ = _
  rw [List.map_map]
  refine List.map_congr_left fun f _ => ?_
  show (if f.name = n then g f else f).name = f.name
  split
  · exact hg f
  · rfl
theorem rise_names (s : St) (ks : List Int) : ∀ j, (riseN s ks j).fs.map (·.name) = s.fs.map (·.name)
  | 0 => rfl
  | j + 1 => by
    show ((riseN s ks j).upd _ _).fs.map _ = _
    rw [upd_names _ _ (fun f => fall f (ks.getD j 0)) (fun f => rfl), rise_names s ks j]
theorem get_name {s : St} {n : List UInt8} (h : n ∈ s.fs.map (·.name)) : ∃ f, s.get n = some f := by
  obtain ⟨f, hf, rfl⟩ := List.mem_map.1 h
  cases hg : s.get f.name with
  | some y => exact ⟨y, rfl⟩
  | none => have := List.find?_eq_none.1 hg f hf; simp at this
theorem ok_fall {s : St} (h : s.ok) {n : List UInt8} {f : F} (hf : s.get n = some f) (k : Int) : (s.upd n (fun f => fall f k)).ok := by
  have hk := h.k f (get_mem hf)
  have hl : (fall f k).data.length = f.kept + min (max k 0).toNat (f.data.length - f.kept) := by show (f.data.take _).length = _; rw [List.length_take]; omega
  refine ok_upd h hf rfl ?_ ?_
  · rw [hl]; exact Nat.le_refl _
  · rw [hl]; have := h.u; omega

end FsPlain
end Go.Proofs.YtgopodgjnblgkaaDoor
