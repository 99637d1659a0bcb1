/- In one text: MnPlain. -/
import Derived.Test.YtgopodgjnblgkaaDoorP04
import Derived.Test.YtgopodgjnblgkaaDoorP05
import Derived.Test.YtgopodgjnblgkaaDoorP02
/- Plain facts of a manifest: what may be, its bytes; two of the same bytes are one. -/
namespace Go.Proofs.YtgopodgjnblgkaaDoor
open Go.RowKit FsPlain CrcPlain OctPlain
set_option linter.unusedVariables false
set_option linter.unusedSimpArgs false
namespace MnPlain
/-- A file of a manifest. -/
structure Fl where
  name : ByteArray
  size : Int
  count : Int
  sum : Int
/-- A manifest. -/
structure Mn where
  stage : Int
  pass : Int
  files : List Fl
def flB (f : Fl) : Bool := rightB f.name.data.toList && decide ((1 ≤ f.size ∧ f.size ≤ 64) ∧ 0 ≤ f.count ∧ f.count ≤ 4611686018427387904)
/-- No two of one name (each against those ahead of it). -/
def newB : List Fl → List Fl → Bool
  | _, [] => true
  | l, f :: t => flB f && (l.all fun g => decide (g.name ≠ f.name)) && newB (l ++ [f]) t
def mnB (m : Mn) : Bool := decide ((1 ≤ m.stage ∧ m.stage ≤ 7) ∧ (0 ≤ m.pass ∧ m.pass ≤ 1000) ∧ m.files.length ≤ 16) && newB [] m.files
/-- A file's bytes. -/
def flL (f : Fl) : List UInt8 := beL 1 f.name.size ++ (f.name.data.toList ++ (beL 1 f.size.toNat ++ (beL 8 f.count.toNat ++ beL 4 f.sum.toNat)))
/-- A manifest's bytes, ahead of its check. -/
def mnL (m : Mn) : List UInt8 := [77, 65, 78, 49] ++ (beL 2 m.stage.toNat ++ (beL 2 m.pass.toNat ++ (beL 1 m.files.length ++ (m.files.map flL).flatten)))
theorem be_inj {k a b : Nat} (ha : a < 256 ^ k) (hb : b < 256 ^ k) (h : beL k a = beL k b) : a = b := by
  rw [← num_beL k a ha, ← num_beL k b hb, h]
theorem app_len {a b c d : List UInt8} (hl : a.length = b.length) (h : a ++ c = b ++ d) : a = b ∧ c = d := List.append_inj h hl
theorem be_app {k a b : Nat} {c d : List UInt8} (ha : a < 256 ^ k) (hb : b < 256 ^ k) (h : beL k a ++ c = beL k b ++ d) : a = b ∧ c = d := by
  obtain ⟨h1, h2⟩ := app_len (by rw [beL_length, beL_length]) h
  exact ⟨be_inj ha hb h1, h2⟩
/-- What the numbers of a file are between. -/
def flI (f : Fl) : Prop := f.name.size < 256 ∧ (0 ≤ f.size ∧ f.size < 256) ∧ (0 ≤ f.count ∧ f.count < 18446744073709551616) ∧ 0 ≤ f.sum ∧ f.sum < 4294967296
theorem fl_app {f g : Fl} {c d : List UInt8} (hf : flI f) (hg : flI g) (h : flL f ++ c = flL g ++ d) : f = g ∧ c = d := by
  obtain ⟨f1, ⟨f2, f3⟩, ⟨f4, f5⟩, f6, f7⟩ := hf
  obtain ⟨g1, ⟨g2, g3⟩, ⟨g4, g5⟩, g6, g7⟩ := hg
  unfold flL at h
  simp only [List.append_assoc] at h
  obtain ⟨h1, h⟩ := be_app (by rw [Nat.pow_one]; exact f1) (by rw [Nat.pow_one]; exact g1) h
  obtain ⟨h2, h⟩ := app_len (show f.name.data.toList.length = g.name.data.toList.length from h1) h
  obtain ⟨h3, h⟩ := be_app (by omega) (by omega) h
  obtain ⟨h4, h⟩ := be_app (by omega) (by omega) h
  obtain ⟨h5, h⟩ := be_app (by omega) (by omega) h
  refine ⟨?_, h⟩
  have q1 : f.name = g.name := ByteArray.ext (Array.toList_inj.1 h2)
  have q2 : f.size = g.size := by omega
  have q3 : f.count = g.count := by omega
  have q4 : f.sum = g.sum := by omega
  cases f; cases g
  simp only at q1 q2 q3 q4
  rw [q1, q2, q3, q4]
theorem fls_inj : ∀ {l m : List Fl} {c d : List UInt8}, l.length = m.length → (∀ f ∈ l, flI f) → (∀ f ∈ m, flI f) → (l.map flL).flatten ++ c = (m.map flL).flatten ++ d → l = m ∧ c = d
  | [], [], c, d, _, _, _, h => ⟨rfl, by simpa using h⟩
  | [], g :: m, c, d, hl, _, _, _ => by simp at hl
  | f :: l, [], c, d, hl, _, _, _ => by simp at hl
  | f :: l, g :: m, c, d, hl, hf, hg, h => by
    simp only [List.map_cons, List.flatten_cons, List.append_assoc] at h
    obtain ⟨e1, h2⟩ := fl_app (hf f (by simp)) (hg g (by simp)) h
    obtain ⟨e2, h3⟩ := fls_inj (by simpa using hl) (fun x hx => hf x (by simp [hx])) (fun x hx => hg x (by simp [hx])) h2
    exact ⟨by rw [e1, e2], h3⟩
theorem mnL_inj {a b : Mn} (ha : mnB a = true) (hb : mnB b = true) (ia : ∀ f ∈ a.files, flI f) (ib : ∀ f ∈ b.files, flI f) (h : mnL a = mnL b) : a = b := by
  unfold mnB at ha hb
  simp only [Bool.and_eq_true, decide_eq_true_eq] at ha hb
  obtain ⟨⟨⟨a1, a2⟩, ⟨a3, a4⟩, a5⟩, _⟩ := ha
  obtain ⟨⟨⟨b1, b2⟩, ⟨b3, b4⟩, b5⟩, _⟩ := hb
  unfold mnL at h
  have h := List.append_cancel_left h
  obtain ⟨h1, h⟩ := be_app (by omega) (by omega) h
  obtain ⟨h2, h⟩ := be_app (by omega) (by omega) h
  obtain ⟨h3, h⟩ := be_app (by omega) (by omega) h
  obtain ⟨h4, _⟩ := fls_inj (c := []) (d := []) h3 ia ib (by simpa using h)
  have q1 : a.stage = b.stage := by omega
  have q2 : a.pass = b.pass := by omega
  cases a; cases b
  simp only at q1 q2 h4
  rw [q1, q2, h4]
end MnPlain
end Go.Proofs.YtgopodgjnblgkaaDoor
