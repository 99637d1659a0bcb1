/- In one text: Base, Args, FsPlain, InfoEq, Strs, CrcPlain, CrcMore, CrcRmore, Conv. -/
import Derived.Test.YtjplkmmhjfpdaaaGreatDoorRows
import Derived.WalkKit
import Derived.ProofKit
import Derived.Below
import Derived.Handy
import Derived.WalkLawsBesides
import Derived.Outline
import Derived.Lib.Hide
import Derived.Deep.Slices
import Derived.Deep.Fields
import Derived.ChangeSame
import Derived.OpenShut
import Derived.ShutString
import Derived.ChangeOld
import Derived.Carry
import Derived.Deep.DeepCutAuto
import Derived.Laws.BitsAllLaws
import Derived.Laws.IdiomStrings
/- The word of all contracts for a world that has at most new blocks; endings by their values. -/
namespace Go.Proofs.YtjplkmmhjfpdaaaGreatDoor
open Go.RowKit
set_option linter.unusedVariables false
set_option linter.unusedSimpArgs false
set_option maxRecDepth 20000
def Gr (w w' : World) : Prop := Below w.heap.size w w'
theorem Gr.refl (w : World) : Gr w w := Below.refl _ _
theorem Gr.trans {a b c : World} (h : Gr a b) (k : Gr b c) : Gr a c := Below.trans h (Below.mono k h.size)
theorem Gr.of {a b : World} (h : Below a.heap.size a b) : Gr a b := h
theorem grN (w : World) (n : Nat) : Gr w (w.drewN n) := Below.trans (Gr.refl w) ⟨rfl, rfl, rfl, Nat.le_refl _, fun _ _ => rfl⟩
theorem Gr.ofDrew {a b : World} (h : Gr a.drew b) : Gr a b := Below.trans (Below.drew (Gr.refl a)) h
theorem ret_sb {a b : ByteArray} {p q : Bool} (h : a = b) (k : p = q) : Ending.returned (.tuple #[.string a, .bool p]) = .returned (.tuple #[.string b, .bool q]) := by rw [h, k]
theorem ret_u {a b : Int} (h : a = b) : Ending.returned (.int .u32 a) = .returned (.int .u32 b) := by rw [h]
theorem ret_i {a b : Int} (h : a = b) : Ending.returned (.int .i64 a) = .returned (.int .i64 b) := by rw [h]
def I64 (n : Int) : Prop := -9223372036854775808 ≤ n ∧ n ≤ 9223372036854775807
def bs (l : List UInt8) : ByteArray := ⟨l.toArray⟩
theorem bs_toList (s : ByteArray) : bs s.data.toList = s := by
  apply ByteArray.ext; simp [bs]
theorem bs_size (l : List UInt8) : (bs l).size = l.length := by simp [bs, ByteArray.size]
theorem bs_app (a b : List UInt8) : bs a ++ bs b = bs (a ++ b) := by
  apply ByteArray.ext; simp [bs, ByteArray.data_append]
end Go.Proofs.YtjplkmmhjfpdaaaGreatDoor
/- What a law's arguments are, by their types: numbers, strings, slices of these and of slices, structs. -/
namespace Go.Proofs.YtjplkmmhjfpdaaaGreatDoor
open Go.RowKit Go.ChangeShapes Go.WideShapes Go.Deep
set_option linter.unusedVariables false
set_option linter.unusedSimpArgs false
set_option maxRecDepth 20000
def Rd (P : Program) (W : World) (t : TypeId) (c : Value) : Prop := ∃ (H : Type) (enc : TypeId × Value → H) (fuel : Nat) (y : DataW H × List MemPlace), DataW.trod enc P W 0 (fun _ => true) true fuel t [c] = some y
theorem rd_int {P : Program} {W : World} {t : TypeId} {k : IntKind} {c : Value} (ht : P.underlying t = some (.int k)) (h : Rd P W t c) : ∃ n, c = .int k n ∧ (Lit.int k n).wf = true := by
  obtain ⟨H, enc, fuel, y, h⟩ := h
  obtain ⟨n, h1, _, h2⟩ := DataW.trod_int ht h
  exact ⟨n, by simpa using h1, h2⟩
theorem rd_string {P : Program} {W : World} {t : TypeId} {c : Value} (ht : P.underlying t = some .string) (h : Rd P W t c) : ∃ s : ByteArray, c = .string s ∧ s.size ≤ maxLen := by
  obtain ⟨H, enc, fuel, y, h⟩ := h
  obtain ⟨n, h1, _, h2⟩ := DataW.trod_string ht h
  exact ⟨n, by simpa using h1, h2⟩
end Go.Proofs.YtjplkmmhjfpdaaaGreatDoor
/- Plain facts on a disk of files, without the model: what a disk is, and what each call makes of it. -/
namespace Go.Proofs.YtjplkmmhjfpdaaaGreatDoor
set_option linter.unusedVariables false
namespace FsPlain
structure F where
  name : List UInt8
  data : List UInt8
  kept : Nat
structure St where
  room : Int
  calls : Int
  ahead : Int
  down : Bool
  fs : List F
def letterB (c : UInt8) : Bool := decide ((97 ≤ (c.toNat : Int) ∧ (c.toNat : Int) ≤ 122) ∨ (48 ≤ (c.toNat : Int) ∧ (c.toNat : Int) ≤ 57) ∨ (c.toNat : Int) = 46)
def rightB (l : List UInt8) : Bool := l.all letterB && decide (1 ≤ l.length ∧ l.length ≤ 24)
def St.call (s : St) : St := { s with calls := s.calls + 1, down := s.down || decide (s.ahead = 0), ahead := max (s.ahead - 1) (-1) }
def St.code (s : St) : Int := if s.down = true then 5 else 0
def St.get (s : St) (n : List UInt8) : Option F := s.fs.find? fun f => f.name == n
def used (l : List F) : Nat := (l.map fun f => f.data.length).sum
def St.upd (s : St) (n : List UInt8) (g : F → F) : St := { s with fs := s.fs.map fun f => if f.name = n then g f else f }
def fall (f : F) (k : Int) : F := { f with kept := f.kept + min (max k 0).toNat (f.data.length - f.kept), data := f.data.take (f.kept + min (max k 0).toNat (f.data.length - f.kept)) }
structure St.ok (s : St) : Prop where
  r0 : 0 ≤ s.room
  r1 : s.room ≤ 16777216
  c0 : 0 ≤ s.calls
  a0 : -1 ≤ s.ahead
  a1 : s.ahead ≤ 9223372036854775807
  u : (used s.fs : Int) ≤ s.room
  k : ∀ f ∈ s.fs, f.kept ≤ f.data.length
  n : ∀ f ∈ s.fs, f.name.length ≤ 24
  m : s.fs.length ≤ 200
  d : s.fs.Pairwise fun x y => x.name ≠ y.name
theorem ok_call {s : St} (h : s.ok) : s.call.ok := by
  refine ⟨h.r0, h.r1, ?_, ?_, ?_, h.u, h.k, h.n, h.m, h.d⟩
  · have := h.c0; show 0 ≤ s.calls + 1; omega
  · show -1 ≤ max (s.ahead - 1) (-1); omega
  · have := h.a1; show max (s.ahead - 1) (-1) ≤ _; omega
theorem used_le {l : List F} {f : F} (h : f ∈ l) : f.data.length ≤ used l := by
  unfold used
  induction l with
  | nil => cases h
  | cons a r ih =>
    simp only [List.map_cons, List.sum_cons]
    rcases List.mem_cons.1 h with rfl | h
    · omega
    · have := ih h; omega
theorem find_split {α : Type} {p : α → Bool} {l : List α} {x : α} (h : l.find? p = some x) : ∃ a c, l = a ++ x :: c ∧ p x = true ∧ ∀ y ∈ a, p y = false := by
  obtain ⟨h1, a, c, rfl, h2⟩ := List.find?_eq_some_iff_append.1 h
  exact ⟨a, c, rfl, h1, fun y hy => by simpa using h2 y hy⟩
theorem upd_list {n : List UInt8} {g : F → F} : ∀ {A C : List F} {f : F}, f.name = n → (∀ y ∈ A, y.name ≠ n) → (∀ y ∈ C, y.name ≠ n) →
    (A ++ f :: C).map (fun f => if f.name = n then g f else f) = A ++ g f :: C := by
  intro A C f hf hA hC
  rw [List.map_append, List.map_cons, if_pos hf]
  congr 1
  · rw [List.map_congr_left (g := id) (fun y hy => by rw [if_neg (hA y hy)]; rfl)]; simp
  · congr 1
    rw [List.map_congr_left (g := id) (fun y hy => by rw [if_neg (hC y hy)]; rfl)]; simp
theorem get_split {s : St} (h : s.ok) {n : List UInt8} {f : F} (hf : s.get n = some f) : ∃ A C, s.fs = A ++ f :: C ∧ f.name = n ∧ (∀ y ∈ A, y.name ≠ n) ∧ (∀ y ∈ C, y.name ≠ n) ∧ ∀ g, (s.upd n g).fs = A ++ g f :: C := by
  obtain ⟨A, C, e, h1, h2⟩ := find_split hf
  have hn : f.name = n := by simpa using h1
  have hA : ∀ y ∈ A, y.name ≠ n := fun y hy => by simpa using h2 y hy
  have hC : ∀ y ∈ C, y.name ≠ n := by
    have hp := h.d
    rw [e, List.pairwise_append] at hp
    have := (List.pairwise_cons.1 hp.2.1).1
    intro y hy e2
    exact this y hy (by rw [hn, e2])
  refine ⟨A, C, e, hn, hA, hC, fun g => ?_⟩
  show s.fs.map _ = _
  rw [e]
  exact upd_list hn hA hC
theorem get_mem {s : St} {n : List UInt8} {f : F} (hf : s.get n = some f) : f ∈ s.fs := List.mem_of_find?_eq_some hf
theorem used_split (A C : List F) (f g : F) : used (A ++ g :: C) + f.data.length = used (A ++ f :: C) + g.data.length := by
  unfold used
  simp only [List.map_append, List.map_cons, List.sum_append, List.sum_cons]
  omega
theorem ok_upd {s : St} (h : s.ok) {n : List UInt8} {g : F → F} {f : F} (hf : s.get n = some f) (hn : (g f).name = f.name) (hk : (g f).kept ≤ (g f).data.length) (hu : (used s.fs : Int) + (g f).data.length ≤ s.room + f.data.length) : (s.upd n g).ok := by
  obtain ⟨A, C, e, h1, hA, hC, hg⟩ := get_split h hf
  have hs := used_split A C f (g f)
  have hfu := used_le (get_mem hf)
  refine ⟨h.r0, h.r1, h.c0, h.a0, h.a1, ?_, ?_, ?_, ?_, ?_⟩
  · rw [hg g]; rw [e] at hu hfu; show ((used (A ++ g f :: C) : Nat) : Int) ≤ s.room; omega
  · intro y hy
    rw [hg g] at hy
    rcases List.mem_append.1 hy with hy | hy
    · exact h.k y (by rw [e]; simp [hy])
    · rcases List.mem_cons.1 hy with rfl | hy
      · exact hk
      · exact h.k y (by rw [e]; simp [hy])
  · intro y hy
    rw [hg g] at hy
    rcases List.mem_append.1 hy with hy | hy
    · exact h.n y (by rw [e]; simp [hy])
    · rcases List.mem_cons.1 hy with rfl | hy
      · rw [hn]; exact h.n f (get_mem hf)
      · exact h.n y (by rw [e]; simp [hy])
  · rw [hg g]; have := h.m; rw [e] at this; simpa using this
  · rw [hg g]
    have hp := h.d
    rw [e] at hp
    rw [List.pairwise_append, List.pairwise_cons] at hp ⊢
    refine ⟨hp.1, ⟨fun y hy => by rw [hn]; exact hp.2.1.1 y hy, hp.2.1.2⟩, fun a ha b hb => ?_⟩
    rcases List.mem_cons.1 hb with rfl | hb
    · rw [hn]; exact hp.2.2 a ha f (by simp)
    · exact hp.2.2 a ha b (by simp [hb])
def sizeR (s : St) (n : List UInt8) : Int × Int := if s.call.down = true then (0, 5) else match s.get n with | none => (0, 2) | some f => (f.data.length, 0)
def syncR (s : St) (n : List UInt8) : St × Int := if s.call.down = true then (s.call, 5) else match s.get n with | none => (s.call, 2) | some f => (s.call.upd n (fun f => { f with kept := f.data.length }), 0)
def readR (s : St) (n : List UInt8) (i k : Nat) : List UInt8 × Int := if s.call.down = true then ([], 5) else match s.get n with | none => ([], 2) | some f => if f.data.length < i + k then ([], 10) else ((f.data.drop i).take k, 0)
def appendR (s : St) (n t : List UInt8) : St × Int := if s.call.down = true then (s.call, 5) else match s.get n with | none => (s.call, 2) | some f => if s.room < used s.fs + t.length then (s.call, 4) else (s.call.upd n (fun f => { f with data := f.data ++ t }), 0)
def insF (f : F) : List F → List F
  | [] => [f]
  | y :: r => if (Lit.string f.name).before (.string y.name) = true then f :: y :: r else y :: insF f r
theorem insF_perm (f : F) : ∀ l, (insF f l).Perm (f :: l)
  | [] => List.Perm.refl _
  | y :: r => by
    unfold insF
    split
    · exact List.Perm.refl _
    · exact ((insF_perm f r).cons y).trans (List.Perm.swap _ _ _)
def createR (s : St) (n : List UInt8) : St × Int := if s.call.down = true then (s.call, 5) else match s.get n with | some _ => (s.call, 3) | none => if 200 ≤ s.fs.length then (s.call, 4) else ({ s.call with fs := insF ⟨n, [], 0⟩ s.fs }, 0)
theorem used_perm {l l' : List F} (h : l.Perm l') : used l = used l' := (h.map _).sum_nat
theorem ok_create {s : St} (h : s.ok) {n : List UInt8} (hg : s.get n = none) (hn : n.length ≤ 24) (hm : s.fs.length < 200) : ({ s with fs := insF ⟨n, [], 0⟩ s.fs } : St).ok := by
  have hp := insF_perm ⟨n, [], 0⟩ s.fs
  have hne : ∀ y ∈ s.fs, y.name ≠ n := fun y hy e => by
    have := List.find?_eq_none.1 hg y hy
    simp [e] at this
  refine ⟨h.r0, h.r1, h.c0, h.a0, h.a1, ?_, ?_, ?_, ?_, ?_⟩
  · have := used_perm hp; show ((used (insF _ _) : Nat) : Int) ≤ _; rw [this]; have := h.u; unfold used at *; simp; exact this
  · intro y hy
    rcases List.mem_cons.1 (hp.mem_iff.1 hy) with rfl | hy
    · simp
    · exact h.k y hy
  · intro y hy
    rcases List.mem_cons.1 (hp.mem_iff.1 hy) with rfl | hy
    · exact hn
    · exact h.n y hy
  · have := hp.length_eq; show (insF _ _).length ≤ _; rw [this]; simp; omega
  · show (insF _ _).Pairwise _
    rw [hp.pairwise_iff (fun {a b} (h : a.name ≠ b.name) => h.symm)]
    exact List.pairwise_cons.2 ⟨fun y hy e => hne y hy e.symm, h.d⟩
theorem get_name {s : St} {n : List UInt8} (h : n ∈ s.fs.map (·.name)) : ∃ f, s.get n = some f := by
  obtain ⟨f, hf, rfl⟩ := List.mem_map.1 h
  cases hg : s.get f.name with
  | some y => exact ⟨y, rfl⟩
  | none => have := List.find?_eq_none.1 hg f hf; simp at this
end FsPlain
end Go.Proofs.YtjplkmmhjfpdaaaGreatDoor
/- Two Infos compared. -/
namespace Go.Proofs.YtjplkmmhjfpdaaaGreatDoor
open Go.RowKit
set_option linter.unusedVariables false
set_option linter.unusedSimpArgs false
set_option maxRecDepth 20000
theorem info_same (n m : Int) (w : World) : (Op.equalIn 10000 37 (.agg #[.int .i64 n, .int .u32 m]) (.agg #[.int .i64 n, .int .u32 m])).run Tryz.prog w = .ok true w := by
  rw [run_equalIn_agg w 9999 _ _ _ (by kernel_rfl) (by kernel_rfl)]
  simp [go_sem]
theorem info_neq (n m : Int) (w : World) : (binOp .neq 37 (.agg #[.int .i64 n, .int .u32 m]) (.agg #[.int .i64 n, .int .u32 m])).run Tryz.prog w = .ok (.bool false) w := by
  rw [run_neq_struct, info_same]
  rfl
end Go.Proofs.YtjplkmmhjfpdaaaGreatDoor
/- Rows of strings in memory; a slice that holds these strings, whoever made it. -/
namespace Go.Proofs.YtjplkmmhjfpdaaaGreatDoor
open Go.RowKit
set_option linter.unusedVariables false
set_option linter.unusedSimpArgs false
set_option maxRecDepth 20000
def strs (l : List ByteArray) : List Value := l.map Value.string
def SRow (w : World) (b off : Nat) (l : List ByteArray) : Prop := b < w.heap.size ∧ ∀ j x, l[j]? = some x → w.cell? ⟨b, off + j, none⟩ = some (.string x)
theorem SRow.gr {w w' : World} {b off : Nat} {l : List ByteArray} (h : SRow w b off l) (g : Gr w w') : SRow w' b off l := by
  refine ⟨Nat.lt_of_lt_of_le h.1 g.size, fun j x hj => ?_⟩
  rw [Below.cell g (p := ⟨b, off + j, none⟩) h.1]
  exact h.2 j x hj
theorem take_at {l : List ByteArray} {j : Nat} (hj : j < l.length) : ∃ x, l[j]? = some x ∧ l.take (j + 1) = l.take j ++ [x] ∧ x ∈ l :=
  ⟨l[j], List.getElem?_eq_getElem hj, List.take_succ_eq_append_getElem hj, List.getElem_mem hj⟩
def Lies (w : World) (v : Value) (L : List ByteArray) : Prop := ∃ a c, v = .slice a L.length c ∧ L.length ≤ c ∧ (L = [] ∨ ∃ b off, a = some ⟨b, off, none⟩ ∧ SRow w b off L)
theorem Lies.gr {w w' : World} {v : Value} {L : List ByteArray} (h : Lies w v L) (g : Gr w w') : Lies w' v L := by
  obtain ⟨a, c, rfl, hc, h⟩ := h
  refine ⟨a, c, rfl, hc, h.imp id ?_⟩
  rintro ⟨b, off, rfl, hr⟩
  exact ⟨b, off, rfl, hr.gr g⟩
theorem lies_own {w : World} {B : Nat} {v : Value} {L : List ByteArray} (h : w.ownsRow B 9 1 v L.length (strs L)) : Lies w v L := by
  have hc := @World.ownsRow.cells w _ _ _ _ _ _ h
  have hl := h.lt
  obtain ⟨_, p⟩ := h
  rcases p with ⟨rfl, z⟩ | ⟨g, cap, cur, rfl, _, _, hn, _⟩
  · exact ⟨none, 0, by rw [z], by omega, .inl (List.eq_nil_of_length_eq_zero z)⟩
  · refine ⟨_, cap, rfl, hn, .inr ⟨g, 0, rfl, (hl g rfl).2, fun j x hj => ?_⟩⟩
    have := hc (g := g) rfl j (.string x) (by unfold strs; rw [List.getElem?_map, hj]; rfl)
    rw [Nat.zero_add]
    have ea : Addr.add ⟨g, 0, none⟩ j = ⟨g, j, none⟩ := by by_cases h : j = 0 <;> simp [Addr.add, h]
    rwa [ea] at this
end Go.Proofs.YtjplkmmhjfpdaaaGreatDoor
/- Plain facts on the sum of bytes, without the model: one step is linear and loses nothing. -/
namespace Go.Proofs.YtjplkmmhjfpdaaaGreatDoor
namespace CrcPlain
def st (n : Nat) : Nat := n / 2 ^^^ (n % 2 * 3988292384)
def sts : Nat → Nat → Nat
  | 0, n => n
  | k + 1, n => sts k (st n)
def le : List UInt8 → Nat
  | [] => 0
  | b :: l => b.toNat + 256 * le l
def reg (r : Nat) (l : List UInt8) : Nat := l.foldl (fun r b => sts 8 (r ^^^ b.toNat)) r
theorem xor_div2 (a b : Nat) : (a ^^^ b) / 2 = a / 2 ^^^ b / 2 := Nat.xor_div_two
theorem xor_mod2 (a b : Nat) : (a ^^^ b) % 2 = (a % 2 + b % 2) % 2 := by
  have h := Nat.xor_mod_two_pow (a := a) (b := b) (n := 1)
  rw [Nat.pow_one] at h
  rw [h]
  rcases Nat.mod_two_eq_zero_or_one a with h | h <;> rcases Nat.mod_two_eq_zero_or_one b with k | k <;> rw [h, k] <;> rfl
theorem xor_swap (a b c d : Nat) : (a ^^^ b) ^^^ (c ^^^ d) = (a ^^^ c) ^^^ (b ^^^ d) := by
  rw [Nat.xor_assoc, Nat.xor_assoc, ← Nat.xor_assoc b, Nat.xor_comm b c, Nat.xor_assoc c]
theorem st_xor (a b : Nat) : st (a ^^^ b) = st a ^^^ st b := by
  unfold st
  rw [xor_div2, xor_swap, xor_mod2]
  congr 1
  rcases Nat.mod_two_eq_zero_or_one a with h | h <;> rcases Nat.mod_two_eq_zero_or_one b with k | k <;> simp [h, k]
theorem sts_xor (k : Nat) : ∀ a b, sts k (a ^^^ b) = sts k a ^^^ sts k b := by
  induction k with
  | zero => intro a b; rfl
  | succ k ih => intro a b; rw [sts, st_xor, ih]; rfl
theorem st_double (a : Nat) : st (2 * a) = a := by
  unfold st
  have h1 : 2 * a / 2 = a := by omega
  have h2 : 2 * a % 2 = 0 := by omega
  rw [h1, h2, Nat.zero_mul, Nat.xor_zero]
theorem sts_pow (k : Nat) : ∀ a, sts k (2 ^ k * a) = a := by
  induction k with
  | zero => intro a; simp [sts]
  | succ k ih =>
    intro a
    have e : 2 ^ (k + 1) * a = 2 * (2 ^ k * a) := by rw [Nat.pow_succ, Nat.mul_comm (2 ^ k) 2, Nat.mul_assoc]
    rw [sts, e, st_double, ih]
theorem sts_add (j k n : Nat) : sts (j + k) n = sts k (sts j n) := by
  induction j generalizing n with
  | zero => simp [sts]
  | succ j ih => rw [Nat.add_right_comm, sts, ih]; rfl
theorem st_lt {n : Nat} (h : n < 4294967296) : st n < 4294967296 := by
  unfold st
  have h2 : n % 2 * 3988292384 < 2 ^ 32 := by rcases Nat.mod_two_eq_zero_or_one n with k | k <;> rw [k] <;> decide
  exact Nat.xor_lt_two_pow (n := 32) (by omega) h2
theorem sts_lt (k : Nat) : ∀ {n}, n < 4294967296 → sts k n < 4294967296 := by
  induction k with
  | zero => intro n h; exact h
  | succ k ih => intro n h; exact ih (st_lt h)
theorem xor_eq_zero {a b : Nat} (h : a ^^^ b = 0) : a = b := by
  have := congrArg (fun x => x ^^^ b) h
  simpa [Nat.xor_assoc] using this
theorem st_zero {n : Nat} (h : n < 4294967296) (hz : st n = 0) : n = 0 := by
  unfold st at hz
  have e := xor_eq_zero hz
  rcases Nat.mod_two_eq_zero_or_one n with k | k <;> rw [k] at e <;> omega
theorem sts_zero (k : Nat) : ∀ {n}, n < 4294967296 → sts k n = 0 → n = 0 := by
  induction k with
  | zero => intro n _ h; exact h
  | succ k ih => intro n h hz; exact st_zero h (ih (st_lt h) hz)
theorem byte_lt (b : UInt8) : b.toNat < 4294967296 := Nat.lt_trans b.toNat_lt (by decide)
theorem reg_snoc (r : Nat) (l : List UInt8) (b : UInt8) : reg r (l ++ [b]) = sts 8 (reg r l ^^^ b.toNat) := by
  simp [reg]
theorem reg_app (r : Nat) (a b : List UInt8) : reg r (a ++ b) = reg (reg r a) b := by simp [reg]
theorem xor_lt {a b : Nat} (ha : a < 4294967296) (hb : b < 4294967296) : a ^^^ b < 4294967296 := Nat.xor_lt_two_pow (n := 32) ha hb
theorem reg_lt {r : Nat} (h : r < 4294967296) (l : List UInt8) : reg r l < 4294967296 := by
  induction l generalizing r with
  | nil => exact h
  | cons b l ih => exact ih (sts_lt 8 (xor_lt h (byte_lt b)))
theorem add_xor (k : Nat) {b : Nat} (h : b < 2 ^ k) (m : Nat) : b + 2 ^ k * m = b ^^^ (2 ^ k * m) := by
  have e : 2 ^ k * m ^^^ b = 2 ^ k * m + b := by
    apply Nat.eq_of_testBit_eq
    intro i
    rw [Nat.testBit_xor, Nat.testBit_two_pow_mul_add _ h, Nat.testBit_two_pow_mul]
    by_cases c : i < k
    · have : ¬ i ≥ k := by omega
      simp [c, this]
    · have h2 : b.testBit i = false := Nat.testBit_lt_two_pow (Nat.lt_of_lt_of_le h (Nat.pow_le_pow_right (by omega) (by omega)))
      have : i ≥ k := by omega
      simp [c, this, h2]
  rw [Nat.xor_comm, e, Nat.add_comm]
theorem reg_le (l : List UInt8) : ∀ r, reg r l = sts (8 * l.length) (r ^^^ le l) := by
  induction l with
  | nil => intro r; simp [reg, le, sts]
  | cons b l ih =>
    intro r
    have e1 : reg r (b :: l) = reg (sts 8 (r ^^^ b.toNat)) l := rfl
    have e2 : 8 * (b :: l).length = 8 + 8 * l.length := by rw [List.length_cons]; omega
    have e3 : le (b :: l) = b.toNat ^^^ (2 ^ 8 * le l) := by
      have := add_xor 8 (b := b.toNat) b.toNat_lt (le l)
      rw [← this]; rfl
    rw [e1, ih, e2, sts_add, e3, ← Nat.xor_assoc, sts_xor 8 _ (2 ^ 8 * le l), sts_pow]
theorem reg_apart {r : Nat} {a b : List UInt8} (hl : a.length = b.length) {first w : Nat} (hw : w < 4294967296) (hw0 : w ≠ 0) (hf : first ≤ 8 * a.length)
    (hx : le a ^^^ le b = 2 ^ first * w) : reg r a ≠ reg r b := by
  intro h
  have e : reg r a ^^^ reg r b = 0 := by rw [h, Nat.xor_self]
  rw [reg_le, reg_le, ← hl, ← sts_xor, xor_swap, Nat.xor_self, Nat.zero_xor, hx] at e
  have e2 : 8 * a.length = first + (8 * a.length - first) := by omega
  rw [e2, sts_add, sts_pow] at e
  exact hw0 (sts_zero _ hw e)
def more (sum : Nat) (l : List UInt8) : Nat := reg (sum ^^^ 4294967295) l ^^^ 4294967295
theorem more_lt {sum : Nat} (h : sum < 4294967296) (l : List UInt8) : more sum l < 4294967296 := xor_lt (reg_lt (xor_lt h (by decide)) l) (by decide)
theorem more_app (sum : Nat) (a b : List UInt8) : more (more sum a) b = more sum (a ++ b) := by
  unfold more
  rw [Nat.xor_assoc, Nat.xor_self, Nat.xor_zero, reg_app]
def tl (n : Nat) : List UInt8 := [UInt8.ofNat (n % 256), UInt8.ofNat (n / 256 % 256), UInt8.ofNat (n / 65536 % 256), UInt8.ofNat (n / 16777216 % 256)]
theorem tl_length (n : Nat) : (tl n).length = 4 := rfl
def half : Nat → Nat
  | 0 => 0 | 1 => 498536548 | 2 => 997073096 | 3 => 651767980 | 4 => 1994146192 | 5 => 1802195444 | 6 => 1303535960 | 7 => 1342533948
  | 8 => 3988292384 | 9 => 4027552580 | 10 => 3604390888 | 11 => 3412177804 | 12 => 2607071920 | 13 => 2262029012 | 14 => 2685067896 | 15 => 3183342108 | _ => 0
theorem half_is : ∀ r : Nat, r < 16 → sts 4 r = half r := by decide
theorem half_step (n : Nat) : n / 16 ^^^ half (n % 16) = sts 4 n := by
  have h : n % 16 < 16 := Nat.mod_lt _ (by decide)
  have e : n = n % 16 ^^^ (2 ^ 4 * (n / 16)) := by rw [← add_xor 4 h]; omega
  have e2 : sts 4 n = sts 4 (n % 16 ^^^ (2 ^ 4 * (n / 16))) := by rw [← e]
  rw [e2, sts_xor, sts_pow, half_is _ h, Nat.xor_comm]
theorem half_lt : ∀ r : Nat, r < 16 → half r < 4294967296 := by decide
theorem two_halves (n : Nat) : sts 8 n = sts 4 (sts 4 n) := sts_add 4 4 n
end CrcPlain
end Go.Proofs.YtjplkmmhjfpdaaaGreatDoor
/- Contracts of the sum of bytes, half a byte at once by a table: each by a walk of its text. -/
namespace Go.Proofs.YtjplkmmhjfpdaaaGreatDoor
open Go.RowKit CrcPlain
set_option linter.unusedVariables false
set_option linter.unusedSimpArgs false
set_option maxRecDepth 20000
def halves : Array Value := #[.int .u32 0, .int .u32 498536548, .int .u32 997073096, .int .u32 651767980, .int .u32 1994146192, .int .u32 1802195444, .int .u32 1303535960, .int .u32 1342533948, .int .u32 3988292384, .int .u32 4027552580, .int .u32 3604390888, .int .u32 3412177804, .int .u32 2607071920, .int .u32 2262029012, .int .u32 2685067896, .int .u32 3183342108]
set_option maxHeartbeats 1000000 in
theorem halves_c (w : World) : Calls Tryz.prog 181 #[] w fun e w' => e = .returned (.agg halves) ∧ Gr w w' := by
  go_enter Tryz.func181, Tryz.ntmps181
  go_wp2_with fail
  refine bodyPost_ret (v := .agg halves) (by simp [results, Tryz.results181, go_sem, halves]) rfl ⟨rfl, Gr.of (by go_grown)⟩
theorem xnot (m : Nat) (h : m < 4294967296) : bits .xor .u32 IntKind.u32.max (m : Int) = ((m ^^^ 4294967295 : Nat) : Int) := by
  have e : IntKind.u32.max = ((4294967295 : Nat) : Int) := rfl
  rw [e, u32_xor_nat _ _ (by decide) h, Nat.xor_comm]
theorem and15 (m : Nat) (h : m < 4294967296) : bits .and .u32 (m : Int) 15 = ((m % 16 : Nat) : Int) := by
  have e := u32_and_nat m 15 h (by decide)
  rw [Nat.and_two_pow_sub_one_eq_mod m 4] at e
  exact e
theorem halves_cell (u W : World) (h : W = u.alloc (.cells halves 211)) : u.heap.size < W.heap.size ∧ ∀ j : Nat, j < 16 → W.cell? ⟨u.heap.size, j, none⟩ = some (.int .u32 (half j : Nat)) := by
  subst h
  refine ⟨by simp, ?_⟩
  intro j hj
  have : j = 0 ∨ j = 1 ∨ j = 2 ∨ j = 3 ∨ j = 4 ∨ j = 5 ∨ j = 6 ∨ j = 7 ∨ j = 8 ∨ j = 9 ∨ j = 10 ∨ j = 11 ∨ j = 12 ∨ j = 13 ∨ j = 14 ∨ j = 15 := by omega
  rcases this with rfl | rfl | rfl | rfl | rfl | rfl | rfl | rfl | rfl | rfl | rfl | rfl | rfl | rfl | rfl | rfl <;> (go_simp; rfl)
theorem half_round (m : Nat) (h : m < 4294967296) : ∃ j v n : Nat, j < 16 ∧ v = half j ∧ n < 4294967296 ∧ bits .and .u32 (m : Int) 15 = (j : Int) ∧ bits .xor .u32 ((m : Int) / 16) (v : Int) = (n : Int) ∧ n = sts 4 m := by
  have hj : m % 16 < 16 := Nat.mod_lt _ (by decide)
  have hv := half_lt _ hj
  have hd : m / 16 < 4294967296 := by omega
  have e : ((m / 16 : Nat) : Int) = (m : Int) / 16 := by omega
  refine ⟨m % 16, half (m % 16), m / 16 ^^^ half (m % 16), hj, rfl, xor_lt hd hv, and15 m h, ?_, half_step m⟩
  rw [← e]
  exact u32_xor_nat _ _ hd hv
theorem byte_round (m : Nat) (h : m < 4294967296) (b : UInt8) : ∃ n : Nat, n < 4294967296 ∧ bits .xor .u32 (m : Int) ((b.toNat : Int) % 4294967296) = (n : Int) ∧ n = m ^^^ b.toNat := by
  have hb := byte_lt b
  have e : (b.toNat : Int) % 4294967296 = (b.toNat : Int) := by omega
  refine ⟨m ^^^ b.toNat, xor_lt h hb, ?_, rfl⟩
  rw [e]
  exact u32_xor_nat _ _ h hb
theorem take_snoc (s : ByteArray) (k : Nat) (h : k < s.size) : s.data.toList.take (k + 1) = s.data.toList.take k ++ [s[k]] := by
  rw [List.take_succ_eq_append_getElem (by simpa using h)]; rfl
set_option maxHeartbeats 1000000 in
theorem more_c (sum : Nat) (hsum : sum < 4294967296) (s : ByteArray) (hz : s.size ≤ 1000) (w : World) :
    Calls Tryz.prog 151 #[.int .u32 (sum : Int), .string s] w fun e w' => e = .returned (.int .u32 (more sum s.data.toList : Nat)) ∧ Gr w w' := by
  have hr0 := xor_lt hsum (b := 4294967295) (by decide)
  have hx0 := xnot sum hsum
  unfold more
  generalize sum ^^^ 4294967295 = r0 at hr0 hx0 ⊢
  go_enter Tryz.func151, Tryz.ntmps151
  go_wp2_with fail
  refine (halves_c _).mono ?_; rintro e u ⟨rfl, g⟩
  unfold halves
  go_wp2_with fail
  obtain ⟨W, hW⟩ : ∃ W, W = u.alloc (.cells halves 211) := ⟨_, rfl⟩
  unfold halves at hW
  rw [← hW]
  obtain ⟨hsz, hcell⟩ := halves_cell u W hW
  clear hx0
  have HW := Lib.hid hW
  have HC := Lib.hid hcell
  clear hW hcell
  go_loop [6, 13] (fun n i => ∃ k : Nat, k ≤ s.size ∧ i = .int .i64 k ∧ n = .int .u32 (reg r0 (s.data.toList.take k) : Nat)) (fun _ i => s.size - (intOf i).toNat)
  case atStart => exact ⟨0, Nat.zero_le _, rfl, rfl⟩
  case round =>
    obtain ⟨k, hk, rfl, rfl⟩ := hrel
    have hl := reg_lt hr0 (s.data.toList.take k)
    have hls := reg_lt hr0 s.data.toList
    by_cases hlt : k < s.size
    · obtain ⟨m, hm⟩ : ∃ m, m = reg r0 (s.data.toList.take k) := ⟨_, rfl⟩
      rw [← hm] at hl ⊢
      obtain ⟨m1, l1, q1, p1⟩ := byte_round m hl s[k]
      obtain ⟨j1, v1, m2, lj1, pv1, l2, q2, q3, p2⟩ := half_round m1 l1
      obtain ⟨j2, v2, m3, lj2, pv2, l3, q4, q5, p3⟩ := half_round m2 l2
      have c1 := HC.out j1 lj1
      have c2 := HC.out j2 lj2
      rw [← pv1] at c1
      rw [← pv2] at c2
      have hend : reg r0 (s.data.toList.take (k + 1)) = m3 := by rw [take_snoc s k hlt, reg_snoc, ← hm, ← p1, two_halves, ← p2, ← p3]
      have HE := Lib.hid hend
      clear hm p1 pv1 p2 pv2 p3 hend
      go_wp2_with fail
      go_round
      case rel => exact ⟨k + 1, by omega, by go_num, by rw [HE.out]⟩
      case measure => simp [intOf]; omega
    · obtain rfl : k = s.size := by omega
      rw [List.take_of_length_le (by simp)] at hl ⊢
      have hx1 := xnot _ hls
      have HX := Lib.hid hx1
      clear hx1
      go_wp2_with fail
      go_ret
      exact ⟨ret_u (HX.out), Gr.trans g (Gr.of (by rw [HW.out]; go_grown))⟩
end Go.Proofs.YtjplkmmhjfpdaaaGreatDoor
/- The contract of the document's own sum, bit by bit: by a walk of its text. -/
namespace Go.Proofs.YtjplkmmhjfpdaaaGreatDoor
open Go.RowKit CrcPlain
set_option linter.unusedVariables false
set_option linter.unusedSimpArgs false
set_option maxRecDepth 20000
theorem xnot2 (m : Nat) (h : m < 4294967296) : bits .xor .u32 (m : Int) 4294967295 = ((m ^^^ 4294967295 : Nat) : Int) := u32_xor_nat m 4294967295 h (by decide)
theorem bit_odd (m : Nat) (h : m < 4294967296) (ho : m % 2 = 1) : bits .xor .u32 ((m : Int) / 2) 3988292384 = ((st m : Nat) : Int) := by
  have e : ((m / 2 : Nat) : Int) = (m : Int) / 2 := by omega
  rw [← e]
  have := u32_xor_nat (m / 2) 3988292384 (by omega) (by decide)
  unfold st; rw [ho, Nat.one_mul]; exact this
theorem bit_even (m : Nat) (ho : m % 2 = 0) : ((m : Int) / 2) = ((st m : Nat) : Int) := by
  have e : ((m / 2 : Nat) : Int) = (m : Int) / 2 := by omega
  rw [← e]; unfold st; rw [ho, Nat.zero_mul, Nat.xor_zero]
theorem sts_next (j m : Nat) : sts (j + 1) m = st (sts j m) := sts_add j 1 m
set_option maxHeartbeats 1000000 in
theorem rmore_c (sum : Nat) (hsum : sum < 4294967296) (s : ByteArray) (hz : s.size ≤ 1000) (w : World) :
    Calls Tryz.prog 51 #[.int .u32 (sum : Int), .string s] w fun e w' => e = .returned (.int .u32 (more sum s.data.toList : Nat)) ∧ w = w' := by
  have hr0 := xor_lt hsum (b := 4294967295) (by decide)
  have hx0 := xnot2 sum hsum
  unfold more
  generalize sum ^^^ 4294967295 = r0 at hr0 hx0 ⊢
  go_enter Tryz.func51, Tryz.ntmps51
  go_wp2_with fail
  clear hx0
  go_loop [5, 6] (fun n i => ∃ k : Nat, k ≤ s.size ∧ i = .int .i64 k ∧ n = .int .u32 (reg r0 (s.data.toList.take k) : Nat)) (fun _ i => s.size - (intOf i).toNat)
  case atStart => exact ⟨0, Nat.zero_le _, rfl, rfl⟩
  case round =>
    obtain ⟨k, hk, rfl, rfl⟩ := hrel
    have hl := reg_lt hr0 (s.data.toList.take k)
    have hls := reg_lt hr0 s.data.toList
    by_cases hlt : k < s.size
    · obtain ⟨m, hm⟩ : ∃ m, m = reg r0 (s.data.toList.take k) := ⟨_, rfl⟩
      rw [← hm] at hl ⊢
      obtain ⟨m1, l1, q1, p1⟩ := byte_round m hl s[k]
      have hend : reg r0 (s.data.toList.take (k + 1)) = sts 8 m1 := by rw [take_snoc s k hlt, reg_snoc, ← hm, ← p1]
      have HE := Lib.hid hend
      clear hm p1 hend
      go_wp2_with fail
      go_loop [5, 7] (fun n i => ∃ j : Nat, j ≤ 8 ∧ i = .int .i64 j ∧ n = .int .u32 (sts j m1 : Nat)) (fun _ i => 8 - (intOf i).toNat)
      case atStart => exact ⟨0, Nat.zero_le _, rfl, rfl⟩
      case round =>
        obtain ⟨j, hj, rfl, rfl⟩ := hrel
        have ln := sts_lt j l1
        have hsn := sts_next j m1
        obtain ⟨n, hn⟩ : ∃ n, n = sts j m1 := ⟨_, rfl⟩
        rw [← hn] at ln hsn ⊢
        have HN := Lib.hid hn
        have HS := Lib.hid hsn
        clear hn hsn
        by_cases hj8 : j < 8
        · by_cases ho : n % 2 = 1
          · have q2 := bit_odd n ln ho
            have q3 : (n : Int) % 2 = 1 := by omega
            go_wp2_with fail
            go_round
            case rel => exact ⟨j + 1, by omega, by go_num, by rw [HS.out]⟩
            case measure => simp [intOf]; omega
          · have q2 := bit_even n (by omega)
            have q3 : (n : Int) % 2 = 0 := by omega
            go_wp2_with fail
            go_round
            case rel => exact ⟨j + 1, by omega, by go_num, by rw [HS.out]⟩
            case measure => simp [intOf]; omega
        · obtain rfl : j = 8 := by omega
          go_wp2_with fail
          go_round
          case rel => exact ⟨k + 1, by omega, by go_num, by rw [HE.out, HN.out]⟩
          case measure => simp [intOf]; omega
    · obtain rfl : k = s.size := by omega
      rw [List.take_of_length_le (by simp)] at hl ⊢
      have hx1 := xnot2 _ hls
      have HX := Lib.hid hx1
      clear hx1
      go_wp2_with fail
      go_ret
      exact ⟨ret_u (HX.out), rfl⟩
end Go.Proofs.YtjplkmmhjfpdaaaGreatDoor
/- A slice of bytes as a string, by its cells. -/
namespace Go.Proofs.YtjplkmmhjfpdaaaGreatDoor
open Go.RowKit
set_option linter.unusedVariables false
set_option linter.unusedSimpArgs false
set_option maxRecDepth 20000
theorem conv_list (W : World) (a : Addr) (k : Nat) (l : List UInt8) (hl : l.length = k) (hc : ∀ j x, l[j]? = some x → W.cell? (a.add j) = some (.int .u8 (x.toNat : Int))) :
    (convert 71 9 (.slice (some a) k k)).run Tryz.prog W = .ok (.string (bs l)) W := by
  subst hl
  exact run_convert_bytes_back (P := Tryz.prog) W 71 9 5 a l.length l Tryz.underlying71 Tryz.underlying5 Tryz.underlying9 (fun j hj => hc j l[j] (by simp))
end Go.Proofs.YtjplkmmhjfpdaaaGreatDoor
