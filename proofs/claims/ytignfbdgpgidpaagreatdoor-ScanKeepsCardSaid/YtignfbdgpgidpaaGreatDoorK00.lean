/- In one text: Base, Args, FsPlain, FsLetter, FsRight. -/
import Derived.Test.YtignfbdgpgidpaaGreatDoorRows
import Derived.WalkKit
import Derived.ProofKit
import Derived.Below
import Derived.Handy
import Derived.WalkLawsBesides
import Derived.Outline
import Derived.Lib.Hide
import Derived.Deep.Slices
import Derived.Deep.Fields
import Derived.ChangeSame
import Derived.OpenShut
import Derived.ShutString
import Derived.ChangeOld
import Derived.Carry
import Derived.WalkSpells
import Derived.Deep.QuietTactic
import Derived.BigQuiet
/- The word of all contracts for a world that has at most new blocks; endings by their values. -/
namespace Go.Proofs.YtignfbdgpgidpaaGreatDoor
open Go.RowKit
set_option linter.unusedVariables false
set_option linter.unusedSimpArgs false
set_option maxRecDepth 20000
def Gr (w w' : World) : Prop := Below w.heap.size w w'
theorem Gr.refl (w : World) : Gr w w := Below.refl _ _
theorem Gr.trans {a b c : World} (h : Gr a b) (k : Gr b c) : Gr a c := Below.trans h (Below.mono k h.size)
theorem Gr.of {a b : World} (h : Below a.heap.size a b) : Gr a b := h
theorem grN (w : World) (n : Nat) : Gr w (w.drewN n) := Below.trans (Gr.refl w) ⟨rfl, rfl, rfl, Nat.le_refl _, fun _ _ => rfl⟩
theorem Gr.ofDrew {a b : World} (h : Gr a.drew b) : Gr a b := Below.trans (Below.drew (Gr.refl a)) h
theorem ret_sb {a b : ByteArray} {p q : Bool} (h : a = b) (k : p = q) : Ending.returned (.tuple #[.string a, .bool p]) = .returned (.tuple #[.string b, .bool q]) := by rw [h, k]
theorem ret_s {a b : ByteArray} (h : a = b) : Ending.returned (.string a) = .returned (.string b) := by rw [h]
theorem ret_u {a b : Int} (h : a = b) : Ending.returned (.int .u32 a) = .returned (.int .u32 b) := by rw [h]
theorem ret_i {a b : Int} (h : a = b) : Ending.returned (.int .i64 a) = .returned (.int .i64 b) := by rw [h]
def I64 (n : Int) : Prop := -9223372036854775808 ≤ n ∧ n ≤ 9223372036854775807
def bs (l : List UInt8) : ByteArray := ⟨l.toArray⟩
theorem bs_toList (s : ByteArray) : bs s.data.toList = s := by
  apply ByteArray.ext; simp [bs]
theorem bs_size (l : List UInt8) : (bs l).size = l.length := by simp [bs, ByteArray.size]
theorem bs_app (a b : List UInt8) : bs a ++ bs b = bs (a ++ b) := by
  apply ByteArray.ext; simp [bs, ByteArray.data_append]
end Go.Proofs.YtignfbdgpgidpaaGreatDoor
/- What a law's arguments are, by their types: numbers, strings, slices of these and of slices, structs. -/
namespace Go.Proofs.YtignfbdgpgidpaaGreatDoor
open Go.RowKit Go.ChangeShapes Go.WideShapes Go.Deep
set_option linter.unusedVariables false
set_option linter.unusedSimpArgs false
set_option maxRecDepth 20000
def Rd (P : Program) (W : World) (t : TypeId) (c : Value) : Prop := ∃ (H : Type) (enc : TypeId × Value → H) (fuel : Nat) (y : DataW H × List MemPlace), DataW.trod enc P W 0 (fun _ => true) true fuel t [c] = some y
def RdAgg (P : Program) (W : World) (t : TypeId) (v : Value) : Prop := ∃ (fs : Array Field) (cs : Array Value), P.underlying t = some (.struct fs) ∧ v = .agg cs ∧ cs.size = fs.size ∧ ∀ (j : Nat) (f : Field), fs[j]? = some f → ∃ c, cs[j]? = some c ∧ Rd P W f.type c
theorem rd_int {P : Program} {W : World} {t : TypeId} {k : IntKind} {c : Value} (ht : P.underlying t = some (.int k)) (h : Rd P W t c) : ∃ n, c = .int k n ∧ (Lit.int k n).wf = true := by
  obtain ⟨H, enc, fuel, y, h⟩ := h
  obtain ⟨n, h1, _, h2⟩ := DataW.trod_int ht h
  exact ⟨n, by simpa using h1, h2⟩
theorem rd_string {P : Program} {W : World} {t : TypeId} {c : Value} (ht : P.underlying t = some .string) (h : Rd P W t c) : ∃ s : ByteArray, c = .string s ∧ s.size ≤ maxLen := by
  obtain ⟨H, enc, fuel, y, h⟩ := h
  obtain ⟨n, h1, _, h2⟩ := DataW.trod_string ht h
  exact ⟨n, by simpa using h1, h2⟩
theorem rd_agg {H : Type} {enc : TypeId × Value → H} {P : Program} {W : World} {t : TypeId} {fs : Array Field} {v : Value} {d : DataW H} {p : List MemPlace} {r : Reach} {b0 : Nat} (hs : P.underlying t = some (.struct fs)) (hone : oneCellFields P fs = true) (hC : P.cellsOf t = fs.size)
    (hv : Value.okWide P W r b0 t v) (h : DataW.Trod enc P W 0 (fun _ => true) true t v d p) : RdAgg P W t v := by
  obtain ⟨cs, rfl, hsz⟩ := okWide_struct hs hv
  obtain ⟨fuel, hf⟩ := h
  obtain ⟨xs, n, _, hx, _, hlen, hg⟩ := DataW.trod_struct hs hf
  refine ⟨fs, cs, hs, rfl, hsz.trans hC, fun j f hj => ?_⟩
  obtain ⟨ho, hk⟩ := hone_of hone j f hj
  have hjl : j < fs.size := (Array.getElem?_eq_some_iff.1 hj).1
  have hjc : j < cs.size := by rw [hsz, hC]; exact hjl
  refine ⟨cs[j], Array.getElem?_eq_getElem hjc, H, enc, n, xs[j]'(by omega), ?_⟩
  have h1 := hg j f hj
  rw [ho, hk] at h1
  have e1 : ((Value.agg cs).cells.toList.drop j).take 1 = [cs[j]] := by
    show (cs.toList.drop j).take 1 = _
    rw [List.drop_eq_getElem_cons (by simpa using hjc)]
    rfl
  rw [e1] at h1
  rw [h1, List.getElem?_eq_getElem (by omega)]
end Go.Proofs.YtignfbdgpgidpaaGreatDoor
/- Plain facts on a disk of files, without the model: what a disk is, and what each call makes of it. -/
namespace Go.Proofs.YtignfbdgpgidpaaGreatDoor
set_option linter.unusedVariables false
namespace FsPlain
structure F where
  name : List UInt8
  data : List UInt8
  kept : Nat
structure St where
  room : Int
  calls : Int
  ahead : Int
  down : Bool
  fs : List F
def letterB (c : UInt8) : Bool := decide ((97 ≤ (c.toNat : Int) ∧ (c.toNat : Int) ≤ 122) ∨ (48 ≤ (c.toNat : Int) ∧ (c.toNat : Int) ≤ 57) ∨ (c.toNat : Int) = 46)
def rightB (l : List UInt8) : Bool := l.all letterB && decide (1 ≤ l.length ∧ l.length ≤ 24)
def St.call (s : St) : St := { s with calls := s.calls + 1, down := s.down || decide (s.ahead = 0), ahead := max (s.ahead - 1) (-1) }
def St.code (s : St) : Int := if s.down = true then 5 else 0
def St.get (s : St) (n : List UInt8) : Option F := s.fs.find? fun f => f.name == n
def used (l : List F) : Nat := (l.map fun f => f.data.length).sum
def St.upd (s : St) (n : List UInt8) (g : F → F) : St := { s with fs := s.fs.map fun f => if f.name = n then g f else f }
def fall (f : F) (k : Int) : F := { f with kept := f.kept + min (max k 0).toNat (f.data.length - f.kept), data := f.data.take (f.kept + min (max k 0).toNat (f.data.length - f.kept)) }
structure St.ok (s : St) : Prop where
  r0 : 0 ≤ s.room
  r1 : s.room ≤ 16777216
  c0 : 0 ≤ s.calls
  a0 : -1 ≤ s.ahead
  a1 : s.ahead ≤ 9223372036854775807
  u : (used s.fs : Int) ≤ s.room
  k : ∀ f ∈ s.fs, f.kept ≤ f.data.length
  n : ∀ f ∈ s.fs, f.name.length ≤ 24
  m : s.fs.length ≤ 200
  d : s.fs.Pairwise fun x y => x.name ≠ y.name
theorem ok_call {s : St} (h : s.ok) : s.call.ok := by
  refine ⟨h.r0, h.r1, ?_, ?_, ?_, h.u, h.k, h.n, h.m, h.d⟩
  · have := h.c0; show 0 ≤ s.calls + 1; omega
  · show -1 ≤ max (s.ahead - 1) (-1); omega
  · have := h.a1; show max (s.ahead - 1) (-1) ≤ _; omega
theorem used_le {l : List F} {f : F} (h : f ∈ l) : f.data.length ≤ used l := by
  unfold used
  induction l with
  | nil => cases h
  | cons a r ih =>
    simp only [List.map_cons, List.sum_cons]
    rcases List.mem_cons.1 h with rfl | h
    · omega
    · have := ih h; omega
theorem find_split {α : Type} {p : α → Bool} {l : List α} {x : α} (h : l.find? p = some x) : ∃ a c, l = a ++ x :: c ∧ p x = true ∧ ∀ y ∈ a, p y = false := by
  obtain ⟨h1, a, c, rfl, h2⟩ := List.find?_eq_some_iff_append.1 h
  exact ⟨a, c, rfl, h1, fun y hy => by simpa using h2 y hy⟩
theorem upd_list {n : List UInt8} {g : F → F} : ∀ {A C : List F} {f : F}, f.name = n → (∀ y ∈ A, y.name ≠ n) → (∀ y ∈ C, y.name ≠ n) →
    (A ++ f :: C).map (fun f => if f.name = n then g f else f) = A ++ g f :: C := by
  intro A C f hf hA hC
  rw [List.map_append, List.map_cons, if_pos hf]
  congr 1
  · rw [List.map_congr_left (g := id) (fun y hy => by rw [if_neg (hA y hy)]; rfl)]; simp
  · congr 1
    rw [List.map_congr_left (g := id) (fun y hy => by rw [if_neg (hC y hy)]; rfl)]; simp
theorem get_split {s : St} (h : s.ok) {n : List UInt8} {f : F} (hf : s.get n = some f) : ∃ A C, s.fs = A ++ f :: C ∧ f.name = n ∧ (∀ y ∈ A, y.name ≠ n) ∧ (∀ y ∈ C, y.name ≠ n) ∧ ∀ g, (s.upd n g).fs = A ++ g f :: C := by
  obtain ⟨A, C, e, h1, h2⟩ := find_split hf
  have hn : f.name = n := by simpa using h1
  have hA : ∀ y ∈ A, y.name ≠ n := fun y hy => by simpa using h2 y hy
  have hC : ∀ y ∈ C, y.name ≠ n := by
    have hp := h.d
    rw [e, List.pairwise_append] at hp
    have := (List.pairwise_cons.1 hp.2.1).1
    intro y hy e2
    exact this y hy (by rw [hn, e2])
  refine ⟨A, C, e, hn, hA, hC, fun g => ?_⟩
  show s.fs.map _ = _
  rw [e]
  exact upd_list hn hA hC
theorem get_mem {s : St} {n : List UInt8} {f : F} (hf : s.get n = some f) : f ∈ s.fs := List.mem_of_find?_eq_some hf
theorem used_split (A C : List F) (f g : F) : used (A ++ g :: C) + f.data.length = used (A ++ f :: C) + g.data.length := by
  unfold used
  simp only [List.map_append, List.map_cons, List.sum_append, List.sum_cons]
  omega
theorem ok_upd {s : St} (h : s.ok) {n : List UInt8} {g : F → F} {f : F} (hf : s.get n = some f) (hn : (g f).name = f.name) (hk : (g f).kept ≤ (g f).data.length) (hu : (used s.fs : Int) + (g f).data.length ≤ s.room + f.data.length) : (s.upd n g).ok := by
  obtain ⟨A, C, e, h1, hA, hC, hg⟩ := get_split h hf
  have hs := used_split A C f (g f)
  have hfu := used_le (get_mem hf)
  refine ⟨h.r0, h.r1, h.c0, h.a0, h.a1, ?_, ?_, ?_, ?_, ?_⟩
  · rw [hg g]; rw [e] at hu hfu; show ((used (A ++ g f :: C) : Nat) : Int) ≤ s.room; omega
  · intro y hy
    rw [hg g] at hy
    rcases List.mem_append.1 hy with hy | hy
    · exact h.k y (by rw [e]; simp [hy])
    · rcases List.mem_cons.1 hy with rfl | hy
      · exact hk
      · exact h.k y (by rw [e]; simp [hy])
  · intro y hy
    rw [hg g] at hy
    rcases List.mem_append.1 hy with hy | hy
    · exact h.n y (by rw [e]; simp [hy])
    · rcases List.mem_cons.1 hy with rfl | hy
      · rw [hn]; exact h.n f (get_mem hf)
      · exact h.n y (by rw [e]; simp [hy])
  · rw [hg g]; have := h.m; rw [e] at this; simpa using this
  · rw [hg g]
    have hp := h.d
    rw [e] at hp
    rw [List.pairwise_append, List.pairwise_cons] at hp ⊢
    refine ⟨hp.1, ⟨fun y hy => by rw [hn]; exact hp.2.1.1 y hy, hp.2.1.2⟩, fun a ha b hb => ?_⟩
    rcases List.mem_cons.1 hb with rfl | hb
    · rw [hn]; exact hp.2.2 a ha f (by simp)
    · exact hp.2.2 a ha b (by simp [hb])
def sizeR (s : St) (n : List UInt8) : Int × Int := if s.call.down = true then (0, 5) else match s.get n with | none => (0, 2) | some f => (f.data.length, 0)
def syncR (s : St) (n : List UInt8) : St × Int := if s.call.down = true then (s.call, 5) else match s.get n with | none => (s.call, 2) | some f => (s.call.upd n (fun f => { f with kept := f.data.length }), 0)
def readR (s : St) (n : List UInt8) (i k : Nat) : List UInt8 × Int := if s.call.down = true then ([], 5) else match s.get n with | none => ([], 2) | some f => if f.data.length < i + k then ([], 10) else ((f.data.drop i).take k, 0)
def appendR (s : St) (n t : List UInt8) : St × Int := if s.call.down = true then (s.call, 5) else match s.get n with | none => (s.call, 2) | some f => if s.room < used s.fs + t.length then (s.call, 4) else (s.call.upd n (fun f => { f with data := f.data ++ t }), 0)
def insF (f : F) : List F → List F
  | [] => [f]
  | y :: r => if (Lit.string f.name).before (.string y.name) = true then f :: y :: r else y :: insF f r
theorem insF_perm (f : F) : ∀ l, (insF f l).Perm (f :: l)
  | [] => List.Perm.refl _
  | y :: r => by
    unfold insF
    split
    · exact List.Perm.refl _
    · exact ((insF_perm f r).cons y).trans (List.Perm.swap _ _ _)
def createR (s : St) (n : List UInt8) : St × Int := if s.call.down = true then (s.call, 5) else match s.get n with | some _ => (s.call, 3) | none => if 200 ≤ s.fs.length then (s.call, 4) else ({ s.call with fs := insF ⟨n, [], 0⟩ s.fs }, 0)
theorem used_perm {l l' : List F} (h : l.Perm l') : used l = used l' := (h.map _).sum_nat
theorem ok_create {s : St} (h : s.ok) {n : List UInt8} (hg : s.get n = none) (hn : n.length ≤ 24) (hm : s.fs.length < 200) : ({ s with fs := insF ⟨n, [], 0⟩ s.fs } : St).ok := by
  have hp := insF_perm ⟨n, [], 0⟩ s.fs
  have hne : ∀ y ∈ s.fs, y.name ≠ n := fun y hy e => by
    have := List.find?_eq_none.1 hg y hy
    simp [e] at this
  refine ⟨h.r0, h.r1, h.c0, h.a0, h.a1, ?_, ?_, ?_, ?_, ?_⟩
  · have := used_perm hp; show ((used (insF _ _) : Nat) : Int) ≤ _; rw [this]; have := h.u; unfold used at *; simp; exact this
  · intro y hy
    rcases List.mem_cons.1 (hp.mem_iff.1 hy) with rfl | hy
    · simp
    · exact h.k y hy
  · intro y hy
    rcases List.mem_cons.1 (hp.mem_iff.1 hy) with rfl | hy
    · exact hn
    · exact h.n y hy
  · have := hp.length_eq; show (insF _ _).length ≤ _; rw [this]; simp; omega
  · show (insF _ _).Pairwise _
    rw [hp.pairwise_iff (fun {a b} (h : a.name ≠ b.name) => h.symm)]
    exact List.pairwise_cons.2 ⟨fun y hy e => hne y hy e.symm, h.d⟩
end FsPlain
end Go.Proofs.YtignfbdgpgidpaaGreatDoor
/- The contract of letter: is it a letter of a name? -/
namespace Go.Proofs.YtignfbdgpgidpaaGreatDoor
open Go.RowKit FsPlain
set_option linter.unusedVariables false
set_option linter.unusedSimpArgs false
set_option maxRecDepth 20000
theorem letter_c (c : UInt8) (w : World) : Calls Tryz.prog 82 #[.int .u8 c.toNat] w fun e w' => e = .returned (.bool (letterB c)) ∧ w = w' := by
  have hb : c.toNat < 256 := c.toNat_lt
  obtain ⟨n, hn⟩ : ∃ n, n = letterB c := ⟨_, rfl⟩
  have hn' := hn
  unfold letterB at hn'
  rw [← hn]
  have HN := Lib.hid hn
  have HN' := Lib.hid hn'
  clear hn hn'
  by_cases h1 : 97 ≤ (c.toNat : Int) <;> by_cases h2 : (c.toNat : Int) ≤ 122 <;> by_cases h3 : 48 ≤ (c.toNat : Int) <;> by_cases h4 : (c.toNat : Int) ≤ 57 <;> by_cases h5 : (c.toNat : Int) = 46
  all_goals first
    | (exfalso; omega)
    | (have t5 : ((c.toNat : Int) == 46) = true := by simp [h5]
       go_enter Tryz.func82, Tryz.ntmps82
       go_wp2_with fail
       go_ret
       exact ⟨by rw [HN'.out]; simp [*], rfl⟩)
    | (have t5 : ((c.toNat : Int) == 46) = false := by simp [h5]
       go_enter Tryz.func82, Tryz.ntmps82
       go_wp2_with fail
       go_ret
       exact ⟨by rw [HN'.out]; simp [*], rfl⟩)
end Go.Proofs.YtignfbdgpgidpaaGreatDoor
/- The contract of Right: is it a name? By a walk of its loop. -/
namespace Go.Proofs.YtignfbdgpgidpaaGreatDoor
open Go.RowKit FsPlain
set_option linter.unusedVariables false
set_option linter.unusedSimpArgs false
set_option maxRecDepth 20000
theorem ret_fb {a b : Bool} (h : a = b) : Ending.returned (.bool a) = .returned (.bool b) := by rw [h]
theorem all_take (l : List UInt8) (k : Nat) (h : k < l.length) : (l.take (k + 1)).all letterB = ((l.take k).all letterB && letterB l[k]) := by
  rw [List.take_succ_eq_append_getElem h, List.all_append]; simp
theorem all_no (l : List UInt8) (k : Nat) (h : k < l.length) (hl : letterB l[k] = false) : l.all letterB = false := by
  rw [List.all_eq_false]; exact ⟨l[k], List.getElem_mem h, by simp [hl]⟩
theorem right_len (l : List UInt8) (h : l.all letterB = true) : rightB l = decide (1 ≤ l.length ∧ l.length ≤ 24) := by unfold rightB; rw [h]; rfl
theorem right_no (l : List UInt8) (h : l.all letterB = false) : rightB l = false := by unfold rightB; rw [h]; rfl
set_option maxRecDepth 20000 in
set_option maxHeartbeats 1000000 in
theorem right_c (s : ByteArray) (hs : s.size ≤ maxLen) (w : World) :
    Calls Tryz.prog 51 #[.string s] w fun e w' => e = .returned (.bool (rightB s.data.toList)) ∧ w = w' := by
  have hsz : s.data.toList.length = s.size := rfl
  unfold maxLen at hs
  obtain ⟨r, hr⟩ : ∃ r, r = rightB s.data.toList := ⟨_, rfl⟩
  rw [← hr]
  have HR := Lib.hid hr
  have HSZ := Lib.hid hsz
  clear hr hsz
  go_enter Tryz.func51, Tryz.ntmps51
  go_wp2_with fail
  go_loop [6] (fun i => ∃ k : Nat, k ≤ s.size ∧ i = .int .i64 k ∧ (s.data.toList.take k).all letterB = true) (fun i => s.size - (intOf i).toNat)
  case atStart => exact ⟨0, Nat.zero_le _, rfl, rfl⟩
  case round =>
    obtain ⟨k, hk, rfl, hall⟩ := hrel
    have HALL := Lib.hid hall
    clear hall
    by_cases hlt : k < s.size
    · have hlt' : k < s.data.toList.length := by rw [HSZ.out]; exact hlt
      have hstep := all_take _ k hlt'
      have hno := all_no _ k hlt'
      have hsame : s.data.toList[k] = s[k] := by simp; rfl
      rw [hsame] at hstep hno
      rw [HALL.out] at hstep
      have C := fun w => letter_c s[k] w
      cases hl : letterB s[k]
      · rw [hl] at C
        have hrf := right_no _ (hno hl)
        rw [← HR.out] at hrf
        have HL := Lib.hid hl
        clear hl hstep hno hsame
        subst hrf
        go_wp2_with fail
        refine (C _).mono ?_; rintro e w2 ⟨rfl, rfl⟩
        go_wp2_with fail
        go_ret
        exact ⟨rfl, rfl⟩
      · rw [hl] at C hstep
        have HST := Lib.hid hstep
        clear hl hstep hno hsame
        go_wp2_with fail
        refine (C _).mono ?_; rintro e w2 ⟨rfl, rfl⟩
        go_wp2_with fail
        go_round
        case rel => exact ⟨k + 1, by omega, by go_num, HST.out⟩
        case measure => simp [intOf]; omega
    · have hke : k = s.size := by omega
      have hr2 := right_len s.data.toList (by have := HALL.out; rw [hke, ← HSZ.out, List.take_length] at this; exact this)
      rw [← HR.out, HSZ.out] at hr2
      have HR2 := Lib.hid hr2
      clear hr2 hke
      by_cases h1 : 1 ≤ s.size <;> by_cases h2 : s.size ≤ 24
      all_goals
        go_wp2_with fail
        all_goals
          go_ret
          exact ⟨ret_fb (by rw [HR2.out]; first | (rw [decide_eq_decide]; omega) | (rw [eq_comm, decide_eq_false_iff_not]; omega) | (rw [eq_comm, decide_eq_true_iff]; omega)), rfl⟩
end Go.Proofs.YtignfbdgpgidpaaGreatDoor
