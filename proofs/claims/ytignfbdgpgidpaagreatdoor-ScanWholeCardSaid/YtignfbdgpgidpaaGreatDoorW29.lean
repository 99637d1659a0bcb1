/- In one text: CmRef, FlPart, CmLoad, CmFact, RfsRiseK, CmArg, FsA, CmFew, CmTwo, CmCalls, ScWh3. -/
import Derived.Test.YtignfbdgpgidpaaGreatDoorW20
import Derived.Test.YtignfbdgpgidpaaGreatDoorW23
import Derived.Test.YtignfbdgpgidpaaGreatDoorW28
import Derived.Test.YtignfbdgpgidpaaGreatDoorW22
import Derived.Test.YtignfbdgpgidpaaGreatDoorW24
import Derived.BigQuiet
import Derived.Test.YtignfbdgpgidpaaGreatDoorW19
import Derived.Test.YtignfbdgpgidpaaGreatDoorW04
/- The document's answers of layer 20: Save. -/
namespace Go.Proofs.YtignfbdgpgidpaaGreatDoor
open Go.RowKit FsPlain CrcPlain OctPlain MnPlain CmPlain
set_option linter.unusedVariables false
set_option linter.unusedSimpArgs false
set_option maxRecDepth 20000
namespace CmPlain
end CmPlain
def nameS : ByteArray := ⟨#[109, 97, 110, 105, 102, 101, 115, 116]⟩
end Go.Proofs.YtignfbdgpgidpaaGreatDoor
/- A slice of files as a part. -/
namespace Go.Proofs.YtignfbdgpgidpaaGreatDoor
open Go.RowKit FsPlain MnPlain
set_option linter.unusedVariables false
set_option linter.unusedSimpArgs false
set_option maxRecDepth 20000
def FlA (v : Value) (l : List Fl) : Asn := fun w B => LiesFl w v l ∧ (∀ b, B b → b < w.heap.size) ∧ (l = [] ∨ ∃ b o n c, v = .slice (some ⟨b, o, none⟩) n c ∧ B b)
theorem fr_fl (v : Value) (l : List Fl) : Fr (FlA v l) where
  fr := fun {w w' B C} ⟨h, hl, hb⟩ o d => by
    refine ⟨?_, fun b hb => Nat.lt_of_lt_of_le (hl b hb) o.size, hb⟩
    obtain ⟨a, c, e, hc, h⟩ := h
    rcases h with h | ⟨b, off, e2, k⟩
    · exact ⟨a, c, e, hc, .inl h⟩
    · rcases hb with hb | ⟨b', o', n', c', e3, hB⟩
      · exact ⟨a, c, e, hc, .inl hb⟩
      · rw [e, e2] at e3
        simp only [Value.slice.injEq, Option.some.injEq, Addr.mk.injEq] at e3
        obtain ⟨⟨hbb, _, _⟩, _, _⟩ := e3
        have hn : ¬ C b := by rw [hbb]; exact d b' hB
        refine ⟨a, c, e, hc, .inr ⟨b, off, e2, Nat.lt_of_lt_of_le k.1 o.size, fun j x hj => ?_⟩⟩
        obtain ⟨k0, k1, k2, k3⟩ := k.2 j x hj
        exact ⟨(o.cell (p := ⟨b, _, none⟩) k.1 hn).trans k0, (o.cell (p := ⟨b, _, none⟩) k.1 hn).trans k1, (o.cell (p := ⟨b, _, none⟩) k.1 hn).trans k2, (o.cell (p := ⟨b, _, none⟩) k.1 hn).trans k3⟩
  lo := fun ⟨_, hl, _⟩ => hl
theorem fl_new {w w' : World} {v : Value} {l : List Fl} (h : LiesFl w' v l) (hn : NewFl w v) : ∃ B, FlA v l w' B ∧ ∀ b, B b → w.heap.size ≤ b := by
  obtain ⟨a, c, e, hc, k⟩ := id h
  rcases k with k | ⟨b, off, e2, k⟩
  · exact ⟨fun _ => False, ⟨h, fun b hb => hb.elim, .inl k⟩, fun b hb => hb.elim⟩
  · refine ⟨fun x => x = b, ⟨h, fun x hx => by rw [hx]; exact k.1, .inr ⟨b, off, _, c, by rw [e, e2], rfl⟩⟩, fun x hx => ?_⟩
    rw [hx]
    exact hn ⟨b, off, none⟩ _ _ (by rw [e, e2])
theorem fl_lies {w : World} {B : Nat → Prop} {v : Value} {l : List Fl} (h : FlA v l w B) : LiesFl w v l := h.1
end Go.Proofs.YtignfbdgpgidpaaGreatDoor
/- The document's answers of layer 20: Load. -/
namespace Go.Proofs.YtignfbdgpgidpaaGreatDoor
open Go.RowKit FsPlain CrcPlain OctPlain MnPlain CmPlain
set_option linter.unusedVariables false
set_option linter.unusedSimpArgs false
set_option maxRecDepth 20000
theorem results_cell_tmp2 {fn : Func} {p u v : Tmp} {ty : TypeId} (h : fn.results = #[.cell p ty, .tmp u, .tmp v]) (tmps : Array Value) (P : Program) (w : World) :
    (results fn tmps).run P w =
      ((asAddr (tmps.getD p undef)).run P w).andThen fun a w₁ => ((loadVar ty a).run P w₁).andThen fun x w₂ => .ok (.tuple #[x, tmps.getD u undef, tmps.getD v undef]) w₂ := by
  simp only [results, h]
  simp [Sem.run_bind, Result.andThen]
theorem mn_results3 {fn : Func} {p q r : Tmp} (hfn : fn.results = #[.cell p 27, .tmp q, .tmp r]) {tmps : Array Value} {o : Nat} {x y z v u : Value} {w : World} (hp : tmps.getD p undef = .pointer (some ⟨o, 0, none⟩)) (hv : tmps.getD q undef = v) (hu : tmps.getD r undef = u) (hb : w.heap[o]? = some (.cells #[x, y, z] 27 (0, 0))) :
    (results fn tmps).run Tryz.prog w = .ok (.tuple #[.agg #[x, y, z], v, u]) w := by
  have c0 : w.cell? ⟨o, 0, none⟩ = some x := by rw [cells_at hb]; rfl
  have c1 : w.cell? ⟨o, 1, none⟩ = some y := by rw [cells_at hb]; rfl
  have c2 : w.cell? ⟨o, 2, none⟩ = some z := by rw [cells_at hb]; rfl
  rw [results_cell_tmp2 hfn, hp, hv, hu]
  simp [go_sem, c0, c1, c2]
namespace CmPlain
def ldIs (r : Int × Option (List UInt8)) (m : Mn) (b : Bool) (code : Int) : Prop := (r.2 = none ∧ m = ⟨0, 0, []⟩ ∧ b = false ∧ code = r.1) ∨ ∃ t, r.2 = some t ∧ ((b = true ∧ mnIs (bs t) m ∧ code = 0) ∨ (b = false ∧ m = ⟨0, 0, []⟩ ∧ (∀ m', ¬ mnIs (bs t) m') ∧ code = 6))
theorem ldIs_one {r : Int × Option (List UInt8)} {m m' : Mn} {b b' : Bool} {c c' : Int} (h : ldIs r m b c) (h' : ldIs r m' b' c') : m' = m ∧ b' = b ∧ c' = c := by
  rcases h with ⟨h0, rfl, rfl, rfl⟩ | ⟨t, h0, h⟩ <;> rcases h' with ⟨h1, rfl, rfl, rfl⟩ | ⟨t', h1, h'⟩
  · exact ⟨rfl, rfl, rfl⟩
  · rw [h0] at h1; cases h1
  · rw [h0] at h1; cases h1
  · rw [h0] at h1
    cases h1
    rcases h with ⟨rfl, h, rfl⟩ | ⟨rfl, rfl, h, rfl⟩ <;> rcases h' with ⟨rfl, h', rfl⟩ | ⟨rfl, rfl, h', rfl⟩
    · exact ⟨mnIs_one h' h, rfl, rfl⟩
    · exact absurd h (h' _)
    · exact absurd h' (h _)
    · exact ⟨rfl, rfl, rfl⟩
end CmPlain
def LdGot (T : Asn) (s : St) (B : Nat → Prop) (w : World) (e : Ending) (w' : World) : Prop := ∃ (m : Mn) (a : Option Addr) (c : Nat) (b : Bool) (code : Int), e = .returned (.tuple #[.agg #[.int .i64 m.stage, .int .i64 m.pass, .slice a m.files.length c], .bool b, .int .i64 code]) ∧ m.files.length ≤ maxLen ∧ ldIs (loadE s) m b code ∧ ∃ B', star (FlA (.slice a m.files.length c) m.files) T w' B' ∧ Nx B w B' w'
theorem ld_star {T : Asn} (hT : Fr T) {B B1 : Nat → Prop} {w u w' : World} {v : Value} {l : List Fl} (h : LiesFl w' v l) (hn : NewFl u v) (low : ∀ b, B1 b → b < u.heap.size) (t : T w' B1) (n : Nx B w B1 w') (g : w.heap.size ≤ u.heap.size) : ∃ B', star (FlA v l) T w' B' ∧ Nx B w B' w' := by
  obtain ⟨B2, k, hk⟩ := fl_new h hn
  refine ⟨fun b => B2 b ∨ B1 b, ⟨B2, B1, k, t, fun b h2 h1 => ?_, fun _ => Iff.rfl⟩, n.only, fun b hb => ?_⟩
  · have := hk b h2; have := low b h1; omega
  · rcases hb with hb | hb
    · have := hk b hb; exact .inr (by omega)
    · exact n.new b hb
theorem ld_nil {T : Asn} {B B1 : Nat → Prop} {w w' : World} (t : T w' B1) (n : Nx B w B1 w') : ∃ B', star (FlA (.slice none ([] : List Fl).length 0) []) T w' B' ∧ Nx B w B' w' :=
  ⟨B1, ⟨fun _ => False, B1, ⟨liesFl_nil w', fun _ h => h.elim, .inl rfl⟩, t, fun _ h => h.elim, fun b => (false_or _).symm ▸ Iff.rfl⟩, n⟩
theorem ld_none {T : Asn} {B : Nat → Prop} {s : St} {w w' : World} {code : Int} (h : loadE s = (code, none)) (k : ∃ B', T w' B' ∧ Nx B w B' w') : LdGot T s B w (.returned (.tuple #[.agg #[.int .i64 0, .int .i64 0, .slice none 0 0], .bool false, .int .i64 code])) w' := by
  obtain ⟨B', t, n⟩ := k
  exact ⟨⟨0, 0, []⟩, none, 0, false, code, rfl, by unfold maxLen; simp, .inl ⟨by rw [h], rfl, rfl, by rw [h]⟩, ld_nil t n⟩
theorem ld_bad {T : Asn} {B : Nat → Prop} {s : St} {w w' : World} {t : List UInt8} (h : loadE s = (0, some t)) (hn : ∀ m, ¬ mnIs (bs t) m) (k : ∃ B', T w' B' ∧ Nx B w B' w') : LdGot T s B w (.returned (.tuple #[.agg #[.int .i64 0, .int .i64 0, .slice none 0 0], .bool false, .int .i64 6])) w' := by
  obtain ⟨B', q, n⟩ := k
  exact ⟨⟨0, 0, []⟩, none, 0, false, 6, rfl, by unfold maxLen; simp, .inr ⟨t, by rw [h], .inr ⟨rfl, rfl, hn, rfl⟩⟩, ld_nil q n⟩
theorem ld_good {T : Asn} {B : Nat → Prop} {s : St} {w w' : World} {t : List UInt8} {m : Mn} {a : Option Addr} {c : Nat} (h : loadE s = (0, some t)) (hm : mnIs (bs t) m) (hz : m.files.length ≤ maxLen) (k : ∃ B', star (FlA (.slice a m.files.length c) m.files) T w' B' ∧ Nx B w B' w') : LdGot T s B w (.returned (.tuple #[.agg #[.int .i64 m.stage, .int .i64 m.pass, .slice a m.files.length c], .bool true, .int .i64 0])) w' := ⟨m, a, c, true, 0, rfl, hz, .inr ⟨t, by rw [h], .inl ⟨rfl, hm, rfl⟩⟩, k⟩
theorem LiesFl.stay2 {w w' : World} {v : Value} {l : List Fl} {q : Nat} {T : TypeId} (h : LiesFl w v l) (hq : w.heap[q]? = some (.cells #[.int .i64 0, .int .i64 0, .slice none 0 0] T (0, 0))) (o : Only (fun i => i = q) w w') : LiesFl w' v l := by
  cases l with
  | nil =>
    obtain ⟨a, c, e, hc, _⟩ := h
    exact ⟨a, c, e, hc, .inl rfl⟩
  | cons x r =>
    refine h.stay o fun b n c e => ?_
    obtain ⟨a', c', e', _, h⟩ := h
    rcases h with h | ⟨b', off, e2, hr⟩
    · cases h
    · rw [e'] at e
      simp only [Value.slice.injEq] at e
      rw [e2] at e
      obtain ⟨e3, _, _⟩ := e
      have hb : b = ⟨b', off, none⟩ := (Option.some.inj e3).symm
      subst hb
      intro hbq
      have hbq' : b' = q := hbq
      subst hbq'
      have k := (hr.2 0 x rfl).1
      rw [cells_at hq] at k
      match off, k with
      | 0, k => simp at k
      | 1, k => simp at k
      | 2, k => simp at k
      | off + 3, k => simp at k
theorem size_nat (s : St) (n : List UInt8) : ∃ k : Nat, (sizeR s n).1 = (k : Int) ∧ k ≤ used s.fs := by
  unfold sizeR
  split
  · exact ⟨0, rfl, Nat.zero_le _⟩
  · split
    · exact ⟨0, rfl, Nat.zero_le _⟩
    · next f hf => exact ⟨f.data.length, rfl, used_le (get_mem hf)⟩
end Go.Proofs.YtignfbdgpgidpaaGreatDoor
/- Plain facts of commit: the files that it writes stay small. -/
namespace Go.Proofs.YtignfbdgpgidpaaGreatDoor
open Go.RowKit FsPlain
set_option linter.unusedVariables false
set_option linter.unusedSimpArgs false
namespace CmPlain
def Sm (s : St) (n : List UInt8) : Prop := ∀ f, s.get n = some f → f.data.length ≤ 700
theorem Sm.same {s t : St} {n : List UInt8} (h : Sm s n) (e : t.get n = s.get n) : Sm t n := fun f hf => h f (by rw [← e]; exact hf)
end CmPlain
end Go.Proofs.YtignfbdgpgidpaaGreatDoor
/- The document's disk: Rise with whatever stays. -/
namespace Go.Proofs.YtignfbdgpgidpaaGreatDoor
open Go.RowKit FsPlain
set_option linter.unusedVariables false
set_option linter.unusedSimpArgs false
set_option maxRecDepth 20000
end Go.Proofs.YtignfbdgpgidpaaGreatDoor
/- An argument that is a slice of tries: a manifest, a fall, what stays. -/
namespace Go.Proofs.YtignfbdgpgidpaaGreatDoor
open Go.RowKit Go.ChangeShapes Go.WideShapes Go.Deep MnPlain
set_option linter.unusedVariables false
set_option linter.unusedSimpArgs false
set_option maxRecDepth 20000
end Go.Proofs.YtignfbdgpgidpaaGreatDoor
/- The program's disk as a part of a world: what its other calls leave. -/
namespace Go.Proofs.YtignfbdgpgidpaaGreatDoor
open Go.RowKit Go.Maps FsPlain
set_option linter.unusedVariables false
set_option linter.unusedSimpArgs false
set_option maxRecDepth 20000
end Go.Proofs.YtignfbdgpgidpaaGreatDoor
/- Few tries; what else a law of commit asks of both disks. -/
namespace Go.Proofs.YtignfbdgpgidpaaGreatDoor
open Go.RowKit FsPlain MnPlain
set_option linter.unusedVariables false
set_option linter.unusedSimpArgs false
set_option maxRecDepth 20000
end Go.Proofs.YtignfbdgpgidpaaGreatDoor
/- Both disks of a law of commit, apart from one another: each call on either. -/
namespace Go.Proofs.YtignfbdgpgidpaaGreatDoor
open Go.RowKit FsPlain CrcPlain OctPlain MnPlain CmPlain
set_option linter.unusedVariables false
set_option linter.unusedSimpArgs false
set_option maxRecDepth 20000
def Pl20 (p d : Nat) (s t : St) (M : List Asn) (w wr : World) : Prop := Ps (DiskA p s :: RDiskA d t :: M) w wr
theorem Pl20.set3 {p d : Nat} {s t : St} {M : List Asn} {w u : World} {X : Nat} {c : Array Value} {T : TypeId} (h : Pl20 p d s t M w u) (i : Nat) (hi : M[i]? = some (Blk X c T)) (hc : c.size = 3) (x y z : Value) : Pl20 p d s t (M.set i (Blk X #[x, y, z] T)) w (((u.setCell ⟨X, 0, none⟩ x).setCell ⟨X, 1, none⟩ y).setCell ⟨X, 2, none⟩ z) := Qs.set3 h (i + 2) hi hc x y z
def LdTells (s : St) (R : List Asn → World → Prop) (e : Ending) (w' : World) : Prop := ∃ (m : Mn) (a : Option Addr) (c : Nat) (b : Bool) (code : Int), e = .returned (.tuple #[.agg #[.int .i64 m.stage, .int .i64 m.pass, .slice a m.files.length c], .bool b, .int .i64 code]) ∧ m.files.length ≤ maxLen ∧ ldIs (loadE s) m b code ∧ R [FlA (.slice a m.files.length c) m.files] w'
theorem ps_load {F : FuncId} {args : Array Value} {P T : Asn} {L : List Asn} {s : St} {w u : World} (h : Ps (P :: L) w u) (hT : Fr T) (C : ∀ B1, P u B1 → Calls Tryz.prog F args u (LdGot T s B1 u)) : Calls Tryz.prog F args u (LdTells s fun M w' => Ps (T :: (L ++ M)) w w') := by
  obtain ⟨hF, B, ⟨B1, B2, p, r, a, e⟩, n⟩ := h
  refine (C B1 p).mono ?_
  rintro e' w' ⟨m, a', c, b, code, rfl, hl, hld, B', q, n1⟩
  refine ⟨m, a', c, b, code, rfl, hl, hld, ?_⟩
  obtain ⟨B3, h3, n3⟩ := star_of (fr_stars hF.2) r a e q n1
  refine Qs.perm (L := FlA (.slice a' m.files.length c) m.files :: T :: L) ⟨⟨fr_fl _ _, hT, hF.2⟩, B3, star_left h3, n.trans n3⟩ ?_
  exact (List.Perm.swap _ _ _).trans (List.Perm.cons _ (List.perm_append_singleton _ _).symm)
end Go.Proofs.YtignfbdgpgidpaaGreatDoor
/- Both disks of a law of commit: what the law asks of them beside Save, Load, Arm, Rise. -/
namespace Go.Proofs.YtignfbdgpgidpaaGreatDoor
open Go.RowKit FsPlain CrcPlain OctPlain MnPlain CmPlain
set_option linter.unusedVariables false
set_option linter.unusedSimpArgs false
set_option maxRecDepth 20000
end Go.Proofs.YtignfbdgpgidpaaGreatDoor
/- For ScanWhole: the two disks and the budget as three parts, and what the law asks of them. -/
namespace Go.Proofs.YtignfbdgpgidpaaGreatDoor
open Go.RowKit FsPlain CrcPlain OctPlain FramePlain RecPlain CmPlain
set_option linter.unusedVariables false
set_option linter.unusedSimpArgs false
set_option maxRecDepth 20000
def W3 (p q d : Nat) (s : St) (b : Bu) (t : St) (M : List Asn) (w u : World) : Prop := Ps (DiskA p s :: BuA q b :: RDiskA d t :: M) w u
structure Wd (s : St) (S T : List UInt8) (K : Int) : Prop where
  fs : s.fs = [⟨[97], S, 0⟩, ⟨[98], T, 0⟩]
  room : s.room = 1048576
  down : s.down = false
  ahead : s.ahead = -1
  calls : s.calls ≤ K
structure Bz (b : Bu) : Prop where
  m : b.m = 4
  now : b.now = 0
  high : b.high ≤ 4
def WholeB (D : List UInt8) (size count sum : Int) : Prop := ∃ L, IsFile size (bs D) L ∧ (L.length : Int) = count ∧ ((sumN L : Nat) : Int) = sum
namespace Wd
variable {s : St} {S T : List UInt8} {K : Int}
theorem get_a (h : Wd s S T K) : s.get [97] = some ⟨[97], S, 0⟩ := by unfold St.get; rw [h.fs]; rfl
theorem get_b (h : Wd s S T K) : s.get [98] = some ⟨[98], T, 0⟩ := by unfold St.get; rw [h.fs]; rfl
theorem get_c (h : Wd s S T K) : s.get [99] = none := by unfold St.get; rw [h.fs]; rfl
theorem quiet {s' : St} (h : Wd s S T K) (q : RdPlain.Quiet s s') {K' : Int} (hc : s'.calls ≤ K') : Wd s' S T K' := ⟨q.fs.trans h.fs, q.room.trans h.room, (q.calm h.down h.ahead).1, (q.calm h.down h.ahead).2, hc⟩
theorem whole_a (h : Wd s S T K) {size count sum : Int} : WholeIs s [97] size count sum ↔ WholeB S size count sum := by
  unfold WholeIs WholeB bytes22
  rw [h.get_a]
  exact ⟨fun k => k.2, fun k => ⟨rfl, k⟩⟩
theorem whole_b (h : Wd s S T K) {size count sum : Int} : WholeIs s [98] size count sum ↔ WholeB T size count sum := by
  unfold WholeIs WholeB bytes22
  rw [h.get_b]
  exact ⟨fun k => k.2, fun k => ⟨rfl, k⟩⟩
theorem call (h : Wd s S T K) : s.call.down = false := by
  unfold St.call
  simp [h.down, h.ahead]
theorem append (h : Wd s S [] K) (hs : S.length ≤ 3000) (ht : T.length ≤ 3000) : ∃ s', appendR s [98] T = (s', 0) ∧ Wd s' S T (K + 1) := by
  have hq := RdPlain.quiet_call s
  have hu : used s.fs = S.length := by rw [h.fs]; simp [used]
  refine ⟨s.call.upd [98] fun f => { f with data := f.data ++ T }, ?_, ?_⟩
  · unfold appendR
    rw [if_neg (by rw [h.call]; decide), h.get_b, hu, h.room]
    simp only
    rw [if_neg (by omega)]
  · refine ⟨?_, hq.room.trans h.room, (hq.calm h.down h.ahead).1, (hq.calm h.down h.ahead).2, ?_⟩
    · show (s.fs.map _) = _
      rw [h.fs]; rfl
    · show s.calls + 1 ≤ K + 1
      have := h.calls; omega
theorem turn (h : Wd s S T K) (l' : List UInt8) : Wd (s.upd [98] (turnF l')) S l' K := ⟨by show (s.fs.map _) = _; rw [h.fs]; rfl, h.room, h.down, h.ahead, h.calls⟩
end Wd
def stB (S : List UInt8) : St := ⟨1048576, 3, -1, false, [⟨[97], S, 0⟩, ⟨[98], [], 0⟩]⟩
theorem stB_wd (S : List UInt8) : Wd (stB S) S [] 3 := ⟨rfl, rfl, rfl, rfl, Int.le_refl _⟩
section
variable {p q d : Nat} {s t : St} {b : Bu} {M : List Asn} {w u : World}
theorem W3.gr (h : W3 p q d s b t M w u) : Gr w u := Qs.gr h
theorem W3.on {v : World} (h : W3 p q d s b t M w u) (g : Gr u v) : W3 p q d s b t M w v := Qs.on h g
theorem wh_new (h : Ps M w u) : Calls Tryz.prog 16 #[.int .i64 1048576] u fun e w' => ∃ p, e = .returned (.tuple #[.pointer (some ⟨p, 0, none⟩), .int .i64 0]) ∧ Ps (DiskA p (fresh 1048576) :: M) w w' :=
  (new_c 1048576 (by decide) (by decide) u).mono fun e w' ⟨p, B, he, hd, hg, hb⟩ => ⟨p, he, Qs.new h hg (fr_disk _ _) hd hb⟩
theorem wh_rnew (h : Ps M w u) : Calls Tryz.prog 29 #[.int .i64 1048576] u fun e w' => ∃ d, e = .returned (.pointer (some ⟨d, 0, none⟩)) ∧ Ps (RDiskA d (fresh 1048576) :: M) w w' :=
  (rnew_c 1048576 u (by decide) (by decide)).mono fun e w' ⟨he, hr, g⟩ => ⟨_, he, Qs.new h g (fr_rdisk _ _) hr (fun x hx => by rw [hx]; exact Nat.le_refl _)⟩
theorem wh_bnew (h : Ps (RDiskA d t :: DiskA p s :: M) w u) : Calls Tryz.prog 30 #[.int .i64 4] u fun e w' => ∃ q, e = .returned (.pointer (some ⟨q, 0, none⟩)) ∧ W3 p q d s ⟨4, 0, 0⟩ t M w w' :=
  (bu_new 4 u (by decide) (by decide)).mono fun e w' ⟨he, hr, g⟩ => ⟨_, he, (Qs.new h g (fr_bu _ _) hr (fun x hx => by rw [hx]; exact Nat.le_refl _)).perm (((List.Perm.swap _ _ _).cons _).trans (List.Perm.swap _ _ _) |>.trans ((List.Perm.refl _).cons _))⟩
theorem w3_p {F : FuncId} {args : Array Value} {X : Ending → World → Prop} {s' : St} (h : W3 p q d s b t M w u) (C : ∀ B1, DiskA p s u B1 → Calls Tryz.prog F args u fun e w' => X e w' ∧ ∃ B', DiskA p s' w' B' ∧ Nx B1 u B' w') : Calls Tryz.prog F args u fun e w' => X e w' ∧ W3 p q d s' b t M w w' := Qs.call0 h (fr_disk p s') C
theorem w3_r {F : FuncId} {args : Array Value} {X : Ending → World → Prop} {t' : St} (h : W3 p q d s b t M w u) (C : ∀ B1, RDiskA d t u B1 → Calls Tryz.prog F args u fun e w' => X e w' ∧ ∃ B', RDiskA d t' w' B' ∧ Nx B1 u B' w') : Calls Tryz.prog F args u fun e w' => X e w' ∧ W3 p q d s b t' M w w' :=
  (Qs.call0 (Qs.perm h (List.perm_middle (l₁ := [DiskA p s, BuA q b]))) (fr_rdisk d t') C).mono fun _ _ ⟨hx, k⟩ => ⟨hx, k.perm (List.perm_middle (l₁ := [DiskA p s, BuA q b])).symm⟩
theorem wh_c1 (h : W3 p q d (fresh 1048576) b t M w u) : Calls Tryz.prog 19 #[.pointer (some ⟨p, 0, none⟩), .string ⟨#[97]⟩] u fun e w' => e = .returned (.int .i64 0) ∧ W3 p q d (RdPlain.stC 1048576) b t M w w' :=
  w3_p (X := fun e _ => e = .returned (.int .i64 0)) h fun B1 hp => d_create p (fresh 1048576) ⟨#[97]⟩ (by decide) (by decide) (by decide) u B1 hp
theorem wh_c2 (h : W3 p q d (RdPlain.stC 1048576) b t M w u) (S : ByteArray) (hS : S.size ≤ 3000) : Calls Tryz.prog 20 #[.pointer (some ⟨p, 0, none⟩), .string ⟨#[97]⟩, .string S] u fun e w' => e = .returned (.int .i64 0) ∧ W3 p q d (RdPlain.stA 1048576 S) b t M w w' :=
  w3_p (X := fun e _ => e = .returned (.int .i64 0)) h fun B1 hp => by
    have C := d_append p (RdPlain.stC 1048576) ⟨#[97]⟩ S (by decide) (by decide) (by decide) (by omega) u B1 hp
    have e : appendR (RdPlain.stC 1048576) (⟨#[97]⟩ : ByteArray).data.toList S.data.toList = _ := RdPlain.st_append 1048576 S (by omega)
    rw [e] at C
    exact C
theorem wh_c3 {S : ByteArray} (h : W3 p q d (RdPlain.stA 1048576 S) b t M w u) : Calls Tryz.prog 19 #[.pointer (some ⟨p, 0, none⟩), .string ⟨#[98]⟩] u fun e w' => e = .returned (.int .i64 0) ∧ W3 p q d (stB S.data.toList) b t M w w' :=
  w3_p (X := fun e _ => e = .returned (.int .i64 0)) h fun B1 hp => d_create p (RdPlain.stA 1048576 S) ⟨#[98]⟩ (by decide) (by decide) (by show (2 : Int) ≤ _; decide) u B1 hp
theorem wh_d1 (h : W3 p q d s b (fresh 1048576) M w u) : Calls Tryz.prog 31 #[.pointer (some ⟨d, 0, none⟩), .string ⟨#[97]⟩] u fun e w' => e = .returned (.int .i64 0) ∧ W3 p q d s b (RdPlain.stC 1048576) M w w' :=
  w3_r (X := fun e _ => e = .returned (.int .i64 0)) h fun B1 hp => r_create d (fresh 1048576) ⟨#[97]⟩ (by decide) (by decide) (by decide) u B1 hp
theorem wh_d2 (h : W3 p q d s b (RdPlain.stC 1048576) M w u) (S : ByteArray) (hS : S.size ≤ 3000) : Calls Tryz.prog 32 #[.pointer (some ⟨d, 0, none⟩), .string ⟨#[97]⟩, .string S] u fun e w' => e = .returned (.int .i64 0) ∧ W3 p q d s b (RdPlain.stA 1048576 S) M w w' :=
  w3_r (X := fun e _ => e = .returned (.int .i64 0)) h fun B1 hp => by
    have C := r_append d (RdPlain.stC 1048576) ⟨#[97]⟩ S (by decide) (by decide) (by decide) (by omega) u B1 hp
    have e : appendR (RdPlain.stC 1048576) (⟨#[97]⟩ : ByteArray).data.toList S.data.toList = _ := RdPlain.st_append 1048576 S (by omega)
    rw [e] at C
    exact C
theorem wh_app {S : List UInt8} {K : Int} (h : W3 p q d s b t M w u) (hw : Wd s S [] K) (hK : K ≤ 1000000000) (hS : S.length ≤ 3000) (X : ByteArray) (hX : X.size ≤ 3000) : Calls Tryz.prog 20 #[.pointer (some ⟨p, 0, none⟩), .string ⟨#[98]⟩, .string X] u fun e w' => ∃ s', e = .returned (.int .i64 0) ∧ Wd s' S X.data.toList (K + 1) ∧ W3 p q d s' b t M w w' := by
  obtain ⟨s', h1, h2⟩ := hw.append (T := X.data.toList) hS (by rw [data_length]; exact hX)
  have hc := hw.calls
  refine (w3_p (X := fun e _ => e = .returned (.int .i64 0)) (s' := s') h fun B1 hp => ?_).mono fun e w' ⟨he, k⟩ => ⟨s', he, h2, k⟩
  have C := d_append p s ⟨#[98]⟩ X (by decide) (by decide) (by omega) (by omega) u B1 hp
  have e : appendR s (⟨#[98]⟩ : ByteArray).data.toList X.data.toList = _ := h1
  rw [e] at C
  exact C
theorem wh_turn {S T : List UInt8} {K : Int} (h : W3 p q d s b t M w u) (hw : Wd s S T K) (k0 : Nat) (hk : k0 < 8 * T.length) : Calls Tryz.prog 37 #[.pointer (some ⟨p, 0, none⟩), .string ⟨#[98]⟩, .int .i64 (k0 : Int), .int .u32 1] u fun e w' => ∃ l' s', e = .returned (.bool true) ∧ Turn T l' k0 1 ∧ Wd s' S l' K ∧ W3 p q d s' b t M w w' := by
  obtain ⟨hF, B, ⟨B1, B2, hp, r, a, e⟩, n⟩ := h
  refine (d_turn p s ⟨#[98]⟩ k0 1 u B1 hp (by decide) hw.get_b (by show k0 ≤ 8 * T.length; omega) (by decide)).mono ?_
  rintro e' w' ⟨he, l', ht, B', q', n1⟩
  have e1 : 1 % 2 ^ (min 32 (8 * T.length - k0)) = 1 := Nat.mod_eq_of_lt (Nat.one_lt_two_pow (by omega))
  have ht : Turn T l' k0 (1 % 2 ^ (min 32 (8 * T.length - k0))) := ht
  rw [e1] at ht
  obtain ⟨B3, h3, n3⟩ := star_of (fr_stars hF.2) r a e q' n1
  exact ⟨l', _, he, ht, hw.turn l', ⟨fr_disk _ _, hF.2⟩, B3, h3, n.trans n3⟩
theorem wh_ref {S : ByteArray} (h : W3 p q d s b (RdPlain.stA 1048576 S) M w u) (hS : S.size ≤ 3000) (size count sum : Int) (hs : I64 size) : Calls Tryz.prog 34 #[.pointer (some ⟨d, 0, none⟩), .agg #[.string ⟨#[97]⟩, .int .i64 size, .int .i64 count, .int .u32 sum]] u fun e w' => ∃ r, e = .returned (.bool r) ∧ (r = true ↔ WholeB S.data.toList size count sum) ∧ W3 p q d s b (RdPlain.stA 1048576 S) M w w' := by
  obtain ⟨B, hr⟩ := Qs.part h 2 rfl
  obtain ⟨_, _, v, hv, _⟩ := hr
  refine (rwhole22_c d (RdPlain.stA 1048576 S) [97] v u (by show 1 ≤ 300; decide) hv size count sum hs (by show S.data.toList.length ≤ 3000; rw [data_length]; exact hS)).mono ?_
  rintro e w' ⟨r, he, hr, g⟩
  exact ⟨r, he, hr.trans ⟨fun k => k.2, fun k => ⟨rfl, k⟩⟩, h.on g⟩
end
end Go.Proofs.YtignfbdgpgidpaaGreatDoor
