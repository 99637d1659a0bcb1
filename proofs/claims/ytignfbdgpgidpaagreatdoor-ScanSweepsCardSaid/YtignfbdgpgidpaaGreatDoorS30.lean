/- In one text: CmLoad, CmFact, RfsRiseK, CmArg, FsA, CmFew, CmTwo, CmCalls. -/
import Derived.Test.YtignfbdgpgidpaaGreatDoorS29
import Derived.Test.YtignfbdgpgidpaaGreatDoorS06
import Derived.Test.YtignfbdgpgidpaaGreatDoorS16
import Derived.BigQuiet
import Derived.Test.YtignfbdgpgidpaaGreatDoorS18
import Derived.Test.YtignfbdgpgidpaaGreatDoorS12
import Derived.Test.YtignfbdgpgidpaaGreatDoorS05
import Derived.Test.YtignfbdgpgidpaaGreatDoorS11
/- The document's answers of layer 20: Load. -/
namespace Go.Proofs.YtignfbdgpgidpaaGreatDoor
open Go.RowKit FsPlain CrcPlain OctPlain MnPlain CmPlain
set_option linter.unusedVariables false
set_option linter.unusedSimpArgs false
set_option maxRecDepth 20000
theorem results_cell_tmp2 {fn : Func} {p u v : Tmp} {ty : TypeId} (h : fn.results = #[.cell p ty, .tmp u, .tmp v]) (tmps : Array Value) (P : Program) (w : World) :
    (results fn tmps).run P w =
      ((asAddr (tmps.getD p undef)).run P w).andThen fun a w₁ => ((loadVar ty a).run P w₁).andThen fun x w₂ => .ok (.tuple #[x, tmps.getD u undef, tmps.getD v undef]) w₂ := by
  simp only [results, h]
  simp [Sem.run_bind, Result.andThen]
theorem mn_results3 {fn : Func} {p q r : Tmp} (hfn : fn.results = #[.cell p 27, .tmp q, .tmp r]) {tmps : Array Value} {o : Nat} {x y z v u : Value} {w : World} (hp : tmps.getD p undef = .pointer (some ⟨o, 0, none⟩)) (hv : tmps.getD q undef = v) (hu : tmps.getD r undef = u) (hb : w.heap[o]? = some (.cells #[x, y, z] 27 (0, 0))) :
    (results fn tmps).run Tryz.prog w = .ok (.tuple #[.agg #[x, y, z], v, u]) w := by
  have c0 : w.cell? ⟨o, 0, none⟩ = some x := by rw [cells_at hb]; rfl
  have c1 : w.cell? ⟨o, 1, none⟩ = some y := by rw [cells_at hb]; rfl
  have c2 : w.cell? ⟨o, 2, none⟩ = some z := by rw [cells_at hb]; rfl
  rw [results_cell_tmp2 hfn, hp, hv, hu]
  simp [go_sem, c0, c1, c2]
namespace CmPlain
def ldIs (r : Int × Option (List UInt8)) (m : Mn) (b : Bool) (code : Int) : Prop := (r.2 = none ∧ m = ⟨0, 0, []⟩ ∧ b = false ∧ code = r.1) ∨ ∃ t, r.2 = some t ∧ ((b = true ∧ mnIs (bs t) m ∧ code = 0) ∨ (b = false ∧ m = ⟨0, 0, []⟩ ∧ (∀ m', ¬ mnIs (bs t) m') ∧ code = 6))
theorem ldIs_one {r : Int × Option (List UInt8)} {m m' : Mn} {b b' : Bool} {c c' : Int} (h : ldIs r m b c) (h' : ldIs r m' b' c') : m' = m ∧ b' = b ∧ c' = c := by
  rcases h with ⟨h0, rfl, rfl, rfl⟩ | ⟨t, h0, h⟩ <;> rcases h' with ⟨h1, rfl, rfl, rfl⟩ | ⟨t', h1, h'⟩
  · exact ⟨rfl, rfl, rfl⟩
  · rw [h0] at h1; cases h1
  · rw [h0] at h1; cases h1
  · rw [h0] at h1
    cases h1
    rcases h with ⟨rfl, h, rfl⟩ | ⟨rfl, rfl, h, rfl⟩ <;> rcases h' with ⟨rfl, h', rfl⟩ | ⟨rfl, rfl, h', rfl⟩
    · exact ⟨mnIs_one h' h, rfl, rfl⟩
    · exact absurd h (h' _)
    · exact absurd h' (h _)
    · exact ⟨rfl, rfl, rfl⟩
end CmPlain
def LdGot (T : Asn) (s : St) (B : Nat → Prop) (w : World) (e : Ending) (w' : World) : Prop := ∃ (m : Mn) (a : Option Addr) (c : Nat) (b : Bool) (code : Int), e = .returned (.tuple #[.agg #[.int .i64 m.stage, .int .i64 m.pass, .slice a m.files.length c], .bool b, .int .i64 code]) ∧ m.files.length ≤ maxLen ∧ ldIs (loadE s) m b code ∧ ∃ B', star (FlA (.slice a m.files.length c) m.files) T w' B' ∧ Nx B w B' w'
theorem ld_star {T : Asn} (hT : Fr T) {B B1 : Nat → Prop} {w u w' : World} {v : Value} {l : List Fl} (h : LiesFl w' v l) (hn : NewFl u v) (low : ∀ b, B1 b → b < u.heap.size) (t : T w' B1) (n : Nx B w B1 w') (g : w.heap.size ≤ u.heap.size) : ∃ B', star (FlA v l) T w' B' ∧ Nx B w B' w' := by
  obtain ⟨B2, k, hk⟩ := fl_new h hn
  refine ⟨fun b => B2 b ∨ B1 b, ⟨B2, B1, k, t, fun b h2 h1 => ?_, fun _ => Iff.rfl⟩, n.only, fun b hb => ?_⟩
  · have := hk b h2; have := low b h1; omega
  · rcases hb with hb | hb
    · have := hk b hb; exact .inr (by omega)
    · exact n.new b hb
theorem ld_nil {T : Asn} {B B1 : Nat → Prop} {w w' : World} (t : T w' B1) (n : Nx B w B1 w') : ∃ B', star (FlA (.slice none ([] : List Fl).length 0) []) T w' B' ∧ Nx B w B' w' :=
  ⟨B1, ⟨fun _ => False, B1, ⟨liesFl_nil w', fun _ h => h.elim, .inl rfl⟩, t, fun _ h => h.elim, fun b => (false_or _).symm ▸ Iff.rfl⟩, n⟩
theorem ld_none {T : Asn} {B : Nat → Prop} {s : St} {w w' : World} {code : Int} (h : loadE s = (code, none)) (k : ∃ B', T w' B' ∧ Nx B w B' w') : LdGot T s B w (.returned (.tuple #[.agg #[.int .i64 0, .int .i64 0, .slice none 0 0], .bool false, .int .i64 code])) w' := by
  obtain ⟨B', t, n⟩ := k
  exact ⟨⟨0, 0, []⟩, none, 0, false, code, rfl, by unfold maxLen; simp, .inl ⟨by rw [h], rfl, rfl, by rw [h]⟩, ld_nil t n⟩
theorem ld_bad {T : Asn} {B : Nat → Prop} {s : St} {w w' : World} {t : List UInt8} (h : loadE s = (0, some t)) (hn : ∀ m, ¬ mnIs (bs t) m) (k : ∃ B', T w' B' ∧ Nx B w B' w') : LdGot T s B w (.returned (.tuple #[.agg #[.int .i64 0, .int .i64 0, .slice none 0 0], .bool false, .int .i64 6])) w' := by
  obtain ⟨B', q, n⟩ := k
  exact ⟨⟨0, 0, []⟩, none, 0, false, 6, rfl, by unfold maxLen; simp, .inr ⟨t, by rw [h], .inr ⟨rfl, rfl, hn, rfl⟩⟩, ld_nil q n⟩
theorem ld_good {T : Asn} {B : Nat → Prop} {s : St} {w w' : World} {t : List UInt8} {m : Mn} {a : Option Addr} {c : Nat} (h : loadE s = (0, some t)) (hm : mnIs (bs t) m) (hz : m.files.length ≤ maxLen) (k : ∃ B', star (FlA (.slice a m.files.length c) m.files) T w' B' ∧ Nx B w B' w') : LdGot T s B w (.returned (.tuple #[.agg #[.int .i64 m.stage, .int .i64 m.pass, .slice a m.files.length c], .bool true, .int .i64 0])) w' := ⟨m, a, c, true, 0, rfl, hz, .inr ⟨t, by rw [h], .inl ⟨rfl, hm, rfl⟩⟩, k⟩
theorem LiesFl.stay2 {w w' : World} {v : Value} {l : List Fl} {q : Nat} {T : TypeId} (h : LiesFl w v l) (hq : w.heap[q]? = some (.cells #[.int .i64 0, .int .i64 0, .slice none 0 0] T (0, 0))) (o : Only (fun i => i = q) w w') : LiesFl w' v l := by
  cases l with
  | nil =>
    obtain ⟨a, c, e, hc, _⟩ := h
    exact ⟨a, c, e, hc, .inl rfl⟩
  | cons x r =>
    refine h.stay o fun b n c e => ?_
    obtain ⟨a', c', e', _, h⟩ := h
    rcases h with h | ⟨b', off, e2, hr⟩
    · cases h
    · rw [e'] at e
      simp only [Value.slice.injEq] at e
      rw [e2] at e
      obtain ⟨e3, _, _⟩ := e
      have hb : b = ⟨b', off, none⟩ := (Option.some.inj e3).symm
      subst hb
      intro hbq
      have hbq' : b' = q := hbq
      subst hbq'
      have k := (hr.2 0 x rfl).1
      rw [cells_at hq] at k
      match off, k with
      | 0, k => simp at k
      | 1, k => simp at k
      | 2, k => simp at k
      | off + 3, k => simp at k
theorem size_nat (s : St) (n : List UInt8) : ∃ k : Nat, (sizeR s n).1 = (k : Int) ∧ k ≤ used s.fs := by
  unfold sizeR
  split
  · exact ⟨0, rfl, Nat.zero_le _⟩
  · split
    · exact ⟨0, rfl, Nat.zero_le _⟩
    · next f hf => exact ⟨f.data.length, rfl, used_le (get_mem hf)⟩
end Go.Proofs.YtignfbdgpgidpaaGreatDoor
/- Plain facts of commit: the files that it writes stay small. -/
namespace Go.Proofs.YtignfbdgpgidpaaGreatDoor
open Go.RowKit FsPlain
set_option linter.unusedVariables false
set_option linter.unusedSimpArgs false
namespace CmPlain
def Sm (s : St) (n : List UInt8) : Prop := ∀ f, s.get n = some f → f.data.length ≤ 700
theorem Sm.same {s t : St} {n : List UInt8} (h : Sm s n) (e : t.get n = s.get n) : Sm t n := fun f hf => h f (by rw [← e]; exact hf)
end CmPlain
end Go.Proofs.YtignfbdgpgidpaaGreatDoor
/- The document's disk: Rise with whatever stays. -/
namespace Go.Proofs.YtignfbdgpgidpaaGreatDoor
open Go.RowKit FsPlain
set_option linter.unusedVariables false
set_option linter.unusedSimpArgs false
set_option maxRecDepth 20000
end Go.Proofs.YtignfbdgpgidpaaGreatDoor
/- An argument that is a slice of tries: a manifest, a fall, what stays. -/
namespace Go.Proofs.YtignfbdgpgidpaaGreatDoor
open Go.RowKit Go.ChangeShapes Go.WideShapes Go.Deep MnPlain
set_option linter.unusedVariables false
set_option linter.unusedSimpArgs false
set_option maxRecDepth 20000
end Go.Proofs.YtignfbdgpgidpaaGreatDoor
/- The program's disk as a part of a world: what its other calls leave. -/
namespace Go.Proofs.YtignfbdgpgidpaaGreatDoor
open Go.RowKit Go.Maps FsPlain
set_option linter.unusedVariables false
set_option linter.unusedSimpArgs false
set_option maxRecDepth 20000
theorem d_arm (p : Nat) (s : St) (n : Int) (h0 : -9223372036854775808 ≤ n) (h1 : n ≤ 9223372036854775807) (w : World) (B : Nat → Prop) (h : DiskA p s w B) :
    Calls Tryz.prog 9 #[.pointer (some ⟨p, 0, none⟩), .int .i64 n] w (Does w B (DiskA p (armed s n)) (.tuple #[])) :=
  (arm_c p s B n w h h0 h1).mono fun _ _ => tells_does
end Go.Proofs.YtignfbdgpgidpaaGreatDoor
/- Few tries; what else a law of commit asks of both disks. -/
namespace Go.Proofs.YtignfbdgpgidpaaGreatDoor
open Go.RowKit FsPlain MnPlain
set_option linter.unusedVariables false
set_option linter.unusedSimpArgs false
set_option maxRecDepth 20000
theorem r_used (d : Nat) (s : St) (w : World) (B : Nat → Prop) (h : RDiskA d s w B) : Calls Tryz.prog 14 #[.pointer (some ⟨d, 0, none⟩)] w fun e w' => e = .returned (.int .i64 (used s.fs : Int)) ∧ Gr w w' := by
  obtain ⟨hok, _, v, hv, _⟩ := h
  exact rused_c d s v w hok hv
end Go.Proofs.YtignfbdgpgidpaaGreatDoor
/- Both disks of a law of commit, apart from one another: each call on either. -/
namespace Go.Proofs.YtignfbdgpgidpaaGreatDoor
open Go.RowKit FsPlain CrcPlain OctPlain MnPlain CmPlain
set_option linter.unusedVariables false
set_option linter.unusedSimpArgs false
set_option maxRecDepth 20000
def Pl20 (p d : Nat) (s t : St) (M : List Asn) (w wr : World) : Prop := Ps (DiskA p s :: RDiskA d t :: M) w wr
theorem Pl20.gr {p d : Nat} {s t : St} {M : List Asn} {w u : World} (h : Pl20 p d s t M w u) : Gr w u := Qs.gr h
theorem Pl20.on {p d : Nat} {s t : St} {M : List Asn} {w u v : World} (h : Pl20 p d s t M w u) (g : Gr u v) : Pl20 p d s t M w v := Qs.on h g
theorem Pl20.set3 {p d : Nat} {s t : St} {M : List Asn} {w u : World} {X : Nat} {c : Array Value} {T : TypeId} (h : Pl20 p d s t M w u) (i : Nat) (hi : M[i]? = some (Blk X c T)) (hc : c.size = 3) (x y z : Value) : Pl20 p d s t (M.set i (Blk X #[x, y, z] T)) w (((u.setCell ⟨X, 0, none⟩ x).setCell ⟨X, 1, none⟩ y).setCell ⟨X, 2, none⟩ z) := Qs.set3 h (i + 2) hi hc x y z
theorem mn_cells {u : World} {X : Nat} {x y : Int} {v : Value} {T : TypeId} (h : u.heap[X]? = some (.cells #[.int .i64 x, .int .i64 y, v] T (0, 0))) : (u.cell? ⟨X, 0, none⟩ = some (.int .i64 x) ∧ u.cell? ⟨X, 1, none⟩ = some (.int .i64 y) ∧ u.cell? ⟨X, 2, none⟩ = some v) ∧ u.frozen? ⟨X, 0, none⟩ = false ∧ u.frozen? ⟨X, 1, none⟩ = false ∧ u.frozen? ⟨X, 2, none⟩ = false :=
  ⟨⟨by rw [cells_at h]; rfl, by rw [cells_at h]; rfl, by rw [cells_at h]; rfl⟩, cells_free h 0, cells_free h 1, cells_free h 2⟩
theorem on_left {F : FuncId} {args : Array Value} {X : Ending → World → Prop} {p d : Nat} {s s' t : St} {M : List Asn} {w u : World} (h : Pl20 p d s t M w u) (C : ∀ B1, DiskA p s u B1 → Calls Tryz.prog F args u fun e w' => X e w' ∧ ∃ B', DiskA p s' w' B' ∧ Nx B1 u B' w') : Calls Tryz.prog F args u fun e w' => X e w' ∧ Pl20 p d s' t M w w' := Qs.call0 h (fr_disk p s') C
theorem on_right {F : FuncId} {args : Array Value} {X : Ending → World → Prop} {p d : Nat} {s t t' : St} {M : List Asn} {w u : World} (h : Pl20 p d s t M w u) (C : ∀ B1, RDiskA d t u B1 → Calls Tryz.prog F args u fun e w' => X e w' ∧ ∃ B', RDiskA d t' w' B' ∧ Nx B1 u B' w') : Calls Tryz.prog F args u fun e w' => X e w' ∧ Pl20 p d s t' M w w' := Qs.call1 h (fr_rdisk d t') C
theorem tw_arm_p {p d : Nat} {s t : St} {M : List Asn} {w u : World} (h : Pl20 p d s t M w u) (k : Int) (hk : I64 k) : Calls Tryz.prog 9 #[.pointer (some ⟨p, 0, none⟩), .int .i64 k] u fun e w' => e = .returned (.tuple #[]) ∧ Pl20 p d (armed s k) t M w w' :=
  on_left (X := fun e _ => e = .returned (.tuple #[])) h fun B1 hp => d_arm p s k hk.1 hk.2 u B1 hp
theorem tw_arm_d {p d : Nat} {s t : St} {M : List Asn} {w u : World} (h : Pl20 p d s t M w u) (k : Int) (hk : I64 k) : Calls Tryz.prog 10 #[.pointer (some ⟨d, 0, none⟩), .int .i64 k] u fun e w' => e = .returned (.tuple #[]) ∧ Pl20 p d s (armed t k) M w w' :=
  on_right (X := fun e _ => e = .returned (.tuple #[])) h fun B1 hr => rarm_c d t k u hr hk
theorem tw_save_d {p d : Nat} {s t : St} {M : List Asn} {w u : World} (h : Pl20 p d s t M w u) {m : Mn} {a : Option Addr} {n c : Nat} (h1 : t.calls ≤ 1000000000) (hm : LiesFl w (.slice a n c) m.files) (hl : m.files.length ≤ maxLen) (hK : ∀ f ∈ m.files, flK f) (hs : I64 m.stage) (hp : I64 m.pass) : Calls Tryz.prog 41 #[.pointer (some ⟨d, 0, none⟩), .agg #[.int .i64 m.stage, .int .i64 m.pass, .slice a n c]] u fun e w' => e = .returned (.int .i64 (saveR t m).2) ∧ Pl20 p d s (saveR t m).1 M w w' :=
  on_right (X := fun e _ => e = .returned (.int .i64 (saveR t m).2)) h fun B1 hr => rsave20_c d t m u B1 hr h1 (hm.gr h.gr) hl hK hs hp
def LdTells (s : St) (R : List Asn → World → Prop) (e : Ending) (w' : World) : Prop := ∃ (m : Mn) (a : Option Addr) (c : Nat) (b : Bool) (code : Int), e = .returned (.tuple #[.agg #[.int .i64 m.stage, .int .i64 m.pass, .slice a m.files.length c], .bool b, .int .i64 code]) ∧ m.files.length ≤ maxLen ∧ ldIs (loadE s) m b code ∧ R [FlA (.slice a m.files.length c) m.files] w'
theorem ps_load {F : FuncId} {args : Array Value} {P T : Asn} {L : List Asn} {s : St} {w u : World} (h : Ps (P :: L) w u) (hT : Fr T) (C : ∀ B1, P u B1 → Calls Tryz.prog F args u (LdGot T s B1 u)) : Calls Tryz.prog F args u (LdTells s fun M w' => Ps (T :: (L ++ M)) w w') := by
  obtain ⟨hF, B, ⟨B1, B2, p, r, a, e⟩, n⟩ := h
  refine (C B1 p).mono ?_
  rintro e' w' ⟨m, a', c, b, code, rfl, hl, hld, B', q, n1⟩
  refine ⟨m, a', c, b, code, rfl, hl, hld, ?_⟩
  obtain ⟨B3, h3, n3⟩ := star_of (fr_stars hF.2) r a e q n1
  refine Qs.perm (L := FlA (.slice a' m.files.length c) m.files :: T :: L) ⟨⟨fr_fl _ _, hT, hF.2⟩, B3, star_left h3, n.trans n3⟩ ?_
  exact (List.Perm.swap _ _ _).trans (List.Perm.cons _ (List.perm_append_singleton _ _).symm)
end Go.Proofs.YtignfbdgpgidpaaGreatDoor
/- Both disks of a law of commit: what the law asks of them beside Save, Load, Arm, Rise. -/
namespace Go.Proofs.YtignfbdgpgidpaaGreatDoor
open Go.RowKit FsPlain CrcPlain OctPlain MnPlain CmPlain
set_option linter.unusedVariables false
set_option linter.unusedSimpArgs false
set_option maxRecDepth 20000
theorem tw_new (w u : World) (g : Gr w u) {p : Nat} {room : Int} (h0 : 0 ≤ room) (h1 : room ≤ 16777216) {B : Nat → Prop} (hd : DiskA p (fresh room) u B) (n : Nx (fun _ => False) w B u) : Calls Tryz.prog 29 #[.int .i64 room] u fun e w' => ∃ d, e = .returned (.pointer (some ⟨d, 0, none⟩)) ∧ Pl20 p d (fresh room) (fresh room) [] w w' := by
  refine (rnew_c room u h0 h1).mono ?_
  rintro e w' ⟨rfl, hr, g1⟩
  exact ⟨u.heap.size, rfl, ((Qs.new (L := [DiskA p (fresh room)]) ⟨⟨fr_disk _ _, trivial⟩, B, ⟨B, fun _ => False, hd, (fun _ h => h), (fun _ _ h => h), fun b => (or_false _).symm ▸ Iff.rfl⟩, n⟩ g1 (fr_rdisk _ _) hr (fun x hx => by rw [hx]; exact Nat.le_refl _)).perm (List.Perm.swap _ _ _))⟩
theorem tw_used_p {p d : Nat} {s t : St} {M : List Asn} {w u : World} (h : Pl20 p d s t M w u) : Calls Tryz.prog 13 #[.pointer (some ⟨p, 0, none⟩)] u fun e w' => e = .returned (.int .i64 (used s.fs : Int)) ∧ Pl20 p d s t M w w' := by
  obtain ⟨B1, hok, m, L, hd⟩ := Qs.part h 0 rfl
  exact (used_c p m s B1 L u hok hd).mono fun e w' ⟨he, g⟩ => ⟨he, h.on g⟩
theorem tw_used_d {p d : Nat} {s t : St} {M : List Asn} {w u : World} (h : Pl20 p d s t M w u) : Calls Tryz.prog 14 #[.pointer (some ⟨d, 0, none⟩)] u fun e w' => e = .returned (.int .i64 (used t.fs : Int)) ∧ Pl20 p d s t M w w' := by
  obtain ⟨B2, hr⟩ := Qs.part h 1 rfl
  exact (r_used d t u B2 hr).mono fun e w' ⟨he, g⟩ => ⟨he, h.on g⟩
end Go.Proofs.YtignfbdgpgidpaaGreatDoor
