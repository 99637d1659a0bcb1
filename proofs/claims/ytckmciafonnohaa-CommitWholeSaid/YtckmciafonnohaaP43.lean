/- In one text: CmWh. -/
import Derived.Test.YtckmciafonnohaaP42
/- Wherever the machine falls while it is saved: the old manifest, or the new one. -/
namespace Go.Proofs.Ytckmciafonnohaa
open Go.RowKit FsPlain CrcPlain OctPlain MnPlain CmPlain
set_option linter.unusedVariables false
set_option linter.unusedSimpArgs false
set_option maxRecDepth 20000
namespace CmPlain
/-- What is told of the bytes that are there: none, or a manifest. -/
def wasIs (o : Option (List UInt8)) (m : Mn) : Prop := (o = none ∧ m = ⟨0, 0, []⟩) ∨ ∃ t, o = some t ∧ mnIs (bs t) m
theorem wasIs_one {o : Option (List UInt8)} {m m' : Mn} (h : wasIs o m) (h' : wasIs o m') : m' = m := by
  rcases h with ⟨h0, rfl⟩ | ⟨t, h0, h⟩ <;> rcases h' with ⟨h1, rfl⟩ | ⟨t', h1, h'⟩
  · rfl
  · rw [h0] at h1; cases h1
  · rw [h0] at h1; cases h1
  · rw [h0] at h1
    cases h1
    exact mnIs_one h' h
theorem ld_was {o : Option (List UInt8)} {m m' : Mn} {b : Bool} {code : Int} (hw : wasIs o m) (h : ldIs (0, o) m' b code) : code = 0 ∧ b = o.isSome ∧ m' = m := by
  rcases h with ⟨h1, rfl, rfl, rfl⟩ | ⟨t, h1, h⟩
  · have e : o = none := h1
    subst e
    exact ⟨rfl, rfl, wasIs_one hw (.inl ⟨rfl, rfl⟩)⟩
  · have e : o = some t := h1
    subst e
    rcases hw with ⟨h0, _⟩ | ⟨t', h0, hw⟩
    · cases h0
    · cases h0
      rcases h with ⟨rfl, h, rfl⟩ | ⟨rfl, rfl, h, rfl⟩
      · exact ⟨rfl, rfl, mnIs_one h hw⟩
      · exact absurd hw (h _)
theorem keeps_load {s : St} {o : Option (List UInt8)} (h : Keeps s o) : Keeps (loadT s) o := by
  unfold loadT
  split <;> exact h
theorem put_is {m : Mn} (h : mnB m = true) (hK : ∀ f ∈ m.files, flK f) : wasIs (some (ptS m).data.toList) m := by
  refine .inr ⟨_, rfl, ?_⟩
  rw [bs_toList]
  unfold ptS
  rw [if_pos h]
  exact ⟨h, fun f hf => ⟨(hK f hf).2.2.2.1, (hK f hf).2.2.2.2⟩, rfl⟩
/-- A round: just what Save told is loaded, or what was there. -/
theorem wh_round {s : St} {o : Option (List UInt8)} {m : Mn} {x : Ty} (hk : Keeps s o) (hw : wasIs o m) (hK : ∀ f ∈ x.m.files, flK f) {m' : Mn} {b : Bool} {code : Int} (h : ldIs (loadE (riseR (stepA s x) x.keep)) m' b code) :
    code = 0 ∧ (∃ o', b = o'.isSome ∧ wasIs o' m' ∧ Keeps (loadT (riseR (stepA s x) x.keep)) o') ∧ (((saveR (armed s x.fuse) x.m).2 = 0 ∧ b = true ∧ mnB x.m = true ∧ m' = x.m) ∨ ((saveR (armed s x.fuse) x.m).2 ≠ 0 ∧ b = o.isSome ∧ m' = m)) := by
  have hka : Keeps (armed s x.fuse) o := hk
  have up := down_rise (stepA s x) x.keep
  have hs : ((saveR (armed s x.fuse) x.m).2 = 0 ∧ mnB x.m = true ∧ Keeps (stepA s x) (some (ptS x.m).data.toList)) ∨ ((saveR (armed s x.fuse) x.m).2 ≠ 0 ∧ Keeps (stepA s x) o) := by
    unfold stepA saveR
    by_cases hm : mnB x.m = true
    · rw [if_pos hm]
      rcases save_keeps (ptS x.m).data.toList hka with ⟨e, k⟩ | ⟨e, k⟩
      · exact .inl ⟨e, hm, k⟩
      · exact .inr ⟨e, k⟩
    · rw [if_neg hm]
      exact .inr ⟨(by show (1 : Int) ≠ 0; decide), hka⟩
  rcases hs with ⟨e, hm, k⟩ | ⟨e, k⟩
  · have k2 := rise_keeps x.keep k
    rw [load_keeps k2 up.1 up.2] at h
    obtain ⟨hc, hb, hmm⟩ := ld_was (put_is hm hK) h
    subst hmm
    exact ⟨hc, ⟨_, hb, put_is hm hK, keeps_load k2⟩, .inl ⟨e, hb, hm, rfl⟩⟩
  · have k2 := rise_keeps x.keep k
    rw [load_keeps k2 up.1 up.2] at h
    obtain ⟨hc, hb, hmm⟩ := ld_was hw h
    subst hmm
    exact ⟨hc, ⟨o, hb, hw, keeps_load k2⟩, .inr ⟨e, hb, rfl⟩⟩
/-- The law's three booleans. -/
def oldW (b sm : Bool) (m' m : Mn) : Bool := (b == sm) && mnEq m' m
def freshW (b : Bool) (y m' : Mn) : Bool := (b && mnB y) && mnEq m' y
end CmPlain
theorem stars_sub {L' L : List Asn} (h : L'.Sublist L) : ∀ {w : World} {B : Nat → Prop}, stars L w B → ∃ B', stars L' w B' ∧ ∀ b, B' b → B b := by
  induction h with
  | slnil => exact fun h => ⟨_, h, fun _ h => h⟩
  | cons P _ ih =>
    rintro w B ⟨B1, B2, _, q, _, e⟩
    obtain ⟨B', h, k⟩ := ih q
    exact ⟨B', h, fun b hb => (e b).2 (.inr (k b hb))⟩
  | cons_cons P _ ih =>
    rintro w B ⟨B1, B2, p, q, a, e⟩
    obtain ⟨B', h, k⟩ := ih q
    exact ⟨fun b => B1 b ∨ B' b, ⟨B1, B', p, h, fun b h1 h2 => a b h1 (k b h2), fun _ => Iff.rfl⟩, fun b hb => (e b).2 (hb.imp id (k b))⟩
theorem Qs.sub {A : Nat → Prop} {L L' : List Asn} {w u : World} (h : Qs A L w u) (k : L'.Sublist L) : Qs A L' w u := by
  obtain ⟨hF, B, hs, n⟩ := h
  obtain ⟨B', hs', hb⟩ := stars_sub k hs
  exact ⟨frs_iff.2 fun P hP => frs_iff.1 hF P (k.subset hP), B', hs', n.trans ⟨Only.refl _ _, fun b h => .inl (hb b h)⟩⟩
section
variable {p : Nat} {s : St} {M : List Asn} {w u v : World}
theorem Pd20.blk {c : Array Value} {T : TypeId} (h : Pd20 p s M w u) (hv : v = u.alloc (.cells c T)) : Pd20 p s (Blk u.heap.size c T :: M) w v :=
  Qs.perm (Qs.blk_new h c T hv) (List.Perm.swap _ _ _)
theorem Pd20.base (h : Pd20 p s M u v) (g : Gr w u) : Pd20 p s M w v := by
  obtain ⟨hF, B, k, n⟩ := h
  exact ⟨hF, B, k, (Nx.gr g).trans n⟩
theorem Pd20.nil (h : Pd20 p s M w u) : Pd20 p s (FlA (.slice none ([] : List Fl).length 0) [] :: M) w u := by
  obtain ⟨B', k, hk⟩ := fl_new (liesFl_nil u) (newFl_nil u 0 0)
  exact Qs.perm (Qs.new h (Gr.refl _) (fr_fl _ _) k hk) (List.Perm.swap _ _ _)
theorem Pd20.at {X : Nat} {c : Array Value} {T : TypeId} (h : Pd20 p s M w u) (i : Nat) (hi : M[i]? = some (Blk X c T)) : u.heap[X]? = some (.cells c T (0, 0)) := Qs.blk h (i + 1) hi
theorem Pd20.fl {v : Value} {l : List Fl} (h : Pd20 p s M w u) (i : Nat) (hi : M[i]? = some (FlA v l)) : LiesFl u v l := by
  obtain ⟨_, q⟩ := Qs.part h (i + 1) hi
  exact q.1
theorem Pd20.set3 {X : Nat} {c : Array Value} {T : TypeId} (h : Pd20 p s M w u) (i : Nat) (hi : M[i]? = some (Blk X c T)) (hc : c.size = 3) (x y z : Value) : Pd20 p s (M.set i (Blk X #[x, y, z] T)) w (((u.setCell ⟨X, 0, none⟩ x).setCell ⟨X, 1, none⟩ y).setCell ⟨X, 2, none⟩ z) := Qs.set3 h (i + 1) hi hc x y z
theorem pd_arm (h : Pd20 p s M w u) (k : Int) (hk : I64 k) : Calls Try.prog 7 #[.pointer (some ⟨p, 0, none⟩), .int .i64 k] u fun e w' => e = .returned (.tuple #[]) ∧ Pd20 p (armed s k) M w w' :=
  Qs.call0 (X := fun e _ => e = .returned (.tuple #[])) h (fr_disk _ _) fun B1 hp => d_arm p s k hk.1 hk.2 u B1 hp
theorem pd_rise (h : Pd20 p s M w u) {ka : Option Addr} {ks : List Int} {kc : Nat} (hK : KeepR w ka ks) (hks : ∀ k ∈ ks, I64 k) (hkl : ks.length ≤ 1000000) : Calls Try.prog 9 #[.pointer (some ⟨p, 0, none⟩), .slice ka ks.length kc] u fun e w' => e = .returned (.tuple #[]) ∧ Pd20 p (riseR s ks) M w w' := by
  have g := h.gr
  obtain ⟨hF, B, ⟨B1, B2, hp, hr, a, e⟩, n⟩ := h
  have hnew : ∀ b, B1 b → w.heap.size ≤ b := fun b hb => (n.new b ((e b).2 (.inl hb))).elim (fun h => h.elim) id
  have fin : ∀ e' w', (Does u B1 (DiskA p (riseR s ks)) (.tuple #[])) e' w' → e' = .returned (.tuple #[]) ∧ Pd20 p (riseR s ks) M w w' := by
    rintro e' w' ⟨hx, B', q, n1⟩
    refine ⟨hx, ⟨fr_disk _ _, hF.2⟩, ?_⟩
    obtain ⟨B3, h3, n3⟩ := star_of (fr_stars hF.2) hr a e q n1
    exact ⟨B3, h3, n.trans n3⟩
  rcases hK with rfl | ⟨kb, ko, rfl, hb, hc⟩
  · have C : Calls Try.prog 9 #[.pointer (some ⟨p, 0, none⟩), .slice ka ([] : List Int).length kc] u (Does u B1 (DiskA p (riseR s [])) (.tuple #[])) := (rise_c p s B1 ka [] kc u hp (.inl rfl) (by simp) (by simp)).mono fun _ _ => tells_does
    exact C.mono fin
  · have C := d_risek p s (some ⟨kb, ko, none⟩) ks kc u B1 hp (KeepR.gr (.inr ⟨kb, ko, rfl, hb, hc⟩) g) (fun b o e2 hB => by
      simp only [Option.some.injEq, Addr.mk.injEq] at e2
      have := hnew b hB
      omega) hks hkl
    exact C.mono fin
end
/-- Same of any two. -/
theorem rsame_two (m m' : Mn) {v v' : Value} (w : World) (h : LiesFl w v m.files) (h' : LiesFl w v' m'.files) (hl : m.files.length ≤ maxLen) (hl' : m'.files.length ≤ maxLen) :
    Calls Try.prog 11 #[.agg #[.int .i64 m.stage, .int .i64 m.pass, v], .agg #[.int .i64 m'.stage, .int .i64 m'.pass, v']] w fun e w' => e = .returned (.bool (mnEq m m')) ∧ Gr w w' := by
  obtain ⟨a, c, e, _⟩ := id h
  obtain ⟨a', c', e', _⟩ := id h'
  subst e e'
  exact rsame19_c m.stage m.pass m'.stage m'.pass a a' _ _ c c' m.files m'.files w h h' hl hl'
/-- Ahead of a try: what was loaded last. -/
def Wh20 (p W : Nat) (l : List Ty) (w : World) (v6 v7 : Value) (wr : World) : Prop := ∃ (i : Nat) (s : St) (o : Option (List UInt8)) (m : Mn) (a : Option Addr) (c : Nat), i ≤ l.length ∧ v7 = .int .i64 (i : Int) ∧ v6 = .bool o.isSome ∧ Pd20 p s [Blk W #[.int .i64 m.stage, .int .i64 m.pass, .slice a m.files.length c] 31, FlA (.slice a m.files.length c) m.files] w wr ∧ Smalls s ∧ s.calls ≤ 3 + 10 * (i : Int) ∧ Keeps s o ∧ wasIs o m ∧ m.files.length ≤ maxLen
end Go.Proofs.Ytckmciafonnohaa
