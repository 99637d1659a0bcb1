/- In one text: FlPart, CmLoad, CmL, CmFact, RfsRiseK, CmArg, FsA, CmFew. -/
import Derived.Test.YtignfbdgpgidpaaGreatDoorK09
import Derived.Test.YtignfbdgpgidpaaGreatDoorK15
import Derived.Test.YtignfbdgpgidpaaGreatDoorK21
import Derived.Test.YtignfbdgpgidpaaGreatDoorK22
import Derived.Test.YtignfbdgpgidpaaGreatDoorK07
import Derived.Test.YtignfbdgpgidpaaGreatDoorK12
import Derived.BigQuiet
import Derived.Test.YtignfbdgpgidpaaGreatDoorK06
import Derived.Test.YtignfbdgpgidpaaGreatDoorK13
/- A slice of files as a part. -/
namespace Go.Proofs.YtignfbdgpgidpaaGreatDoor
open Go.RowKit FsPlain MnPlain
set_option linter.unusedVariables false
set_option linter.unusedSimpArgs false
set_option maxRecDepth 20000
def FlA (v : Value) (l : List Fl) : Asn := fun w B => LiesFl w v l ∧ (∀ b, B b → b < w.heap.size) ∧ (l = [] ∨ ∃ b o n c, v = .slice (some ⟨b, o, none⟩) n c ∧ B b)
theorem fr_fl (v : Value) (l : List Fl) : Fr (FlA v l) where
  fr := fun {w w' B C} ⟨h, hl, hb⟩ o d => by
    refine ⟨?_, fun b hb => Nat.lt_of_lt_of_le (hl b hb) o.size, hb⟩
    obtain ⟨a, c, e, hc, h⟩ := h
    rcases h with h | ⟨b, off, e2, k⟩
    · exact ⟨a, c, e, hc, .inl h⟩
    · rcases hb with hb | ⟨b', o', n', c', e3, hB⟩
      · exact ⟨a, c, e, hc, .inl hb⟩
      · rw [e, e2] at e3
        simp only [Value.slice.injEq, Option.some.injEq, Addr.mk.injEq] at e3
        obtain ⟨⟨hbb, _, _⟩, _, _⟩ := e3
        have hn : ¬ C b := by rw [hbb]; exact d b' hB
        refine ⟨a, c, e, hc, .inr ⟨b, off, e2, Nat.lt_of_lt_of_le k.1 o.size, fun j x hj => ?_⟩⟩
        obtain ⟨k0, k1, k2, k3⟩ := k.2 j x hj
        exact ⟨(o.cell (p := ⟨b, _, none⟩) k.1 hn).trans k0, (o.cell (p := ⟨b, _, none⟩) k.1 hn).trans k1, (o.cell (p := ⟨b, _, none⟩) k.1 hn).trans k2, (o.cell (p := ⟨b, _, none⟩) k.1 hn).trans k3⟩
  lo := fun ⟨_, hl, _⟩ => hl
theorem fl_new {w w' : World} {v : Value} {l : List Fl} (h : LiesFl w' v l) (hn : NewFl w v) : ∃ B, FlA v l w' B ∧ ∀ b, B b → w.heap.size ≤ b := by
  obtain ⟨a, c, e, hc, k⟩ := id h
  rcases k with k | ⟨b, off, e2, k⟩
  · exact ⟨fun _ => False, ⟨h, fun b hb => hb.elim, .inl k⟩, fun b hb => hb.elim⟩
  · refine ⟨fun x => x = b, ⟨h, fun x hx => by rw [hx]; exact k.1, .inr ⟨b, off, _, c, by rw [e, e2], rfl⟩⟩, fun x hx => ?_⟩
    rw [hx]
    exact hn ⟨b, off, none⟩ _ _ (by rw [e, e2])
theorem fl_lies {w : World} {B : Nat → Prop} {v : Value} {l : List Fl} (h : FlA v l w B) : LiesFl w v l := h.1
end Go.Proofs.YtignfbdgpgidpaaGreatDoor
/- The document's answers of layer 20: Load. -/
namespace Go.Proofs.YtignfbdgpgidpaaGreatDoor
open Go.RowKit FsPlain CrcPlain OctPlain MnPlain CmPlain
set_option linter.unusedVariables false
set_option linter.unusedSimpArgs false
set_option maxRecDepth 20000
theorem results_cell_tmp2 {fn : Func} {p u v : Tmp} {ty : TypeId} (h : fn.results = #[.cell p ty, .tmp u, .tmp v]) (tmps : Array Value) (P : Program) (w : World) :
    (results fn tmps).run P w =
      ((asAddr (tmps.getD p undef)).run P w).andThen fun a w₁ => ((loadVar ty a).run P w₁).andThen fun x w₂ => .ok (.tuple #[x, tmps.getD u undef, tmps.getD v undef]) w₂ := by
  simp only [results, h]
  simp [Sem.run_bind, Result.andThen]
theorem mn_results3 {fn : Func} {p q r : Tmp} (hfn : fn.results = #[.cell p 27, .tmp q, .tmp r]) {tmps : Array Value} {o : Nat} {x y z v u : Value} {w : World} (hp : tmps.getD p undef = .pointer (some ⟨o, 0, none⟩)) (hv : tmps.getD q undef = v) (hu : tmps.getD r undef = u) (hb : w.heap[o]? = some (.cells #[x, y, z] 27 (0, 0))) :
    (results fn tmps).run Tryz.prog w = .ok (.tuple #[.agg #[x, y, z], v, u]) w := by
  have c0 : w.cell? ⟨o, 0, none⟩ = some x := by rw [cells_at hb]; rfl
  have c1 : w.cell? ⟨o, 1, none⟩ = some y := by rw [cells_at hb]; rfl
  have c2 : w.cell? ⟨o, 2, none⟩ = some z := by rw [cells_at hb]; rfl
  rw [results_cell_tmp2 hfn, hp, hv, hu]
  simp [go_sem, c0, c1, c2]
namespace CmPlain
def ldIs (r : Int × Option (List UInt8)) (m : Mn) (b : Bool) (code : Int) : Prop := (r.2 = none ∧ m = ⟨0, 0, []⟩ ∧ b = false ∧ code = r.1) ∨ ∃ t, r.2 = some t ∧ ((b = true ∧ mnIs (bs t) m ∧ code = 0) ∨ (b = false ∧ m = ⟨0, 0, []⟩ ∧ (∀ m', ¬ mnIs (bs t) m') ∧ code = 6))
theorem ldIs_one {r : Int × Option (List UInt8)} {m m' : Mn} {b b' : Bool} {c c' : Int} (h : ldIs r m b c) (h' : ldIs r m' b' c') : m' = m ∧ b' = b ∧ c' = c := by
  rcases h with ⟨h0, rfl, rfl, rfl⟩ | ⟨t, h0, h⟩ <;> rcases h' with ⟨h1, rfl, rfl, rfl⟩ | ⟨t', h1, h'⟩
  · exact ⟨rfl, rfl, rfl⟩
  · rw [h0] at h1; cases h1
  · rw [h0] at h1; cases h1
  · rw [h0] at h1
    cases h1
    rcases h with ⟨rfl, h, rfl⟩ | ⟨rfl, rfl, h, rfl⟩ <;> rcases h' with ⟨rfl, h', rfl⟩ | ⟨rfl, rfl, h', rfl⟩
    · exact ⟨mnIs_one h' h, rfl, rfl⟩
    · exact absurd h (h' _)
    · exact absurd h' (h _)
    · exact ⟨rfl, rfl, rfl⟩
end CmPlain
def LdGot (T : Asn) (s : St) (B : Nat → Prop) (w : World) (e : Ending) (w' : World) : Prop := ∃ (m : Mn) (a : Option Addr) (c : Nat) (b : Bool) (code : Int), e = .returned (.tuple #[.agg #[.int .i64 m.stage, .int .i64 m.pass, .slice a m.files.length c], .bool b, .int .i64 code]) ∧ m.files.length ≤ maxLen ∧ ldIs (loadE s) m b code ∧ ∃ B', star (FlA (.slice a m.files.length c) m.files) T w' B' ∧ Nx B w B' w'
theorem ld_star {T : Asn} (hT : Fr T) {B B1 : Nat → Prop} {w u w' : World} {v : Value} {l : List Fl} (h : LiesFl w' v l) (hn : NewFl u v) (low : ∀ b, B1 b → b < u.heap.size) (t : T w' B1) (n : Nx B w B1 w') (g : w.heap.size ≤ u.heap.size) : ∃ B', star (FlA v l) T w' B' ∧ Nx B w B' w' := by
  obtain ⟨B2, k, hk⟩ := fl_new h hn
  refine ⟨fun b => B2 b ∨ B1 b, ⟨B2, B1, k, t, fun b h2 h1 => ?_, fun _ => Iff.rfl⟩, n.only, fun b hb => ?_⟩
  · have := hk b h2; have := low b h1; omega
  · rcases hb with hb | hb
    · have := hk b hb; exact .inr (by omega)
    · exact n.new b hb
theorem ld_nil {T : Asn} {B B1 : Nat → Prop} {w w' : World} (t : T w' B1) (n : Nx B w B1 w') : ∃ B', star (FlA (.slice none ([] : List Fl).length 0) []) T w' B' ∧ Nx B w B' w' :=
  ⟨B1, ⟨fun _ => False, B1, ⟨liesFl_nil w', fun _ h => h.elim, .inl rfl⟩, t, fun _ h => h.elim, fun b => (false_or _).symm ▸ Iff.rfl⟩, n⟩
theorem ld_none {T : Asn} {B : Nat → Prop} {s : St} {w w' : World} {code : Int} (h : loadE s = (code, none)) (k : ∃ B', T w' B' ∧ Nx B w B' w') : LdGot T s B w (.returned (.tuple #[.agg #[.int .i64 0, .int .i64 0, .slice none 0 0], .bool false, .int .i64 code])) w' := by
  obtain ⟨B', t, n⟩ := k
  exact ⟨⟨0, 0, []⟩, none, 0, false, code, rfl, by unfold maxLen; simp, .inl ⟨by rw [h], rfl, rfl, by rw [h]⟩, ld_nil t n⟩
theorem ld_bad {T : Asn} {B : Nat → Prop} {s : St} {w w' : World} {t : List UInt8} (h : loadE s = (0, some t)) (hn : ∀ m, ¬ mnIs (bs t) m) (k : ∃ B', T w' B' ∧ Nx B w B' w') : LdGot T s B w (.returned (.tuple #[.agg #[.int .i64 0, .int .i64 0, .slice none 0 0], .bool false, .int .i64 6])) w' := by
  obtain ⟨B', q, n⟩ := k
  exact ⟨⟨0, 0, []⟩, none, 0, false, 6, rfl, by unfold maxLen; simp, .inr ⟨t, by rw [h], .inr ⟨rfl, rfl, hn, rfl⟩⟩, ld_nil q n⟩
theorem ld_good {T : Asn} {B : Nat → Prop} {s : St} {w w' : World} {t : List UInt8} {m : Mn} {a : Option Addr} {c : Nat} (h : loadE s = (0, some t)) (hm : mnIs (bs t) m) (hz : m.files.length ≤ maxLen) (k : ∃ B', star (FlA (.slice a m.files.length c) m.files) T w' B' ∧ Nx B w B' w') : LdGot T s B w (.returned (.tuple #[.agg #[.int .i64 m.stage, .int .i64 m.pass, .slice a m.files.length c], .bool true, .int .i64 0])) w' := ⟨m, a, c, true, 0, rfl, hz, .inr ⟨t, by rw [h], .inl ⟨rfl, hm, rfl⟩⟩, k⟩
theorem LiesFl.stay2 {w w' : World} {v : Value} {l : List Fl} {q : Nat} {T : TypeId} (h : LiesFl w v l) (hq : w.heap[q]? = some (.cells #[.int .i64 0, .int .i64 0, .slice none 0 0] T (0, 0))) (o : Only (fun i => i = q) w w') : LiesFl w' v l := by
  cases l with
  | nil =>
    obtain ⟨a, c, e, hc, _⟩ := h
    exact ⟨a, c, e, hc, .inl rfl⟩
  | cons x r =>
    refine h.stay o fun b n c e => ?_
    obtain ⟨a', c', e', _, h⟩ := h
    rcases h with h | ⟨b', off, e2, hr⟩
    · cases h
    · rw [e'] at e
      simp only [Value.slice.injEq] at e
      rw [e2] at e
      obtain ⟨e3, _, _⟩ := e
      have hb : b = ⟨b', off, none⟩ := (Option.some.inj e3).symm
      subst hb
      intro hbq
      have hbq' : b' = q := hbq
      subst hbq'
      have k := (hr.2 0 x rfl).1
      rw [cells_at hq] at k
      match off, k with
      | 0, k => simp at k
      | 1, k => simp at k
      | 2, k => simp at k
      | off + 3, k => simp at k
theorem size_nat (s : St) (n : List UInt8) : ∃ k : Nat, (sizeR s n).1 = (k : Int) ∧ k ≤ used s.fs := by
  unfold sizeR
  split
  · exact ⟨0, rfl, Nat.zero_le _⟩
  · split
    · exact ⟨0, rfl, Nat.zero_le _⟩
    · next f hf => exact ⟨f.data.length, rfl, used_le (get_mem hf)⟩
end Go.Proofs.YtignfbdgpgidpaaGreatDoor
/- The program's layer 20: Load. -/
namespace Go.Proofs.YtignfbdgpgidpaaGreatDoor
open Go.RowKit FsPlain CrcPlain OctPlain MnPlain CmPlain
set_option linter.unusedVariables false
set_option linter.unusedSimpArgs false
set_option maxRecDepth 20000
set_option maxHeartbeats 8000000 in
theorem cload20_c (p : Nat) (s : St) (w : World) (B : Nat → Prop) (hd : DiskA p s w B) (h1 : s.calls ≤ 1000000000) (hu : used s.fs ≤ 16777216) (hz : ∀ t, (loadE s).2 = some t → t.length ≤ 700) :
    Calls Tryz.prog 97 #[.pointer (some ⟨p, 0, none⟩)] w (LdGot (DiskA p (loadT s)) s B w) := by
  obtain ⟨W, hW⟩ : ∃ W, W = w.alloc (.cells #[.int .i64 0, .int .i64 0, .slice none 0 0] 27) := ⟨_, rfl⟩
  have gW : Gr w W := by rw [hW]; exact gr19 _ _
  have hzW : W.heap.size = w.heap.size + 1 := by rw [hW]; simp
  have yW : W.heap[w.heap.size]? = some (.cells #[.int .i64 0, .int .i64 0, .slice none 0 0] 27 (0, 0)) := by rw [hW]; exact heap_alloc_new w _
  have hBl : ∀ b, B b → b < w.heap.size := (fr_disk p s).lo hd
  have GD : DiskA p s W B := star_gr (fr_disk p s) hd gW
  have KB := Lib.hid (fun (t : St) (u : World) (B1 : Nat → Prop) (h : DiskA p t u B1) (n : Nx B W B1 u) => (n.only.block _ (by omega) (fun e => by have := hBl _ e; omega)).trans yW)
  have KZ := Lib.hid (fun (t : St) (u : World) (B1 : Nat → Prop) (h : DiskA p t u B1) (n : Nx B W B1 u) (x : u.heap[w.heap.size]? = some (.cells #[.int .i64 0, .int .i64 0, .slice none 0 0] 27 (0, 0))) (a b c : Value) => by
    obtain ⟨q1, q2⟩ := mn_store2 x rfl a b c
    have hn : ∀ k, B1 k → ¬ (k = w.heap.size) := fun k hk e => by
      rcases n.new k hk with h1 | h1
      · have := hBl k h1; omega
      · omega
    exact (⟨q1, q2, (fr_disk p t).fr h q2 hn, (n.only.trans (Only.refl _ _) |> fun o => (⟨(Only.ofGr gW).trans o |>.andThen q2 fun k e => .inr (by omega), fun k hk => (n.new k hk).imp id fun h2 => by omega⟩ : Nx B w B1 _))⟩ : (((u.setCell ⟨w.heap.size, 0, none⟩ a).setCell ⟨w.heap.size, 1, none⟩ b).setCell ⟨w.heap.size, 2, none⟩ c).heap[w.heap.size]? = some (.cells #[a, b, c] 27 (0, 0)) ∧ Only (fun i => i = w.heap.size) u (((u.setCell ⟨w.heap.size, 0, none⟩ a).setCell ⟨w.heap.size, 1, none⟩ b).setCell ⟨w.heap.size, 2, none⟩ c) ∧ DiskA p t (((u.setCell ⟨w.heap.size, 0, none⟩ a).setCell ⟨w.heap.size, 1, none⟩ b).setCell ⟨w.heap.size, 2, none⟩ c) B1 ∧ Nx B w B1 (((u.setCell ⟨w.heap.size, 0, none⟩ a).setCell ⟨w.heap.size, 1, none⟩ b).setCell ⟨w.heap.size, 2, none⟩ c)))
  have ZC := Lib.hid (fun (u : World) (x : u.heap[w.heap.size]? = some (.cells #[.int .i64 0, .int .i64 0, .slice none 0 0] 27 (0, 0))) => (⟨by rw [cells_at x]; rfl, by rw [cells_at x]; rfl, by rw [cells_at x]; rfl, cells_free x 0, cells_free x 1, cells_free x 2⟩ : u.cell? ⟨w.heap.size, 0, none⟩ = some (.int .i64 0) ∧ u.cell? ⟨w.heap.size, 1, none⟩ = some (.int .i64 0) ∧ u.cell? ⟨w.heap.size, 2, none⟩ = some (.slice none 0 0) ∧ u.frozen? ⟨w.heap.size, 0, none⟩ = false ∧ u.frozen? ⟨w.heap.size, 1, none⟩ = false ∧ u.frozen? ⟨w.heap.size, 2, none⟩ = false))
  obtain ⟨n1, hn1, hn2⟩ := size_nat s nameL
  obtain ⟨e1, he1⟩ : ∃ r, (sizeR s nameL).2 = r := ⟨_, rfl⟩
  have LK := look_c p s nameS (by decide) name_right (by omega) W B GD
  rw [show nameS.data.toList = nameL from rfl] at LK
  obtain ⟨⟨t, e2⟩, hr2⟩ : ∃ q, readR s.call nameL 0 n1 = q := ⟨_, rfl⟩
  have RD := Lib.hid (fun u B1 (hh : DiskA p s.call u B1) => (show Calls Tryz.prog 118 #[.pointer (some ⟨p, 0, none⟩), .string ⟨#[109, 97, 110, 105, 102, 101, 115, 116]⟩, .int .i64 0, .int .i64 (n1 : Int)] u (Does u B1 (DiskA p s.call.call) (.tuple #[.string (bs t), .int .i64 e2])) from by
    have := d_read p s.call nameS 0 n1 (by decide) name_right (by show s.calls + 1 ≤ _; omega) (by omega) (by omega) u B1 hh
    rw [show readR s.call nameS.data.toList 0 n1 = (t, e2) from hr2] at this
    exact this))
  have hLE : loadE s = if e1 = 2 then (0, none) else if e1 ≠ 0 then (e1, none) else if e2 ≠ 0 then (e2, none) else (0, some t) := by
    unfold loadE
    rw [he1, hn1, Int.toNat_natCast, hr2]
  have hLT : loadT s = if e1 = 0 then s.call.call else s.call := by unfold loadT; rw [he1]
  rw [hLT]
  have HW := Lib.hid hW
  have HS := Lib.hid (show w.heap.size ≤ W.heap.size from gW.size)
  by_cases c2 : e1 = 0
  · subst c2
    rw [if_pos rfl]
    have lk : lookN s nameL = (n1 : Int) ∧ lookB s nameL = true ∧ lookC s nameL = 0 := by
      unfold lookN lookB lookC
      rw [he1, hn1]
      exact ⟨rfl, rfl, rfl⟩
    rw [lk.1, lk.2.1, lk.2.2] at LK
    have SZ := Lib.hid (show Calls Tryz.prog 89 #[.pointer (some ⟨p, 0, none⟩), .string ⟨#[109, 97, 110, 105, 102, 101, 115, 116]⟩] W (Does W B (DiskA p s.call) (.tuple #[.int .i64 (n1 : Int), .bool true, .int .i64 0])) from LK)
    clear hW gW hzW yW hBl GD hd hn1 hn2 he1 hr2 hLT hu LK lk
    by_cases c3 : e2 = 0
    · subst c3
      have hle := Lib.hid (show loadE s = (0, some t) by rw [hLE, if_neg (by decide), if_neg (by decide), if_neg (by decide)])
      have ht := hz t (by rw [hle.out])
      have GT := Lib.hid (fun u => get19_c (bs t) (by rw [bs_size]; omega) u)
      clear hLE ht hz
      go_enter Tryz.func97, Tryz.ntmps97
      go_wp2_with fail
      rw [← HW.out]
      refine SZ.out.mono ?_; rintro e u1 ⟨rfl, B1, dd, nn⟩
      have D1 := Lib.hid (show DiskA p s.call u1 B1 ∧ Nx B W B1 u1 from ⟨dd, nn⟩)
      clear dd nn
      have RD1 := Lib.hid (RD.out u1 B1 D1.out.1)
      go_wp2_with fail
      refine RD1.out.mono ?_; rintro e u2 ⟨rfl, B2, dd, nn⟩
      have D2 := Lib.hid (show DiskA p s.call.call u2 B2 ∧ Nx B W B2 u2 from ⟨dd, D1.out.2.trans nn⟩)
      clear dd nn RD1
      go_wp2_with fail
      refine (GT.out u2).mono ?_; intro e u3 h3
      obtain ⟨m, ma, mc, b, rfl, hm, hml, hgt, g3, hnv⟩ := gt_cases2 h3
      have NV2 := Lib.hid (show NewFl u2 (.slice ma m.files.length mc) ∧ (∀ b, B2 b → b < u2.heap.size) ∧ w.heap.size ≤ u2.heap.size from ⟨hnv, fun b hb => (fr_disk p _).lo D2.out.1 b hb, by have := D2.out.2.only.size; have := HS.out; omega⟩)
      clear hnv
      obtain ⟨V, hV⟩ : ∃ V, u3.alloc (.cells #[.int .i64 m.stage, .int .i64 m.pass, .slice ma m.files.length mc] 27) = V := ⟨_, rfl⟩
      have gV : Gr u3 V := by rw [← hV]; exact gr19 _ _
      have bV := mnB_at (show V.heap[u3.heap.size]? = some (.cells #[.int .i64 m.stage, .int .i64 m.pass, .slice ma m.files.length mc] 27 (0, 0)) by rw [← hV]; exact heap_alloc_new u3 _)
      obtain ⟨k0, k1, k2⟩ := bV
      have hmV := hm.gr gV
      have DV : DiskA p s.call.call V B2 := star_gr (fr_disk p _) D2.out.1 (g3.trans gV)
      have NV : Nx B W B2 V := D2.out.2.trans (Nx.gr (g3.trans gV))
      have xV := KB.out _ V B2 DV NV
      obtain ⟨c0, c1', c2', f0, f1, f2⟩ := ZC.out V xV
      rcases hgt with ⟨rfl, hmi⟩ | ⟨rfl, rfl, hno⟩
      · have z := KZ.out _ V B2 DV NV xV (.int .i64 m.stage) (.int .i64 m.pass) (.slice ma m.files.length mc)
        have Z := Lib.hid z
        have LS := Lib.hid (hmV.stay2 xV z.2.1)
        have HM := Lib.hid (And.intro hmi hml)
        clear h3 hm hml hmi g3 gV hmV DV NV xV z
        go_wp2_with fail
        exact bodyPost_ret (mn_results3 rfl rfl rfl rfl Z.out.1) rfl (by exact ld_good hle.out HM.out.1 HM.out.2 (ld_star (fr_disk p _) LS.out NV2.out.1 NV2.out.2.1 Z.out.2.2.1 Z.out.2.2.2 NV2.out.2.2))
      · have Z := Lib.hid (KZ.out _ V B2 DV NV xV (.int .i64 0) (.int .i64 0) (.slice none 0 0))
        have HN := Lib.hid hno
        dsimp only [List.length_nil] at hV k0 k1 k2 ⊢
        clear h3 hm hml hno g3 gV hmV DV NV xV
        go_wp2_with fail
        exact bodyPost_ret (mn_results3 rfl rfl rfl rfl Z.out.1) rfl (by exact ld_bad hle.out HN.out ⟨_, Z.out.2.2⟩)
    · have hle := Lib.hid (show loadE s = (e2, none) by rw [hLE, if_neg (by decide), if_neg (by decide), if_pos c3])
      have q3 : (e2 != 0) = true := by simpa using c3
      clear hLE c3 hz
      go_enter Tryz.func97, Tryz.ntmps97
      go_wp2_with fail
      rw [← HW.out]
      refine SZ.out.mono ?_; rintro e u1 ⟨rfl, B1, dd, nn⟩
      have D1 := Lib.hid (show DiskA p s.call u1 B1 ∧ Nx B W B1 u1 from ⟨dd, nn⟩)
      clear dd nn
      have RD1 := Lib.hid (RD.out u1 B1 D1.out.1)
      go_wp2_with fail
      refine RD1.out.mono ?_; rintro e u2 ⟨rfl, B2, dd, nn⟩
      have D2 := Lib.hid (show DiskA p s.call.call u2 B2 ∧ Nx B W B2 u2 from ⟨dd, D1.out.2.trans nn⟩)
      clear dd nn RD1
      have xu := KB.out _ u2 B2 D2.out.1 D2.out.2
      obtain ⟨c0, c1', c2', f0, f1, f2⟩ := ZC.out u2 xu
      have Z := Lib.hid (KZ.out _ u2 B2 D2.out.1 D2.out.2 xu (.int .i64 0) (.int .i64 0) (.slice none 0 0))
      clear xu
      go_wp2_with fail
      exact bodyPost_ret (mn_results3 rfl rfl rfl rfl Z.out.1) rfl (by exact ld_none hle.out ⟨_, Z.out.2.2⟩)
  · rw [if_neg c2]
    obtain ⟨ec, hec⟩ : ∃ r, lookC s nameL = r := ⟨_, rfl⟩
    obtain ⟨en, hen⟩ : ∃ r, lookN s nameL = r := ⟨_, rfl⟩
    have hb : lookB s nameL = false := by unfold lookB; rw [he1]; exact decide_eq_false c2
    have hle := Lib.hid (show loadE s = (ec, none) by
      rw [hLE, ← hec]
      unfold lookC
      rw [he1]
      by_cases c1 : e1 = 2
      · rw [if_pos c1, if_pos c1]
      · rw [if_neg c1, if_neg c1, if_pos c2])
    rw [hb, hec, hen] at LK
    have SZ := Lib.hid (show Calls Tryz.prog 89 #[.pointer (some ⟨p, 0, none⟩), .string ⟨#[109, 97, 110, 105, 102, 101, 115, 116]⟩] W (Does W B (DiskA p s.call) (.tuple #[.int .i64 en, .bool false, .int .i64 ec])) from LK)
    clear hW gW hzW yW hBl GD hd hn1 hn2 he1 hr2 hLT hu LK hLE c2 hb hec hen hz
    go_enter Tryz.func97, Tryz.ntmps97
    go_wp2_with fail
    rw [← HW.out]
    refine SZ.out.mono ?_; rintro e u1 ⟨rfl, B1, dd, nn⟩
    have D1 := Lib.hid (show DiskA p s.call u1 B1 ∧ Nx B W B1 u1 from ⟨dd, nn⟩)
    clear dd nn
    have xu := KB.out _ u1 B1 D1.out.1 D1.out.2
    obtain ⟨c0, c1', c2', f0, f1, f2⟩ := ZC.out u1 xu
    have Z := Lib.hid (KZ.out _ u1 B1 D1.out.1 D1.out.2 xu (.int .i64 0) (.int .i64 0) (.slice none 0 0))
    clear xu
    go_wp2_with fail
    exact bodyPost_ret (mn_results3 rfl rfl rfl rfl Z.out.1) rfl (by exact ld_none hle.out ⟨_, Z.out.2.2⟩)
end Go.Proofs.YtignfbdgpgidpaaGreatDoor
/- Plain facts of commit: the files that it writes stay small. -/
namespace Go.Proofs.YtignfbdgpgidpaaGreatDoor
open Go.RowKit FsPlain
set_option linter.unusedVariables false
set_option linter.unusedSimpArgs false
namespace CmPlain
def Sm (s : St) (n : List UInt8) : Prop := ∀ f, s.get n = some f → f.data.length ≤ 700
theorem Sm.same {s t : St} {n : List UInt8} (h : Sm s n) (e : t.get n = s.get n) : Sm t n := fun f hf => h f (by rw [← e]; exact hf)
end CmPlain
end Go.Proofs.YtignfbdgpgidpaaGreatDoor
/- The document's disk: Rise with whatever stays. -/
namespace Go.Proofs.YtignfbdgpgidpaaGreatDoor
open Go.RowKit FsPlain
set_option linter.unusedVariables false
set_option linter.unusedSimpArgs false
set_option maxRecDepth 20000
end Go.Proofs.YtignfbdgpgidpaaGreatDoor
/- An argument that is a slice of tries: a manifest, a fall, what stays. -/
namespace Go.Proofs.YtignfbdgpgidpaaGreatDoor
open Go.RowKit Go.ChangeShapes Go.WideShapes Go.Deep MnPlain
set_option linter.unusedVariables false
set_option linter.unusedSimpArgs false
set_option maxRecDepth 20000
end Go.Proofs.YtignfbdgpgidpaaGreatDoor
/- The program's disk as a part of a world: what its other calls leave. -/
namespace Go.Proofs.YtignfbdgpgidpaaGreatDoor
open Go.RowKit Go.Maps FsPlain
set_option linter.unusedVariables false
set_option linter.unusedSimpArgs false
set_option maxRecDepth 20000
end Go.Proofs.YtignfbdgpgidpaaGreatDoor
/- Few tries; what else a law of commit asks of both disks. -/
namespace Go.Proofs.YtignfbdgpgidpaaGreatDoor
open Go.RowKit FsPlain MnPlain
set_option linter.unusedVariables false
set_option linter.unusedSimpArgs false
set_option maxRecDepth 20000
end Go.Proofs.YtignfbdgpgidpaaGreatDoor
