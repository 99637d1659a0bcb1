/- In one text: CmS, FlPart, CmLoad. -/
import Derived.Test.YtckmciafonnohaaP36
import Derived.Test.YtckmciafonnohaaP35
import Derived.Test.YtckmciafonnohaaP25
/- The program's layer 20: Save. -/
namespace Go.Proofs.Ytckmciafonnohaa
open Go.RowKit FsPlain CrcPlain OctPlain MnPlain CmPlain
set_option linter.unusedVariables false
set_option linter.unusedSimpArgs false
set_option maxRecDepth 20000
/-- The step at i, as it is called. -/
def stepF (i : Nat) : FuncId := match i with
  | 0 => 27
  | 1 => 28
  | 2 => 30
  | 3 => 32
  | 4 => 34
  | _ => 36
def stepG (th S0 D0 i : Nat) : Array Value := match i with
  | 0 => #[.pointer (some ⟨D0, 0, none⟩), .pointer (some ⟨th, 0, none⟩)]
  | 1 => #[.pointer (some ⟨th, 0, none⟩), .pointer (some ⟨D0, 0, none⟩)]
  | 2 => #[.pointer (some ⟨D0, 0, none⟩)]
  | 3 => #[.pointer (some ⟨D0, 0, none⟩), .pointer (some ⟨S0, 0, none⟩)]
  | 4 => #[.pointer (some ⟨D0, 0, none⟩)]
  | _ => #[.pointer (some ⟨D0, 0, none⟩)]
/-- Ahead of the step at i: what is left makes just T. -/
def SvAt (A : Nat → Prop) (p F th S0 D0 : Nat) (x : ByteArray) (c : Int) (T : St × Int) (w : World) (v : Value) (wr : World) : Prop :=
  ∃ (i : Nat) (b : Bool) (t : St), i ≤ 6 ∧ v = .int .i64 (i : Int) ∧ t.calls ≤ c + i ∧ finR x.data.toList (6 - i) b t = T ∧ Qs A (StL p F th S0 D0 x t b) w wr
theorem sv_step {A : Nat → Prop} {p F th S0 D0 : Nat} {x : ByteArray} {c : Int} {T : St × Int} {w u : World} {i : Nat} {b : Bool} {t : St} (hi : i < 6) (hc : t.calls ≤ c + i) (hf : finR x.data.toList (6 - i) b t = T) (h : Qs A (StL p F th S0 D0 x (nxtR x.data.toList i b t).1 (nxtB i b t)) w u) :
    ((nxtR x.data.toList i b t).2 = 0 ∧ SvAt A p F th S0 D0 x c T w (.int .i64 ((i : Int) + 1)) u) ∨ ((nxtR x.data.toList i b t).2 ≠ 0 ∧ T = nxtR x.data.toList i b t) := by
  have e : 6 - i = (5 - i) + 1 := by omega
  have e5 : 5 - (5 - i) = i := by omega
  rw [e] at hf
  unfold finR at hf
  rw [e5] at hf
  by_cases hz : (nxtR x.data.toList i b t).2 = 0
  · rw [thenR_yes hz] at hf
    refine .inl ⟨hz, i + 1, _, _, by omega, by rw [Int.natCast_add]; rfl, ?_, ?_, h⟩
    · have := nxt_calls x.data.toList i b t; omega
    · rw [show 6 - (i + 1) = 5 - i by omega]; exact hf
  · rw [thenR_no hz] at hf
    exact .inr ⟨hz, hf.symm⟩
set_option maxHeartbeats 8000000 in
theorem csave20_c (p : Nat) (s : St) (m : Mn) {a : Option Addr} {n c : Nat} (w : World) (B : Nat → Prop) (hd : DiskA p s w B) (h1 : s.calls ≤ 1000000000) (h : LiesFl w (.slice a n c) m.files) (hl : m.files.length ≤ maxLen) (hK : ∀ f ∈ m.files, flK f) :
    Calls Try.prog 8 #[.pointer (some ⟨p, 0, none⟩), .agg #[.int .i64 m.stage, .int .i64 m.pass, .slice a n c]] w fun e w' => e = .returned (.int .i64 (saveR s m).2) ∧ ∃ B', DiskA p (saveR s m).1 w' B' ∧ Nx B w B' w' := by
  have g0 := gr19 w (.cells #[.int .i64 m.stage, .int .i64 m.pass, .slice a n c] 31)
  have PT := Lib.hid (put19_c m _ (h.gr g0) hl hK)
  obtain ⟨x, hx⟩ : ∃ x, ptS m = x := ⟨_, rfl⟩
  have hxs := ptS_size (m := m)
  obtain ⟨mb, hmb⟩ : ∃ b, mnB m = b := ⟨_, rfl⟩
  unfold saveR
  rw [hx, hmb] at PT ⊢
  rw [hx] at hxs
  have GD := Lib.hid (fun u (g : Gr (w.alloc (.cells #[.int .i64 m.stage, .int .i64 m.pass, .slice a n c] 31)) u) => (⟨star_gr (fr_disk p s) hd (g0.trans g), Nx.gr (g0.trans g)⟩ : DiskA p s u B ∧ Nx B w B u))
  clear h hl hK hx hmb g0 hd
  cases mb with
  | false =>
    go_enter Try.func8, Try.ntmps8
    go_wp2_with fail
    refine PT.out.mono ?_; rintro e u ⟨rfl, g⟩
    have G := Lib.hid (GD.out u g)
    clear g
    go_wp2_with fail
    go_ret
    exact ⟨rfl, B, G.out.1, G.out.2⟩
  | true =>
    rw [if_pos rfl]
    obtain ⟨T, hT⟩ : ∃ T, saveS s x.data.toList = T := ⟨_, rfl⟩
    rw [hT]
    have HT := Lib.hid ((fin_save s x.data.toList).trans hT)
    have HX := Lib.hid (show x.size ≤ 1000000000 by omega)
    have H1 := Lib.hid h1
    clear hT hxs h1
    go_enter Try.func8, Try.ntmps8
    go_wp2_with fail
    refine PT.out.mono ?_; rintro e u ⟨rfl, g⟩
    have SC := Lib.hid (steps_c (x := x) (Qs.one (A := B) (w := w) (fr_disk p s) (GD.out u g).1 (GD.out u g).2))
    clear g PT GD
    go_wp2_with fail
    refine SC.out.mono ?_; rintro e u2 ⟨F, th, S0, D0, rfl, d⟩
    have D := Lib.hid d
    clear d SC
    go_wp2_with fail
    go_loopw [21] (fun v wr => SvAt B p F th S0 D0 x s.calls T w v wr) (fun v _ => 6 - (intOf v).toNat)
    case atStart => exact ⟨0, false, s, by omega, rfl, by omega, HT.out, D.out⟩
    case round =>
      obtain ⟨i, b, t, hi, rfl, hc, hf, d⟩ := hrel
      have HC := Lib.hid (show t.calls ≤ s.calls + (i : Int) ∧ t.calls ≤ 1000000000000 from ⟨hc, by have := H1.out; omega⟩)
      have hfo := Lib.hid hf
      have DD := Lib.hid d
      have kF := d.blk 1 rfl
      by_cases hlt : i < 6
      · have hcs : i = 0 ∨ i = 1 ∨ i = 2 ∨ i = 3 ∨ i = 4 ∨ i = 5 := by omega
        obtain ⟨hfa, hst⟩ : wr.cell? ⟨F, i, none⟩ = some (.func (.func (stepF i)) #[] (stepG th S0 D0 i)) ∧ Calls Try.prog (stepF i) (stepG th S0 D0 i) wr (fun e w' => e = .returned (.int .i64 (nxtR x.data.toList i b t).2) ∧ Qs B (StL p F th S0 D0 x (nxtR x.data.toList i b t).1 (nxtB i b t)) w w') := by
          rcases hcs with rfl | rfl | rfl | rfl | rfl | rfl
          · exact ⟨by rw [cells_at kF]; rfl, st1_c d HC.out.2⟩
          · exact ⟨by rw [cells_at kF]; rfl, st2_c d HC.out.2⟩
          · exact ⟨by rw [cells_at kF]; rfl, st3_c d HC.out.2⟩
          · exact ⟨by rw [cells_at kF]; rfl, st4_c d HC.out.2 HX.out⟩
          · exact ⟨by rw [cells_at kF]; rfl, st5_c d HC.out.2⟩
          · exact ⟨by rw [cells_at kF]; rfl, st6_c d HC.out.2⟩
        obtain ⟨N, hN⟩ : ∃ N, nxtR x.data.toList i b t = N := ⟨_, rfl⟩
        have HN := Lib.hid hN
        rw [hN] at hst
        clear d kF hf hc hN
        rcases hcs with rfl | rfl | rfl | rfl | rfl | rfl
        all_goals
          dsimp only [stepF, stepG] at hfa hst
          have hst := Lib.hid hst
          go_wp2_with fail
          refine hst.out.mono ?_; rintro e u3 ⟨rfl, d3⟩
          have hs := sv_step (w := w) (u := u3) hlt HC.out.1 hfo.out (by rw [HN.out]; exact d3)
          rw [HN.out] at hs
          rcases hs with ⟨hz, hsv⟩ | ⟨hz, hTe⟩
          · have HS := Lib.hid hsv
            have q2 : (N.2 != 0) = false := by simpa using hz
            clear d3 hsv hz
            go_wp2_with fail
            refine ⟨HS.out, ?_⟩
            simp [intOf]
          · have q2 : (N.2 != 0) = true := by simpa using hz
            have D3 := Lib.hid d3
            have HE := Lib.hid hTe
            clear d3 hTe hz
            go_wp2_with fail
            go_ret
            rw [HE.out]
            obtain ⟨B1, hb1, hn1⟩ : ∃ B', DiskA p N.1 u3 B' ∧ Nx B w B' u3 := by
              obtain ⟨_, B3, ⟨B1, B2, q, _, _, e⟩, n⟩ := D3.out
              exact ⟨B1, q, n.trans ⟨Only.refl _ _, fun b hb => .inl ((e b).2 (.inl hb))⟩⟩
            exact ⟨rfl, B1, hb1, hn1⟩
      · obtain rfl : i = 6 := by omega
        have hT : T = (t, 0) := hf.symm
        have D3 := Lib.hid d
        have HE := Lib.hid hT
        clear d kF hf hc hT hlt
        go_wp2_with fail
        go_ret
        rw [HE.out]
        obtain ⟨B1, hb1, hn1⟩ : ∃ B', DiskA p t wr B' ∧ Nx B w B' wr := by
          obtain ⟨_, B3, ⟨B1, B2, q, _, _, e⟩, n⟩ := D3.out
          exact ⟨B1, q, n.trans ⟨Only.refl _ _, fun b hb => .inl ((e b).2 (.inl hb))⟩⟩
        exact ⟨rfl, B1, hb1, hn1⟩
end Go.Proofs.Ytckmciafonnohaa
/- A slice of files as a part. -/
namespace Go.Proofs.Ytckmciafonnohaa
open Go.RowKit FsPlain MnPlain
set_option linter.unusedVariables false
set_option linter.unusedSimpArgs false
set_option maxRecDepth 20000
def FlA (v : Value) (l : List Fl) : Asn := fun w B => LiesFl w v l ∧ (∀ b, B b → b < w.heap.size) ∧ (l = [] ∨ ∃ b o n c, v = .slice (some ⟨b, o, none⟩) n c ∧ B b)
theorem fr_fl (v : Value) (l : List Fl) : Fr (FlA v l) where
  fr := fun {w w' B C} ⟨h, hl, hb⟩ o d => by
    refine ⟨?_, fun b hb => Nat.lt_of_lt_of_le (hl b hb) o.size, hb⟩
    obtain ⟨a, c, e, hc, h⟩ := h
    rcases h with h | ⟨b, off, e2, k⟩
    · exact ⟨a, c, e, hc, .inl h⟩
    · rcases hb with hb | ⟨b', o', n', c', e3, hB⟩
      · exact ⟨a, c, e, hc, .inl hb⟩
      · rw [e, e2] at e3
        simp only [Value.slice.injEq, Option.some.injEq, Addr.mk.injEq] at e3
        obtain ⟨⟨hbb, _, _⟩, _, _⟩ := e3
        have hn : ¬ C b := by rw [hbb]; exact d b' hB
        refine ⟨a, c, e, hc, .inr ⟨b, off, e2, Nat.lt_of_lt_of_le k.1 o.size, fun j x hj => ?_⟩⟩
        obtain ⟨k0, k1, k2, k3⟩ := k.2 j x hj
        exact ⟨(o.cell (p := ⟨b, _, none⟩) k.1 hn).trans k0, (o.cell (p := ⟨b, _, none⟩) k.1 hn).trans k1, (o.cell (p := ⟨b, _, none⟩) k.1 hn).trans k2, (o.cell (p := ⟨b, _, none⟩) k.1 hn).trans k3⟩
  lo := fun ⟨_, hl, _⟩ => hl
/-- What is new lies in new blocks. -/
theorem fl_new {w w' : World} {v : Value} {l : List Fl} (h : LiesFl w' v l) (hn : NewFl w v) : ∃ B, FlA v l w' B ∧ ∀ b, B b → w.heap.size ≤ b := by
  obtain ⟨a, c, e, hc, k⟩ := id h
  rcases k with k | ⟨b, off, e2, k⟩
  · exact ⟨fun _ => False, ⟨h, fun b hb => hb.elim, .inl k⟩, fun b hb => hb.elim⟩
  · refine ⟨fun x => x = b, ⟨h, fun x hx => by rw [hx]; exact k.1, .inr ⟨b, off, _, c, by rw [e, e2], rfl⟩⟩, fun x hx => ?_⟩
    rw [hx]
    exact hn ⟨b, off, none⟩ _ _ (by rw [e, e2])
theorem fl_lies {w : World} {B : Nat → Prop} {v : Value} {l : List Fl} (h : FlA v l w B) : LiesFl w v l := h.1
end Go.Proofs.Ytckmciafonnohaa
/- The document's answers of layer 20: Load. -/
namespace Go.Proofs.Ytckmciafonnohaa
open Go.RowKit FsPlain CrcPlain OctPlain MnPlain CmPlain
set_option linter.unusedVariables false
set_option linter.unusedSimpArgs false
set_option maxRecDepth 20000
theorem results_cell_tmp2 {fn : Func} {p u v : Tmp} {ty : TypeId} (h : fn.results = #[.cell p ty, .tmp u, .tmp v]) (tmps : Array Value) (P : Program) (w : World) :
    (results fn tmps).run P w =
      ((asAddr (tmps.getD p undef)).run P w).andThen fun a w₁ => ((loadVar ty a).run P w₁).andThen fun x w₂ => .ok (.tuple #[x, tmps.getD u undef, tmps.getD v undef]) w₂ := by
  simp only [results, h]
  simp [Sem.run_bind, Result.andThen]
theorem mn_results3 {fn : Func} {p q r : Tmp} (hfn : fn.results = #[.cell p 31, .tmp q, .tmp r]) {tmps : Array Value} {o : Nat} {x y z v u : Value} {w : World} (hp : tmps.getD p undef = .pointer (some ⟨o, 0, none⟩)) (hv : tmps.getD q undef = v) (hu : tmps.getD r undef = u) (hb : w.heap[o]? = some (.cells #[x, y, z] 31 (0, 0))) :
    (results fn tmps).run Try.prog w = .ok (.tuple #[.agg #[x, y, z], v, u]) w := by
  have c0 : w.cell? ⟨o, 0, none⟩ = some x := by rw [cells_at hb]; rfl
  have c1 : w.cell? ⟨o, 1, none⟩ = some y := by rw [cells_at hb]; rfl
  have c2 : w.cell? ⟨o, 2, none⟩ = some z := by rw [cells_at hb]; rfl
  rw [results_cell_tmp2 hfn, hp, hv, hu]
  simp [go_sem, c0, c1, c2]
namespace CmPlain
/-- What Load tells. -/
def ldIs (r : Int × Option (List UInt8)) (m : Mn) (b : Bool) (code : Int) : Prop := (r.2 = none ∧ m = ⟨0, 0, []⟩ ∧ b = false ∧ code = r.1) ∨ ∃ t, r.2 = some t ∧ ((b = true ∧ mnIs (bs t) m ∧ code = 0) ∨ (b = false ∧ m = ⟨0, 0, []⟩ ∧ (∀ m', ¬ mnIs (bs t) m') ∧ code = 6))
theorem ldIs_one {r : Int × Option (List UInt8)} {m m' : Mn} {b b' : Bool} {c c' : Int} (h : ldIs r m b c) (h' : ldIs r m' b' c') : m' = m ∧ b' = b ∧ c' = c := by
  rcases h with ⟨h0, rfl, rfl, rfl⟩ | ⟨t, h0, h⟩ <;> rcases h' with ⟨h1, rfl, rfl, rfl⟩ | ⟨t', h1, h'⟩
  · exact ⟨rfl, rfl, rfl⟩
  · rw [h0] at h1; cases h1
  · rw [h0] at h1; cases h1
  · rw [h0] at h1
    cases h1
    rcases h with ⟨rfl, h, rfl⟩ | ⟨rfl, rfl, h, rfl⟩ <;> rcases h' with ⟨rfl, h', rfl⟩ | ⟨rfl, rfl, h', rfl⟩
    · exact ⟨mnIs_one h' h, rfl, rfl⟩
    · exact absurd h (h' _)
    · exact absurd h' (h _)
    · exact ⟨rfl, rfl, rfl⟩
end CmPlain
/-- Load's three results; the files, and the disk behind it. -/
def LdGot (T : Asn) (s : St) (B : Nat → Prop) (w : World) (e : Ending) (w' : World) : Prop := ∃ (m : Mn) (a : Option Addr) (c : Nat) (b : Bool) (code : Int), e = .returned (.tuple #[.agg #[.int .i64 m.stage, .int .i64 m.pass, .slice a m.files.length c], .bool b, .int .i64 code]) ∧ m.files.length ≤ maxLen ∧ ldIs (loadE s) m b code ∧ ∃ B', star (FlA (.slice a m.files.length c) m.files) T w' B' ∧ Nx B w B' w'
theorem ld_star {T : Asn} (hT : Fr T) {B B1 : Nat → Prop} {w u w' : World} {v : Value} {l : List Fl} (h : LiesFl w' v l) (hn : NewFl u v) (low : ∀ b, B1 b → b < u.heap.size) (t : T w' B1) (n : Nx B w B1 w') (g : w.heap.size ≤ u.heap.size) : ∃ B', star (FlA v l) T w' B' ∧ Nx B w B' w' := by
  obtain ⟨B2, k, hk⟩ := fl_new h hn
  refine ⟨fun b => B2 b ∨ B1 b, ⟨B2, B1, k, t, fun b h2 h1 => ?_, fun _ => Iff.rfl⟩, n.only, fun b hb => ?_⟩
  · have := hk b h2; have := low b h1; omega
  · rcases hb with hb | hb
    · have := hk b hb; exact .inr (by omega)
    · exact n.new b hb
theorem ld_nil {T : Asn} {B B1 : Nat → Prop} {w w' : World} (t : T w' B1) (n : Nx B w B1 w') : ∃ B', star (FlA (.slice none ([] : List Fl).length 0) []) T w' B' ∧ Nx B w B' w' :=
  ⟨B1, ⟨fun _ => False, B1, ⟨liesFl_nil w', fun _ h => h.elim, .inl rfl⟩, t, fun _ h => h.elim, fun b => (false_or _).symm ▸ Iff.rfl⟩, n⟩
theorem ld_none {T : Asn} {B : Nat → Prop} {s : St} {w w' : World} {code : Int} (h : loadE s = (code, none)) (k : ∃ B', T w' B' ∧ Nx B w B' w') : LdGot T s B w (.returned (.tuple #[.agg #[.int .i64 0, .int .i64 0, .slice none 0 0], .bool false, .int .i64 code])) w' := by
  obtain ⟨B', t, n⟩ := k
  exact ⟨⟨0, 0, []⟩, none, 0, false, code, rfl, by unfold maxLen; simp, .inl ⟨by rw [h], rfl, rfl, by rw [h]⟩, ld_nil t n⟩
theorem ld_bad {T : Asn} {B : Nat → Prop} {s : St} {w w' : World} {t : List UInt8} (h : loadE s = (0, some t)) (hn : ∀ m, ¬ mnIs (bs t) m) (k : ∃ B', T w' B' ∧ Nx B w B' w') : LdGot T s B w (.returned (.tuple #[.agg #[.int .i64 0, .int .i64 0, .slice none 0 0], .bool false, .int .i64 6])) w' := by
  obtain ⟨B', q, n⟩ := k
  exact ⟨⟨0, 0, []⟩, none, 0, false, 6, rfl, by unfold maxLen; simp, .inr ⟨t, by rw [h], .inr ⟨rfl, rfl, hn, rfl⟩⟩, ld_nil q n⟩
theorem ld_good {T : Asn} {B : Nat → Prop} {s : St} {w w' : World} {t : List UInt8} {m : Mn} {a : Option Addr} {c : Nat} (h : loadE s = (0, some t)) (hm : mnIs (bs t) m) (hz : m.files.length ≤ maxLen) (k : ∃ B', star (FlA (.slice a m.files.length c) m.files) T w' B' ∧ Nx B w B' w') : LdGot T s B w (.returned (.tuple #[.agg #[.int .i64 m.stage, .int .i64 m.pass, .slice a m.files.length c], .bool true, .int .i64 0])) w' := ⟨m, a, c, true, 0, rfl, hz, .inr ⟨t, by rw [h], .inl ⟨rfl, hm, rfl⟩⟩, k⟩
/-- A slice of files stays while a block that begins with a number is written. -/
theorem LiesFl.stay2 {w w' : World} {v : Value} {l : List Fl} {q : Nat} {T : TypeId} (h : LiesFl w v l) (hq : w.heap[q]? = some (.cells #[.int .i64 0, .int .i64 0, .slice none 0 0] T (0, 0))) (o : Only (fun i => i = q) w w') : LiesFl w' v l := by
  cases l with
  | nil =>
    obtain ⟨a, c, e, hc, _⟩ := h
    exact ⟨a, c, e, hc, .inl rfl⟩
  | cons x r =>
    refine h.stay o fun b n c e => ?_
    obtain ⟨a', c', e', _, h⟩ := h
    rcases h with h | ⟨b', off, e2, hr⟩
    · cases h
    · rw [e'] at e
      simp only [Value.slice.injEq] at e
      rw [e2] at e
      obtain ⟨e3, _, _⟩ := e
      have hb : b = ⟨b', off, none⟩ := (Option.some.inj e3).symm
      subst hb
      intro hbq
      have hbq' : b' = q := hbq
      subst hbq'
      have k := (hr.2 0 x rfl).1
      rw [cells_at hq] at k
      match off, k with
      | 0, k => simp at k
      | 1, k => simp at k
      | 2, k => simp at k
      | off + 3, k => simp at k
theorem size_nat (s : St) (n : List UInt8) : ∃ k : Nat, (sizeR s n).1 = (k : Int) ∧ k ≤ used s.fs := by
  unfold sizeR
  split
  · exact ⟨0, rfl, Nat.zero_le _⟩
  · split
    · exact ⟨0, rfl, Nat.zero_le _⟩
    · next f hf => exact ⟨f.data.length, rfl, used_le (get_mem hf)⟩
end Go.Proofs.Ytckmciafonnohaa
